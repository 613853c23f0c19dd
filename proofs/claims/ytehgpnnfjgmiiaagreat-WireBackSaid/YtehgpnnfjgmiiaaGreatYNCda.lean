/- Contacts as values; the closures of contact.Sort; contact.Sort. Conditions: at most 1,000,000 contacts. What sorting, in order, and leaving out equal neighbours make: plain. Rows of contacts in memory. No condition. Contract of Sort of package contact. Conditions: at most 10,000 contacts. -/
import Derived.Test.YtehgpnnfjgmiiaaGreatYOja
import Derived.Test.YtehgpnnfjgmiiaaGreatYOcb
import Derived.Test.YtehgpnnfjgmiiaaGreatYOga
import Derived.Test.YtehgpnnfjgmiiaaGreatYRIis
import Derived.Test.YtehgpnnfjgmiiaaGreatYRERefc
import Derived.Test.YtehgpnnfjgmiiaaGreatYRIip
import Derived.Test.YtehgpnnfjgmiiaaGreatYREOcta
import Derived.Test.YtehgpnnfjgmiiaaGreatYNCcc
import Derived.Test.YtehgpnnfjgmiiaaGreatYNMGxa
import Derived.LoopTactic
import Derived.Lib.ConvBytes
section
namespace Go.Proofs.YtehgpnnfjgmiiaaGreat
open Go.Shelf Go.RowKit Go.Lib Go.Sort Go.Great
set_option maxRecDepth 100000
set_option maxHeartbeats 1000000
/-- A contact, as one that fits its type. -/
abbrev Con : Type := { c : Ct // CtOk c }
instance : Inhabited Con := ⟨⟨(List.replicate 20 0, 0, 0), ⟨by simp, by simp, by simp⟩⟩⟩
def encC (c : Con) : List Value := bcells c.1.1 ++ [.int .u32 (c.1.2.1 : Int), .int .u16 (c.1.2.2 : Int)]
def idC (c : Con) : IDv := ⟨c.1.1, c.2.id⟩
def kC (t : IDv) (c : Con) : Nat := kM t (idC c)
theorem encC_length (c : Con) : (encC c).length = 22 := by unfold encC; rw [List.length_append, bcells_length, c.2.id]; rfl
theorem encC_one (c : Con) : ∀ v ∈ encC c, v.oneCell' = true := by
  intro v hv
  unfold encC at hv
  rcases List.mem_append.1 hv with h | h
  · exact bcells_oneC _ v h
  · simp only [List.mem_cons, List.not_mem_nil, or_false] at h
    rcases h with rfl | rfl <;> rfl
theorem encC_id (c : Con) : encC c = encID (idC c) ++ [.int .u32 (c.1.2.1 : Int), .int .u16 (c.1.2.2 : Int)] := rfl
theorem aE60 (w : World) : (isAgg 63).run Tryz.prog w = .ok true w := by kernel_rfl
theorem zE60 (w : World) : (Go.sizeOf 63).run Tryz.prog w = .ok 22 w := by kernel_rfl
theorem zV60 (W : World) : (zeroValue 63).run Tryz.prog W = .ok (.agg (encC default).toArray) W := by kernel_rfl
theorem range_front {w : World} {g o : Nat} {a b : List Value} (h : w.rangeAt g o (a ++ b)) : w.rangeAt g o a := fun j v hv => h j v (by rw [List.getElem?_append_left (List.getElem?_eq_some_iff.1 hv).1]; exact hv)
theorem box_id {w : World} {g : Nat} {c : Con} (h : w.heap[g]? = some (.cells (encC c).toArray 63 (0, 0))) : w.rangeAt g 0 (encID (idC c)) := range_front (row_range h)
theorem clo69_g (t : IDv) (x y : Con) (p : Nat) (w : World) (hp : p < w.heap.size) (hr : w.rangeAt p 0 (encID t)) :
    Calls Tryz.prog 116 #[.agg (encC x).toArray, .agg (encC y).toArray, .pointer (some ⟨p, 0, none⟩)] w fun e w' => e = .returned (.int .i64 (cfM t (idC x) (idC y))) ∧ Grows w w' := by
  have HC := Lib.hid (fun W => mcmp_g t.val (idC x).val (idC y).val t.property (idC x).property (idC y).property W)
  change Hid (∀ W, Calls Tryz.prog 117 #[.agg (encID t).toArray, .agg (encID (idC x)).toArray, .agg (encID (idC y)).toArray] W fun e w' => e = .returned (.int .i64 (cfM t (idC x) (idC y))) ∧ Grows W w') at HC
  obtain ⟨h1, h2, hb⟩ := heap2 w (.cells (encC x).toArray 63) (.cells (encC y).toArray 63)
  have HK0 := Lib.hid (range_load26 (range_keep hr (hb.block p hp)))
  have HK1 := Lib.hid (range_load26 (box_id h1))
  have HK2 := Lib.hid (range_load26 (box_id h2))
  have HG := Lib.hid ((Grows.alloc w (.cells (encC x).toArray 63)).trans (Grows.alloc _ (.cells (encC y).toArray 63)))
  generalize (encC x).toArray = X at HC HK0 HK1 HK2 HG ⊢
  generalize (encC y).toArray = Y at HC HK0 HK1 HK2 HG ⊢
  generalize (encID (idC x)).toArray = IX at HC HK0 HK1 HK2 HG ⊢
  generalize (encID (idC y)).toArray = IY at HC HK0 HK1 HK2 HG ⊢
  generalize (encID t).toArray = T at HC HK0 HK1 HK2 HG ⊢
  generalize cfM t (idC x) (idC y) = k at HC ⊢
  clear h1 h2 hb hr hp
  go_enter Tryz.func116, Tryz.ntmps116
  go_wp2_with (first
    | ((with_reducible refine wpList_loadV (op := ⟨some 6, _, _, _, _, _⟩) rfl 24 (.tmp 2) rfl _ ?_ _ HK0.out ?_); rfl)
    | ((with_reducible refine wpList_loadV (op := ⟨some 8, _, _, _, _, _⟩) rfl 24 (.tmp 7) rfl _ ?_ _ HK1.out ?_); rfl)
    | ((with_reducible refine wpList_loadV (op := ⟨some 10, _, _, _, _, _⟩) rfl 24 (.tmp 9) rfl _ ?_ _ HK2.out ?_); rfl)
    | (go_at_call 117; (with_reducible refine (HC.out _).mono ?_); rintro e w1 ⟨rfl, hb1⟩))
  go_ret
  exact ⟨rfl, HG.out.trans hb1⟩
theorem clo72_g (x y : Con) (w : World) :
    Calls Tryz.prog 119 #[.agg (encC x).toArray, .agg (encC y).toArray] w fun e w' => e = .returned (.bool ((idC x).val == (idC y).val)) ∧ Grows w w' := by
  obtain ⟨h1, h2, hb⟩ := heap2 w (.cells (encC x).toArray 63) (.cells (encC y).toArray 63)
  have HK1 := Lib.hid (range_load26 (box_id h1))
  have HK2 := Lib.hid (range_load26 (box_id h2))
  have he := fun W => eq61 (idC x).val (idC y).val (idC x).property (idC y).property W
  change ∀ W, (Op.equalIn 10000 24 (.agg (encID (idC x)).toArray) (.agg (encID (idC y)).toArray)).run Tryz.prog W = .ok ((idC x).val == (idC y).val) W at he
  have HG := Lib.hid (fun n => ((Grows.alloc w (.cells (encC x).toArray 63)).trans (Grows.alloc _ (.cells (encC y).toArray 63))).trans (Grows.drewN _ n))
  generalize (encC x).toArray = X at HK1 HK2 HG ⊢
  generalize (encC y).toArray = Y at HK1 HK2 HG ⊢
  generalize (encID (idC x)).toArray = IX at he HK1 HK2 HG ⊢
  generalize (encID (idC y)).toArray = IY at he HK1 HK2 HG ⊢
  generalize ((idC x).val == (idC y).val) = k at he ⊢
  clear h1 h2 hb
  go_enter Tryz.func119, Tryz.ntmps119
  go_wp2_with (first
    | ((with_reducible refine wpList_loadV (op := ⟨some 6, _, _, _, _, _⟩) rfl 24 (.tmp 5) rfl _ ?_ _ HK1.out ?_); rfl)
    | ((with_reducible refine wpList_loadV (op := ⟨some 8, _, _, _, _, _⟩) rfl 24 (.tmp 7) rfl _ ?_ _ HK2.out ?_); rfl))
  go_ret
  exact ⟨rfl, HG.out 0⟩
end Go.Proofs.YtehgpnnfjgmiiaaGreat
end
section
namespace Go.Proofs.YtehgpnnfjgmiiaaGreat
open Go.Shelf Go.RowKit Go.Lib Go.Sort Go.Great
set_option maxRecDepth 100000
set_option maxHeartbeats 1000000
section
variable {α : Type} [Inhabited α] {key : α → Nat} {d d0 : Array α}
theorem seg_succ (d : Array α) (m : Nat) : seg d 0 (m + 1) = seg d 0 m ++ [d[m]!] := by
  rw [seg_append d (show 0 ≤ m by omega) (show m ≤ m + 1 by omega)]
  congr 1
  simp [seg]
theorem ddK_srt : ∀ (m : Nat), AscN key 0 m d → (ddK key d m).Pairwise (key · < key ·) ∧ (∀ x ∈ ddK key d m, key x ≤ key d[m - 1]!) ∧ ∀ x, x ∈ ddK key d m ↔ (seg d 0 m).find? (fun y => key y == key x) = some x
  | 0, _ => ⟨.nil, fun x hx => by simp [ddK] at hx, fun x => by simp [ddK, seg]⟩
  | m + 1, h => by
    obtain ⟨h1, h2, h3⟩ := ddK_srt m (h.sub (Nat.le_refl _) (by omega))
    rw [seg_succ, ddK]
    by_cases hc : m = 0 ∨ key d[m]! ≠ key d[m - 1]!
    · rw [if_pos hc]
      have hlt : ∀ y ∈ seg d 0 m, key y < key d[m]! := by
        intro y hy
        obtain ⟨i, _, hi, rfl⟩ := seg_mem hy
        rcases hc with rfl | hc
        · omega
        · have a1 := h i (m - 1) (by omega) (by omega) (by omega)
          have a2 := h (m - 1) m (by omega) (by omega) (by omega)
          omega
      have hsub : ∀ x ∈ ddK key d m, x ∈ seg d 0 m := fun x hx => List.mem_of_find?_eq_some ((h3 x).1 hx)
      refine ⟨List.pairwise_append.2 ⟨h1, List.pairwise_singleton _ _, fun a ha b hb => ?_⟩, fun x hx => ?_, fun x => ?_⟩
      · simp only [List.mem_singleton] at hb
        subst hb
        exact hlt a (hsub a ha)
      · rw [Nat.add_sub_cancel]
        rcases List.mem_append.1 hx with hx | hx
        · exact Nat.le_of_lt (hlt x (hsub x hx))
        · simp only [List.mem_singleton] at hx
          subst hx
          exact Nat.le_refl _
      · rw [List.find?_append, List.mem_append, h3 x, List.mem_singleton]
        constructor
        · rintro (hx | rfl)
          · rw [hx]; rfl
          · have : (seg d 0 m).find? (fun y => key y == key d[m]!) = none := by
              rw [List.find?_eq_none]
              intro y hy hk
              have := hlt y hy
              simp only [beq_iff_eq] at hk
              omega
            rw [this]
            simp
        · intro hx
          cases hf : (seg d 0 m).find? (fun y => key y == key x) with
          | some z => rw [hf] at hx; left; simpa using hx
          | none =>
            rw [hf] at hx
            right
            simp only [Option.none_or, List.find?_singleton] at hx
            split at hx
            · injection hx with hx; exact hx.symm
            · cases hx
    · rw [if_neg hc]
      have hm : m ≠ 0 := fun h => hc (.inl h)
      have hk : key d[m]! = key d[m - 1]! := Classical.byContradiction (fun h => hc (.inr h))
      refine ⟨h1, fun x hx => by rw [Nat.add_sub_cancel, hk]; exact h2 x hx, fun x => ?_⟩
      rw [List.find?_append, h3 x]
      constructor
      · intro hx; rw [hx]; rfl
      · intro hx
        cases hf : (seg d 0 m).find? (fun y => key y == key x) with
        | some z => rw [hf] at hx; simpa using hx
        | none =>
          rw [hf] at hx
          simp only [Option.none_or, List.find?_singleton] at hx
          split at hx
          · rename_i hkx
            injection hx with hx
            subst hx
            rw [List.find?_eq_none] at hf
            have := hf d[m - 1]! (mem_seg (by omega) (by omega))
            simp [hk] at this
          · cases hx
theorem sorted_srt {d' : Array α} (hs : Stb key 0 d0.size d0 d') (ha : AscN key 0 d0.size d') : ddK key d' d0.size = srtG key [] d0.toList := by
  obtain ⟨h1, _, h3⟩ := ddK_srt d0.size ha
  refine SrtIs.unique ⟨h1, fun x => ?_⟩ (srt_is key d0.toList)
  rw [h3 x, ← List.head?_filter, ← List.head?_filter, hs.se, seg_all]
end
/-- The address leads to the contacts L, in a block below B. -/
def CAt (w : World) (B : Nat) (A : Option Addr) (L : List Con) : Prop := L = [] ∨ ∃ g off, A = some ⟨g, off, none⟩ ∧ g < B ∧ w.rangeAt g off (flatE encC L)
theorem CAt.below {w w' : World} {B : Nat} {A : Option Addr} {L : List Con} (h : CAt w B A L) (hb : Below B w w') : CAt w' B A L := by
  rcases h with h | ⟨g, off, e, hg, hr⟩
  · exact .inl h
  · exact .inr ⟨g, off, e, hg, rangeAt_below hr (hb.block g hg)⟩
theorem CAt.more {w : World} {B B' : Nat} {A : Option Addr} {L : List Con} (h : CAt w B A L) (hB : B ≤ B') : CAt w B' A L := by
  rcases h with h | ⟨g, off, e, hg, hr⟩
  · exact .inl h
  · exact .inr ⟨g, off, e, by omega, hr⟩
theorem flatK_flatE (L : List Con) (t : Nat) (ht : t < L.length * 22) : (flatE encC L)[t]? = some (flatK encC 22 L.toArray)[t]! := by
  have hi : t / 22 < L.length := by omega
  rw [get_flatK _ _ _ _ (by simpa using ht)]
  have e := flatE_get encC_length (by omega) L (t / 22) _ (t % 22) (List.getElem?_eq_getElem hi) (Nat.mod_lt _ (by omega))
  rw [show t / 22 * 22 + t % 22 = t by omega] at e
  rw [e, getElem!_pos L.toArray (t / 22) (by simpa using hi)]
  have hc : t % 22 < (encC L[t / 22]).length := by rw [encC_length]; exact Nat.mod_lt _ (by omega)
  rw [List.getElem?_eq_getElem hc]
  simp [hc]
theorem holdsC {W : World} {g off : Nat} {L : List Con} (hr : W.rangeAt g off (flatE encC L)) (ht : W.there g off (L.length * 22)) : HoldsK encC 22 W g off L.toArray := fun j hj => by
  have hj' : j < L.length * 22 := by simpa using hj
  exact ⟨hr j _ (flatK_flatE L j hj'), (ht j hj').2⟩
theorem there_ownC {W : World} {base g n cap : Nat} {xs : List Value} (h : W.ownsRow base 63 22 (.slice (some ⟨g, 0, none⟩) n cap) n xs) : W.there g 0 (n * 22) := by
  rcases h.2 with ⟨e0, _⟩ | ⟨g', cap', cur, e0, hb, hg, hn, hm, hs, ht⟩
  · cases e0
  · injection e0 with e1 _ e3
    injection e1 with e1
    injection e1 with e1
    subst e1
    subst e3
    intro j hj
    have hc : j < cur.size := by
      rw [hs]
      exact Nat.lt_of_lt_of_le hj (Nat.mul_le_mul_right _ hn)
    refine ⟨?_, by simp [World.frozen?, hg]⟩
    rw [cell_of_row _ _ _ _ _ _ hg, Array.getElem?_eq_getElem (by omega)]
    rfl
/-- What a row of contacts of its own is. -/
theorem own_formC {w : World} {base n : Nat} {v : Value} {L : List Con} (h : w.ownsRow base 63 22 v n (flatE encC L)) : ∃ A c, v = .slice A n c ∧ n = L.length ∧ n ≤ c ∧ c ≤ maxLen ∧ ((A = none ∧ L = [] ∧ c = 0) ∨ ∃ g, A = some ⟨g, 0, none⟩ ∧ base ≤ g ∧ g < w.heap.size ∧ w.rangeAt g 0 (flatE encC L)) := by
  have hl := h.1
  rw [flatE_length encC_length] at hl
  have hn : n = L.length := by omega
  rcases h.2 with ⟨rfl, h0⟩ | ⟨g, cap, cur, rfl, hb, hg, hc, hm, hs, ht⟩
  · exact ⟨none, 0, by rw [h0], hn, by omega, by simp [maxLen], .inl ⟨rfl, List.eq_nil_of_length_eq_zero (by omega), rfl⟩⟩
  · refine ⟨some ⟨g, 0, none⟩, cap, rfl, hn, hc, hm, .inr ⟨g, rfl, hb, (Array.getElem?_eq_some_iff.1 hg).1, fun j u hu => ?_⟩⟩
    rw [Nat.zero_add, cell_of_row w g j _ 63 (0, 0) hg]
    rw [← ht, List.getElem?_take] at hu
    split at hu
    · simpa using hu
    · cases hu
theorem info60 : ∃ i0, Tryz.prog.info? 63 = some i0 ∧ i0.zero = some (.agg (encC default).toArray) ∧ i0.size = 22 ∧ i0.bytes = 28 := by
  have h : (Tryz.prog.info? 63).map (fun i => (i.zero, i.size, i.bytes)) = some (some (.agg (encC default).toArray), 22, 28) := by kernel_rfl
  cases hi : Tryz.prog.info? 63 with
  | none => rw [hi] at h; cases h
  | some i =>
    rw [hi] at h
    simp only [Option.map_some, Option.some.injEq, Prod.mk.injEq] at h
    exact ⟨i, rfl, h.1, h.2.1, h.2.2⟩
theorem flatE_oneN (L : List Con) : ∀ u ∈ flatE encC L, u.oneCell' = true := by
  intro u hu
  obtain ⟨c, _, h⟩ := List.mem_flatMap.1 hu
  exact encC_one c u h
/-- Clone at whatever row of contacts. -/
theorem cloneC_any (A : Option Addr) (c : Nat) (L : List Con) (w : World) (hL : L.length ≤ 10000) (hA : CAt w w.heap.size A L) (hA2 : A = none ∨ ∃ g off, A = some ⟨g, off, none⟩) :
    Calls Tryz.prog 114 #[.slice A L.length c] w fun e w' => ∃ v, e = .returned v ∧ w'.ownsRow w.heap.size 63 22 v L.length (flatE encC L) ∧ Below w.heap.size w w' := by
  rcases hA2 with rfl | ⟨g, off, rfl⟩
  · obtain rfl : L = [] := by
      rcases hA with e | ⟨g, off, e, _⟩
      · exact e
      · cases e
    refine (AnyE.slices_Clone_nil Tryz.cloneC _ _ _).mono ?_
    rintro e w' ⟨rfl, rfl⟩
    exact ⟨_, rfl, ⟨by simp [flatE], .inl ⟨rfl, rfl⟩⟩, Below.refl _ _⟩
  · obtain ⟨i0, hi, hz0, hz1, hz2⟩ := info60
    refine (AnyE.slices_Clone Tryz.cloneC i0 _ 22 28 hi hz0 hz1 hz2 (by simp [Value.cells, encC_length]) (by omega) (fun w => by kernel_rfl) g off L.length c (flatE encC L) w (flatE_length encC_length L) (by simp only [maxLen]; omega) (by omega) (fun j u hu => ?_) (flatE_oneN L)).mono ?_
    · rcases hA with rfl | ⟨g', off', e, _, hr⟩
      · simp [flatE] at hu
      · injection e with e
        injection e with e1 e2
        subst e1 e2
        exact hr j u hu
    · rintro e w' ⟨v', rfl, ho, _, hb⟩
      exact ⟨v', rfl, ho, hb⟩
end Go.Proofs.YtehgpnnfjgmiiaaGreat
end
section
namespace Go.Proofs.YtehgpnnfjgmiiaaGreat
open Go.Shelf Go.RowKit Go.Lib Go.Sort Go.Great
set_option maxRecDepth 100000
set_option maxHeartbeats 1000000
theorem ins_none (p : Option Addr) (cap : Nat) (fv : Value) (w : World) : Calls Tryz.prog 134 #[.slice p 0 cap, .int .i64 0, .int .i64 0, fv] w fun e w' => e = .returned (.tuple #[]) ∧ w' = w := by
  go_enter Tryz.func134, Tryz.ntmps134
  go_wp2
  go_loopg [8] 0 (fun _ s wr => s = .int .i64 1 ∧ wr = w)
  case atStart => exact ⟨rfl, rfl⟩
  case round =>
    obtain ⟨rfl, rfl⟩ := hrel
    go_wp2
    go_end0
    exact ⟨rfl, rfl⟩
theorem stable_none (p : Option Addr) (cap : Nat) (fv : Value) (w : World) : Calls Tryz.prog 127 #[.slice p 0 cap, .int .i64 0, fv] w fun e w' => e = .returned (.tuple #[]) ∧ w' = w := by
  have HI := Lib.hid (ins_none p cap fv w)
  go_enter Tryz.func127, Tryz.ntmps127
  go_wp2
  go_loopg [7, 8] 0 (fun _ s7 s8 wr => s7 = .int .i64 0 ∧ s8 = .int .i64 20 ∧ wr = w)
  case atStart => exact ⟨rfl, rfl, rfl⟩
  case round =>
    obtain ⟨rfl, rfl, rfl⟩ := hrel
    go_upto_region 7 with (first | (go_at_call 134; (with_reducible refine HI.out.mono ?_); rintro e2 w2 ⟨rfl, rfl⟩))
    go_loopg [6] 0 (fun _ s6 wr => s6 = .int .i64 20 ∧ wr = w2)
    case atStart => exact ⟨rfl, rfl⟩
    case round =>
      obtain ⟨rfl, rfl⟩ := hrel
      go_wp2
      go_end0
      exact ⟨rfl, rfl⟩
theorem sortst_none (p : Option Addr) (cap : Nat) (fv : Value) (w : World) : Calls Tryz.prog 115 #[.slice p 0 cap, fv] w fun e w' => e = .returned (.tuple #[]) ∧ w' = w := by
  have HI := Lib.hid (stable_none p cap fv w)
  go_enter Tryz.func115, Tryz.ntmps115
  go_wp2_with (first | (go_at_call 127; (with_reducible refine HI.out.mono ?_); rintro e2 w2 ⟨rfl, rfl⟩))
  go_end0
  exact ⟨rfl, rfl⟩
theorem compf_none (p : Option Addr) (cap : Nat) (fv : Value) (w : World) : Calls Tryz.prog 118 #[.slice p 0 cap, fv] w fun e w' => e = .returned (.slice p 0 cap) ∧ w' = w := by
  go_enter Tryz.func118, Tryz.ntmps118
  go_wp2
  go_ret
  exact ⟨rfl, rfl⟩
theorem sortW_other {α : Type} [Inhabited α] (enc : α → List Value) (k : Nat) (w : World) (blk off m p : Nat) (dk : Array α) (os : Array Obj) (hp : p < w.heap.size) (hne : p ≠ blk) : (sortWorldK enc k w blk off m dk os).heap[p]? = w.heap[p]? := by
  unfold sortWorldK putRowK grow putRow mapBlock Sort.ahead
  simp only
  rw [Array.getElem?_append_left (by simpa using hp), Array.getElem?_modify, if_neg (fun e => hne e.symm)]
theorem cfM_key (t : IDv) (x y : Con) : cfM t (idC x) (idC y) < 0 ↔ kC t x < kC t y := by
  have := ltM t (idC x) (idC y)
  unfold ltOf at this
  unfold kC
  constructor
  · intro h
    rw [decide_eq_true h] at this
    exact of_decide_eq_true this.symm
  · intro h
    rw [decide_eq_true h] at this
    exact of_decide_eq_true this
theorem eqC_key (t : IDv) (x y : Con) : ((idC x).val == (idC y).val) = decide (kC t x = kC t y) := by
  unfold kC
  by_cases h : idC x = idC y
  · rw [h]; simp
  · rw [decide_eq_false (fun e => h (kM_inj t _ _ e))]
    rw [beq_eq_false_iff_ne]
    exact fun e => h (Subtype.ext e)
/-- The two calls on a row of its own. -/
theorem sortC (t : IDv) (p g c : Nat) (L : List Con) (w1 : World) (hL : L.length ≤ 10000) (hp : p < w1.heap.size) (hpt : w1.rangeAt p 0 (encID t)) (hpg : p ≠ g) (hg : g < w1.heap.size) (hr : w1.rangeAt g 0 (flatE encC L)) (ht : w1.there g 0 (L.length * 22)) :
    Calls Tryz.prog 115 #[.slice (some ⟨g, 0, none⟩) L.length c, .func (.func 116) #[] #[.pointer (some ⟨p, 0, none⟩)]] w1 fun e w2 => e = .returned (.tuple #[]) ∧ ∃ d' : Array Con, d'.size = L.length ∧ ddK (kC t) d' d'.size = srtG (kC t) [] L ∧ RowK encC 22 w2 g 0 d' ∧ Below g w1 w2 := by
  have R : RowK encC 22 w1 g 0 L.toArray := ⟨encC_length, encC_one, holdsC hr ht, hg⟩
  have eg : ∀ args w, (callFunc 116 args).run Tryz.prog w = .ok (.enter 116 args) w := enters_of Tryz.func116 (by kernel_rfl) rfl
  have hlay : CmpLays Tryz.prog 116 #[.pointer (some ⟨p, 0, none⟩)] encC 22 (fun x y => cfM t (idC x) (idC y)) g 0 L.toArray.size w1 := fun m os dk _ x y => by
    have hs : w1.heap.size ≤ (sortWorldK encC 22 w1 g 0 m dk os).heap.size := size_sortWorldK_c encC 22 w1 g 0 m dk os
    exact (clo69_g t x y p _ (Nat.lt_of_lt_of_le hp hs) (range_keep hpt (sortW_other encC 22 w1 g 0 m p dk os hp hpg))).mono (by rintro e w' ⟨he, hg⟩; exact ⟨he, hg.form⟩)
  have hsz : L.toArray.size = L.length := by simp
  have h := sortst_any 22 aE60 zE60 encC (fun x y => cfM t (idC x) (idC y)) (kC t) (cfM_key t) 116 #[.pointer (some ⟨p, 0, none⟩)] g 0 c L.toArray w1 eg hlay R (by rw [hsz]; omega)
  rw [hsz] at h
  refine h.mono ?_
  rintro e w2 ⟨rfl, d', hst, ha, S⟩
  rw [← hsz] at hst ha
  refine ⟨rfl, d', hst.size.trans hsz, ?_, ⟨encC_length, encC_one, S.holds hg R.hH hst.size, S.lt hg⟩, swk_bel S (Nat.le_refl g) hg⟩
  rw [hst.size, sorted_srt hst ha]
theorem compC (t : IDv) (g c B : Nat) (d : Array Con) (w : World) (R : RowK encC 22 w g 0 d) (hsz : d.size ≤ 10000) (hcap : d.size ≤ c) (hcm : c ≤ maxLen) (hB : B ≤ g) :
    Calls Tryz.prog 118 #[.slice (some ⟨g, 0, none⟩) d.size c, .func (.func 119) #[] #[]] w fun e w' => e = .returned (.slice (some ⟨g, 0, none⟩) (ddK (kC t) d d.size).length c) ∧ ComIs encC g 0 B w (ddK (kC t) d d.size) w' := by
  have eg : ∀ args w, (callFunc 119 args).run Tryz.prog w = .ok (.enter 119 args) w := enters_of Tryz.func119 (by kernel_rfl) rfl
  have hlay : EqLays Tryz.prog 119 #[] encC 22 (fun x y => (idC x).val == (idC y).val) g 0 d.size w := fun m os dk _ x y =>
    (clo72_g x y _).mono (by rintro e w' ⟨he, hg⟩; exact ⟨he, hg.form⟩)
  exact compf_any 22 aE60 zE60 (by omega) (encC default).toArray zV60 (by simp [encC_length]) (fun v hv => encC_one default v (by simpa using hv)) encC (fun x y => (idC x).val == (idC y).val) (kC t) (eqC_key t) 119 #[] g 0 c B d w eg hlay R (by omega) hcap hcm hB
/-- What Sort tells. -/
def SrtC (w : World) (L : List Con) (e : Ending) (w' : World) : Prop := ∃ A c, e = .returned (.slice A L.length c) ∧ L.length ≤ c ∧ CAt w' w'.heap.size A L ∧ (A = none ∨ ∃ g off, A = some ⟨g, off, none⟩) ∧ Below w.heap.size w w'
theorem csort_any (t : IDv) (A : Option Addr) (c : Nat) (L : List Con) (w : World) (hL : L.length ≤ 10000) (hA : CAt w w.heap.size A L) (hA2 : A = none ∨ ∃ g off, A = some ⟨g, off, none⟩) :
    Calls Tryz.prog 98 #[.agg (encID t).toArray, .slice A L.length c] w (SrtC w (srtG (kC t) [] L)) := by
  obtain ⟨T, hT⟩ : ∃ T, T = (encID t).toArray := ⟨_, rfl⟩
  have hb0 : Below w.heap.size w (w.alloc (.cells T 24)) := (Below.refl _ w).alloc (Nat.le_refl _) _
  have HC := Lib.hid (cloneC_any A c L (w.alloc (.cells T 24)) hL ((hA.below hb0).more hb0.size) hA2)
  have HL : Hid (L.length ≤ 10000) := Lib.hid hL
  have h0 : (w.alloc (.cells T 24)).rangeAt w.heap.size 0 (encID t) := by
    have := heap_alloc_new w (.cells T 24)
    rw [hT] at this ⊢
    exact row_range this
  have hs0 : (w.alloc (.cells T 24)).heap.size = w.heap.size + 1 := by simp
  rw [← hT]
  obtain ⟨n, hn⟩ : ∃ n, n = L.length := ⟨_, rfl⟩
  have HN : Hid (n = L.length) := Lib.hid hn
  rw [← hn] at HC ⊢
  rw [hs0] at HC
  have HH := Lib.hid h0
  have HB0 := Lib.hid hb0
  have HS0 := Lib.hid hs0
  clear hA hL hT hb0 h0 hs0 hn hA2
  go_enter Tryz.func98, Tryz.ntmps98
  go_upto_region 2 with (first | (go_at_call 114; (with_reducible refine HC.out.mono ?_); rintro e w1 ⟨v, rfl, ho, hb⟩))
  obtain ⟨A1, c1, rfl, hn1, hcap, hcm, hform⟩ := own_formC ho
  have HB : Hid (Below (w.heap.size + 1) (w.alloc (.cells T 24)) w1) := Lib.hid hb
  have HO := Lib.hid ho
  clear HC hn1 hb ho
  rcases hform with ⟨rfl, hl, rfl⟩ | ⟨g, rfl, hbg, hgw, hrg⟩
  · subst hl
    have hn0 : n = 0 := HN.out
    subst hn0
    have HFIN : Hid (SrtC w (srtG (kC t) [] []) (.returned (.slice none 0 0)) w1) := Lib.hid ⟨none, 0, rfl, Nat.le_refl _, .inl rfl, .inl rfl, HB0.out.trans (HB.out.mono (by omega))⟩
    clear hcap hcm
    go_wp2_with (first
      | (go_at_call 115; (with_reducible refine (sortst_none _ _ _ _).mono ?_); rintro e w2 ⟨rfl, rfl⟩)
      | (go_at_call 118; (with_reducible refine (compf_none _ _ _ _).mono ?_); rintro e w2 ⟨rfl, rfl⟩))
    go_ret
    exact HFIN.out
  · have ho2 := HO.out
    have ht := there_ownC ho2
    rw [HN.out] at ht
    have hpw : w.heap.size < w1.heap.size := by have := HB.out.size; have := HS0.out; omega
    have hpt : w1.rangeAt w.heap.size 0 (encID t) := range_keep HH.out (HB.out.block _ (by omega))
    have HSO := Lib.hid (sortC t w.heap.size g c1 L w1 HL.out hpw hpt (by omega) hgw hrg ht)
    rw [← HN.out] at HSO
    have HCO : Hid (∀ (d : Array Con) w2, d.size = n → ddK (kC t) d d.size = srtG (kC t) [] L → RowK encC 22 w2 g 0 d → Below g w1 w2 → Calls Tryz.prog 118 #[.slice (some ⟨g, 0, none⟩) n c1, .func (.func 119) #[] #[]] w2 fun e w3 => ∃ m, e = .returned (.slice (some ⟨g, 0, none⟩) m c1) ∧ SrtC w (srtG (kC t) [] L) e w3) := by
      refine Lib.hid (fun d w2 hd hdd R2 hb2 => ?_)
      have := compC t g c1 g d w2 R2 (by rw [hd, HN.out]; exact HL.out) (by rw [hd]; exact hcap) hcm (Nat.le_refl _)
      rw [hd] at this hdd
      refine this.mono ?_
      rintro e w3 ⟨rfl, hr3, hg3, hb3⟩
      rw [hdd] at hr3
      refine ⟨_, rfl, some ⟨g, 0, none⟩, c1, by rw [hdd], ?_, .inr ⟨g, 0, rfl, hg3, hr3⟩, .inr ⟨g, 0, rfl⟩, ?_⟩
      · have := ddK_len (kC t) d n
        rw [hdd] at this
        omega
      · have h1 := HB0.out.trans (HB.out.mono (show w.heap.size ≤ w.heap.size + 1 by omega))
        have h2 := h1.trans (hb2.mono (show w.heap.size ≤ g by omega))
        exact h2.trans (hb3.mono (show w.heap.size ≤ g by omega))
    clear hrg ho2 ht hpw hpt HO HB HB0 HH HS0 hcap hcm hgw
    go_wp2_with (first
      | (go_at_call 115; (with_reducible refine HSO.out.mono ?_); rintro e w2 ⟨rfl, d2, hd2, hdd2, R2, hb2⟩)
      | (go_at_call 118; (with_reducible refine (HCO.out d2 _ hd2 hdd2 R2 hb2).mono ?_); rintro e w3 ⟨m3, rfl, hfin⟩))
    go_ret
    exact hfin
end Go.Proofs.YtehgpnnfjgmiiaaGreat
end
