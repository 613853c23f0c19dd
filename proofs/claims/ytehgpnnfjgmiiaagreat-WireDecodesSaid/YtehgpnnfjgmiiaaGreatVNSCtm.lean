/- Plain facts on lists that are sorted by a key, the first of each key kept, for layer 8. No program, no condition. Contacts as values; the closures of contact.Sort; contact.Sort. Conditions: at most 1,000,000 contacts. What sorting, in order, and leaving out equal neighbours make: plain. Rows of contacts in memory. No condition. -/
import Derived.Test.YtehgpnnfjgmiiaaGreatVOja
import Derived.Test.YtehgpnnfjgmiiaaGreatVObd
import Derived.Test.YtehgpnnfjgmiiaaGreatVIiv
import Derived.Test.YtehgpnnfjgmiiaaGreatVObc
import Derived.Test.YtehgpnnfjgmiiaaGreatVROcc
import Derived.Test.YtehgpnnfjgmiiaaGreatVRERefb
import Derived.Test.YtehgpnnfjgmiiaaGreatVRKCdk
import Derived.Test.YtehgpnnfjgmiiaaGreatVRIip
import Derived.Test.YtehgpnnfjgmiiaaGreatVREOctc
import Derived.Test.YtehgpnnfjgmiiaaGreatVNMOrd
import Derived.LoopTactic
import Derived.Lib.ConvBytes
import Derived.WalkKit
import Derived.Deep.AppendSrc
import Derived.Laws.BytesString
import Derived.Laws.CopyOwn
import Derived.Deep.AppendLies
import Derived.Deep.Draws
import Derived.WalkSpells
import Derived.Test.YtehgpnnfjgmiiaaGreatVNCcc
section
namespace Go.Proofs.YtehgpnnfjgmiiaaGreat
set_option maxRecDepth 100000

/-- Two lists that rise in the key and have the same members are the same. -/
theorem rising_ext {α : Type} (key : α → Nat) : ∀ (a b : List α), a.Pairwise (key · < key ·) → b.Pairwise (key · < key ·) → (∀ x, x ∈ a ↔ x ∈ b) → a = b := by
  intro a
  induction a with
  | nil =>
    intro b _ _ h
    cases b with
    | nil => rfl
    | cons y b => exact absurd ((h y).2 List.mem_cons_self) (by simp)
  | cons x a ih =>
    intro b ha hb h
    cases b with
    | nil => exact absurd ((h x).1 List.mem_cons_self) (by simp)
    | cons y b =>
      rw [List.pairwise_cons] at ha hb
      have hxy : x = y := by
        rcases List.mem_cons.1 ((h x).1 List.mem_cons_self) with e | hx
        · exact e
        · rcases List.mem_cons.1 ((h y).2 List.mem_cons_self) with e | hy
          · exact e.symm
          · have h1 := hb.1 x hx
            have h2 := ha.1 y hy
            omega
      subst hxy
      rw [ih b ha.2 hb.2 (fun z => ?_)]
      constructor
      · intro hz
        rcases List.mem_cons.1 ((h z).1 (List.mem_cons_of_mem _ hz)) with e | hz'
        · subst e
          have := ha.1 z hz
          omega
        · exact hz'
      · intro hz
        rcases List.mem_cons.1 ((h z).2 (List.mem_cons_of_mem _ hz)) with e | hz'
        · subst e
          have := hb.1 z hz
          omega
        · exact hz'

/-- x, put ahead of the first whose key is not less. -/
def insG {α : Type} (key : α → Nat) (x : α) : List α → List α
  | [] => [x]
  | a :: t => if key a < key x then a :: insG key x t else x :: a :: t

theorem insG_mem {α : Type} (key : α → Nat) (x : α) : ∀ (l : List α) (z : α), z ∈ insG key x l ↔ z = x ∨ z ∈ l := by
  intro l
  induction l with
  | nil => intro z; simp [insG]
  | cons a t ih =>
    intro z
    rw [insG]
    split
    · rw [List.mem_cons, ih, List.mem_cons]
      constructor
      · rintro (h | h | h)
        · exact .inr (.inl h)
        · exact .inl h
        · exact .inr (.inr h)
      · rintro (h | h | h)
        · exact .inr (.inl h)
        · exact .inl h
        · exact .inr (.inr h)
    · exact List.mem_cons

theorem insG_rising {α : Type} (key : α → Nat) (x : α) : ∀ (l : List α), l.Pairwise (key · < key ·) → (∀ a ∈ l, key a ≠ key x) → (insG key x l).Pairwise (key · < key ·) := by
  intro l
  induction l with
  | nil => intro _ _; exact List.pairwise_singleton _ _
  | cons a t ih =>
    intro h hx
    rw [List.pairwise_cons] at h
    have hx' := hx a List.mem_cons_self
    rw [insG]
    split
    · rename_i hlt
      refine List.pairwise_cons.2 ⟨fun z hz => ?_, ih h.2 (fun b hb => hx b (List.mem_cons_of_mem _ hb))⟩
      rcases (insG_mem key x t z).1 hz with e | hz'
      · subst e; exact hlt
      · exact h.1 z hz'
    · refine List.pairwise_cons.2 ⟨fun z hz => ?_, List.pairwise_cons.2 h⟩
      rcases List.mem_cons.1 hz with e | hz'
      · subst e; omega
      · have := h.1 z hz'; omega

/-- One after another put in, where its key is not there yet. -/
def srtG {α : Type} (key : α → Nat) : List α → List α → List α
  | acc, [] => acc
  | acc, x :: l => srtG key (if acc.any (fun d => key d == key x) then acc else insG key x acc) l

/-- The first of its key, each, and they rise. -/
structure SrtIs {α : Type} (key : α → Nat) (l s : List α) : Prop where
  rise : s.Pairwise (key · < key ·)
  mem : ∀ x, x ∈ s ↔ l.find? (fun d => key d == key x) = some x
theorem SrtIs.unique {α : Type} {key : α → Nat} {l s s' : List α} (h : SrtIs key l s) (h' : SrtIs key l s') : s = s' :=
  rising_ext key s s' h.rise h'.rise (fun x => (h.mem x).trans (h'.mem x).symm)
theorem SrtIs.nil {α : Type} (key : α → Nat) : SrtIs key [] [] := ⟨.nil, fun x => by simp⟩
theorem SrtIs.step {α : Type} {key : α → Nat} {p s : List α} (h : SrtIs key p s) (y : α) : SrtIs key (p ++ [y]) (if s.any (fun d => key d == key y) then s else insG key y s) := by
  have hfind : ∀ x, (p ++ [y]).find? (fun d => key d == key x) = (p.find? (fun d => key d == key x)).or (if key y = key x then some y else none) := fun x => by
    rw [List.find?_append]
    congr 1
    by_cases e : key y = key x
    · simp [e]
    · simp [e]
  split
  · rename_i hany
    obtain ⟨d, hd, hk⟩ := List.any_eq_true.1 hany
    have hk' : key d = key y := by simpa using hk
    refine ⟨h.rise, fun x => ?_⟩
    rw [hfind]
    by_cases e : key y = key x
    · have hp := (h.mem d).1 hd
      rw [hk', e] at hp
      rw [h.mem x, hp]
      simp
    · rw [if_neg e, h.mem x]; simp
  · rename_i hany
    have hno : ∀ a ∈ s, key a ≠ key y := fun a ha e => hany (List.any_eq_true.2 ⟨a, ha, by simp [e]⟩)
    refine ⟨insG_rising key y s h.rise hno, fun x => ?_⟩
    rw [insG_mem, hfind]
    by_cases e : key y = key x
    · have hnone : p.find? (fun d => key d == key x) = none := by
        cases hp : p.find? (fun d => key d == key x) with
        | none => rfl
        | some z =>
          have hz : key z = key x := by simpa using List.find?_some hp
          rw [← hz] at hp
          exact absurd (hz.trans e.symm) (hno z ((h.mem z).2 hp))
      rw [hnone, if_pos e]
      constructor
      · rintro (rfl | hx)
        · rfl
        · exact absurd e.symm (hno x hx)
      · intro hx
        simp at hx
        exact .inl hx.symm
    · rw [if_neg e, h.mem x]
      constructor
      · rintro (rfl | hx)
        · exact absurd rfl e
        · simp [hx]
      · intro hx
        exact .inr (by simpa using hx)
theorem srtG_is {α : Type} (key : α → Nat) : ∀ (l p s : List α), SrtIs key p s → SrtIs key (p ++ l) (srtG key s l) := by
  intro l
  induction l with
  | nil => intro p s h; rw [List.append_nil]; exact h
  | cons y l ih =>
    intro p s h
    have := ih (p ++ [y]) _ (h.step y)
    rw [List.append_assoc] at this
    exact this
theorem srt_is {α : Type} (key : α → Nat) (l : List α) : SrtIs key l (srtG key [] l) := srtG_is key l [] [] (.nil key)
end Go.Proofs.YtehgpnnfjgmiiaaGreat
end
section
namespace Go.Proofs.YtehgpnnfjgmiiaaGreat
open Go.Shelf Go.RowKit Go.Lib Go.Sort Go.Great
set_option maxRecDepth 100000
set_option maxHeartbeats 1000000
/-- A contact, as one that fits its type. -/
abbrev Con : Type := { c : Ct // CtOk c }
instance : Inhabited Con := ⟨⟨(List.replicate 20 0, 0, 0), ⟨by simp, by simp, by simp⟩⟩⟩
def encC (c : Con) : List Value := bcells c.1.1 ++ [.int .u32 (c.1.2.1 : Int), .int .u16 (c.1.2.2 : Int)]
def idC (c : Con) : IDv := ⟨c.1.1, c.2.id⟩
def kC (t : IDv) (c : Con) : Nat := kM t (idC c)
theorem encC_length (c : Con) : (encC c).length = 22 := by unfold encC; rw [List.length_append, bcells_length, c.2.id]; rfl
theorem encC_one (c : Con) : ∀ v ∈ encC c, v.oneCell' = true := by
  intro v hv
  unfold encC at hv
  rcases List.mem_append.1 hv with h | h
  · exact bcells_oneC _ v h
  · simp only [List.mem_cons, List.not_mem_nil, or_false] at h
    rcases h with rfl | rfl <;> rfl
theorem encC_id (c : Con) : encC c = encID (idC c) ++ [.int .u32 (c.1.2.1 : Int), .int .u16 (c.1.2.2 : Int)] := rfl
theorem aE60 (w : World) : (isAgg 63).run Tryz.prog w = .ok true w := by kernel_rfl
theorem zE60 (w : World) : (Go.sizeOf 63).run Tryz.prog w = .ok 22 w := by kernel_rfl
theorem zV60 (W : World) : (zeroValue 63).run Tryz.prog W = .ok (.agg (encC default).toArray) W := by kernel_rfl
theorem range_front {w : World} {g o : Nat} {a b : List Value} (h : w.rangeAt g o (a ++ b)) : w.rangeAt g o a := fun j v hv => h j v (by rw [List.getElem?_append_left (List.getElem?_eq_some_iff.1 hv).1]; exact hv)
theorem box_id {w : World} {g : Nat} {c : Con} (h : w.heap[g]? = some (.cells (encC c).toArray 63 (0, 0))) : w.rangeAt g 0 (encID (idC c)) := range_front (row_range h)
theorem clo69_g (t : IDv) (x y : Con) (p : Nat) (w : World) (hp : p < w.heap.size) (hr : w.rangeAt p 0 (encID t)) :
    Calls Tryz.prog 116 #[.agg (encC x).toArray, .agg (encC y).toArray, .pointer (some ⟨p, 0, none⟩)] w fun e w' => e = .returned (.int .i64 (cfM t (idC x) (idC y))) ∧ Grows w w' := by
  have HC := Lib.hid (fun W => mcmp_g t.val (idC x).val (idC y).val t.property (idC x).property (idC y).property W)
  change Hid (∀ W, Calls Tryz.prog 117 #[.agg (encID t).toArray, .agg (encID (idC x)).toArray, .agg (encID (idC y)).toArray] W fun e w' => e = .returned (.int .i64 (cfM t (idC x) (idC y))) ∧ Grows W w') at HC
  obtain ⟨h1, h2, hb⟩ := heap2 w (.cells (encC x).toArray 63) (.cells (encC y).toArray 63)
  have HK0 := Lib.hid (range_load26 (range_keep hr (hb.block p hp)))
  have HK1 := Lib.hid (range_load26 (box_id h1))
  have HK2 := Lib.hid (range_load26 (box_id h2))
  have HG := Lib.hid ((Grows.alloc w (.cells (encC x).toArray 63)).trans (Grows.alloc _ (.cells (encC y).toArray 63)))
  generalize (encC x).toArray = X at HC HK0 HK1 HK2 HG ⊢
  generalize (encC y).toArray = Y at HC HK0 HK1 HK2 HG ⊢
  generalize (encID (idC x)).toArray = IX at HC HK0 HK1 HK2 HG ⊢
  generalize (encID (idC y)).toArray = IY at HC HK0 HK1 HK2 HG ⊢
  generalize (encID t).toArray = T at HC HK0 HK1 HK2 HG ⊢
  generalize cfM t (idC x) (idC y) = k at HC ⊢
  clear h1 h2 hb hr hp
  go_enter Tryz.func116, Tryz.ntmps116
  go_wp2_with (first
    | ((with_reducible refine wpList_loadV (op := ⟨some 6, _, _, _, _, _⟩) rfl 24 (.tmp 2) rfl _ ?_ _ HK0.out ?_); rfl)
    | ((with_reducible refine wpList_loadV (op := ⟨some 8, _, _, _, _, _⟩) rfl 24 (.tmp 7) rfl _ ?_ _ HK1.out ?_); rfl)
    | ((with_reducible refine wpList_loadV (op := ⟨some 10, _, _, _, _, _⟩) rfl 24 (.tmp 9) rfl _ ?_ _ HK2.out ?_); rfl)
    | (go_at_call 117; (with_reducible refine (HC.out _).mono ?_); rintro e w1 ⟨rfl, hb1⟩))
  go_ret
  exact ⟨rfl, HG.out.trans hb1⟩
theorem clo72_g (x y : Con) (w : World) :
    Calls Tryz.prog 119 #[.agg (encC x).toArray, .agg (encC y).toArray] w fun e w' => e = .returned (.bool ((idC x).val == (idC y).val)) ∧ Grows w w' := by
  obtain ⟨h1, h2, hb⟩ := heap2 w (.cells (encC x).toArray 63) (.cells (encC y).toArray 63)
  have HK1 := Lib.hid (range_load26 (box_id h1))
  have HK2 := Lib.hid (range_load26 (box_id h2))
  have he := fun W => eq61 (idC x).val (idC y).val (idC x).property (idC y).property W
  change ∀ W, (Op.equalIn 10000 24 (.agg (encID (idC x)).toArray) (.agg (encID (idC y)).toArray)).run Tryz.prog W = .ok ((idC x).val == (idC y).val) W at he
  have HG := Lib.hid (fun n => ((Grows.alloc w (.cells (encC x).toArray 63)).trans (Grows.alloc _ (.cells (encC y).toArray 63))).trans (Grows.drewN _ n))
  generalize (encC x).toArray = X at HK1 HK2 HG ⊢
  generalize (encC y).toArray = Y at HK1 HK2 HG ⊢
  generalize (encID (idC x)).toArray = IX at he HK1 HK2 HG ⊢
  generalize (encID (idC y)).toArray = IY at he HK1 HK2 HG ⊢
  generalize ((idC x).val == (idC y).val) = k at he ⊢
  clear h1 h2 hb
  go_enter Tryz.func119, Tryz.ntmps119
  go_wp2_with (first
    | ((with_reducible refine wpList_loadV (op := ⟨some 6, _, _, _, _, _⟩) rfl 24 (.tmp 5) rfl _ ?_ _ HK1.out ?_); rfl)
    | ((with_reducible refine wpList_loadV (op := ⟨some 8, _, _, _, _, _⟩) rfl 24 (.tmp 7) rfl _ ?_ _ HK2.out ?_); rfl))
  go_ret
  exact ⟨rfl, HG.out 0⟩
end Go.Proofs.YtehgpnnfjgmiiaaGreat
end
section
namespace Go.Proofs.YtehgpnnfjgmiiaaGreat
open Go.Shelf Go.RowKit Go.Lib Go.Sort Go.Great
set_option maxRecDepth 100000
set_option maxHeartbeats 1000000
section
variable {α : Type} [Inhabited α] {key : α → Nat} {d d0 : Array α}
theorem seg_succ (d : Array α) (m : Nat) : seg d 0 (m + 1) = seg d 0 m ++ [d[m]!] := by
  rw [seg_append d (show 0 ≤ m by omega) (show m ≤ m + 1 by omega)]
  congr 1
  simp [seg]
theorem ddK_srt : ∀ (m : Nat), AscN key 0 m d → (ddK key d m).Pairwise (key · < key ·) ∧ (∀ x ∈ ddK key d m, key x ≤ key d[m - 1]!) ∧ ∀ x, x ∈ ddK key d m ↔ (seg d 0 m).find? (fun y => key y == key x) = some x
  | 0, _ => ⟨.nil, fun x hx => by simp [ddK] at hx, fun x => by simp [ddK, seg]⟩
  | m + 1, h => by
    obtain ⟨h1, h2, h3⟩ := ddK_srt m (h.sub (Nat.le_refl _) (by omega))
    rw [seg_succ, ddK]
    by_cases hc : m = 0 ∨ key d[m]! ≠ key d[m - 1]!
    · rw [if_pos hc]
      have hlt : ∀ y ∈ seg d 0 m, key y < key d[m]! := by
        intro y hy
        obtain ⟨i, _, hi, rfl⟩ := seg_mem hy
        rcases hc with rfl | hc
        · omega
        · have a1 := h i (m - 1) (by omega) (by omega) (by omega)
          have a2 := h (m - 1) m (by omega) (by omega) (by omega)
          omega
      have hsub : ∀ x ∈ ddK key d m, x ∈ seg d 0 m := fun x hx => List.mem_of_find?_eq_some ((h3 x).1 hx)
      refine ⟨List.pairwise_append.2 ⟨h1, List.pairwise_singleton _ _, fun a ha b hb => ?_⟩, fun x hx => ?_, fun x => ?_⟩
      · simp only [List.mem_singleton] at hb
        subst hb
        exact hlt a (hsub a ha)
      · rw [Nat.add_sub_cancel]
        rcases List.mem_append.1 hx with hx | hx
        · exact Nat.le_of_lt (hlt x (hsub x hx))
        · simp only [List.mem_singleton] at hx
          subst hx
          exact Nat.le_refl _
      · rw [List.find?_append, List.mem_append, h3 x, List.mem_singleton]
        constructor
        · rintro (hx | rfl)
          · rw [hx]; rfl
          · have : (seg d 0 m).find? (fun y => key y == key d[m]!) = none := by
              rw [List.find?_eq_none]
              intro y hy hk
              have := hlt y hy
              simp only [beq_iff_eq] at hk
              omega
            rw [this]
            simp
        · intro hx
          cases hf : (seg d 0 m).find? (fun y => key y == key x) with
          | some z => rw [hf] at hx; left; simpa using hx
          | none =>
            rw [hf] at hx
            right
            simp only [Option.none_or, List.find?_singleton] at hx
            split at hx
            · injection hx with hx; exact hx.symm
            · cases hx
    · rw [if_neg hc]
      have hm : m ≠ 0 := fun h => hc (.inl h)
      have hk : key d[m]! = key d[m - 1]! := Classical.byContradiction (fun h => hc (.inr h))
      refine ⟨h1, fun x hx => by rw [Nat.add_sub_cancel, hk]; exact h2 x hx, fun x => ?_⟩
      rw [List.find?_append, h3 x]
      constructor
      · intro hx; rw [hx]; rfl
      · intro hx
        cases hf : (seg d 0 m).find? (fun y => key y == key x) with
        | some z => rw [hf] at hx; simpa using hx
        | none =>
          rw [hf] at hx
          simp only [Option.none_or, List.find?_singleton] at hx
          split at hx
          · rename_i hkx
            injection hx with hx
            subst hx
            rw [List.find?_eq_none] at hf
            have := hf d[m - 1]! (mem_seg (by omega) (by omega))
            simp [hk] at this
          · cases hx
theorem sorted_srt {d' : Array α} (hs : Stb key 0 d0.size d0 d') (ha : AscN key 0 d0.size d') : ddK key d' d0.size = srtG key [] d0.toList := by
  obtain ⟨h1, _, h3⟩ := ddK_srt d0.size ha
  refine SrtIs.unique ⟨h1, fun x => ?_⟩ (srt_is key d0.toList)
  rw [h3 x, ← List.head?_filter, ← List.head?_filter, hs.se, seg_all]
end
/-- The address leads to the contacts L, in a block below B. -/
def CAt (w : World) (B : Nat) (A : Option Addr) (L : List Con) : Prop := L = [] ∨ ∃ g off, A = some ⟨g, off, none⟩ ∧ g < B ∧ w.rangeAt g off (flatE encC L)
theorem CAt.below {w w' : World} {B : Nat} {A : Option Addr} {L : List Con} (h : CAt w B A L) (hb : Below B w w') : CAt w' B A L := by
  rcases h with h | ⟨g, off, e, hg, hr⟩
  · exact .inl h
  · exact .inr ⟨g, off, e, hg, rangeAt_below hr (hb.block g hg)⟩
theorem CAt.more {w : World} {B B' : Nat} {A : Option Addr} {L : List Con} (h : CAt w B A L) (hB : B ≤ B') : CAt w B' A L := by
  rcases h with h | ⟨g, off, e, hg, hr⟩
  · exact .inl h
  · exact .inr ⟨g, off, e, by omega, hr⟩
theorem flatK_flatE (L : List Con) (t : Nat) (ht : t < L.length * 22) : (flatE encC L)[t]? = some (flatK encC 22 L.toArray)[t]! := by
  have hi : t / 22 < L.length := by omega
  rw [get_flatK _ _ _ _ (by simpa using ht)]
  have e := flatE_get encC_length (by omega) L (t / 22) _ (t % 22) (List.getElem?_eq_getElem hi) (Nat.mod_lt _ (by omega))
  rw [show t / 22 * 22 + t % 22 = t by omega] at e
  rw [e, getElem!_pos L.toArray (t / 22) (by simpa using hi)]
  have hc : t % 22 < (encC L[t / 22]).length := by rw [encC_length]; exact Nat.mod_lt _ (by omega)
  rw [List.getElem?_eq_getElem hc]
  simp [hc]
theorem holdsC {W : World} {g off : Nat} {L : List Con} (hr : W.rangeAt g off (flatE encC L)) (ht : W.there g off (L.length * 22)) : HoldsK encC 22 W g off L.toArray := fun j hj => by
  have hj' : j < L.length * 22 := by simpa using hj
  exact ⟨hr j _ (flatK_flatE L j hj'), (ht j hj').2⟩
theorem there_ownC {W : World} {base g n cap : Nat} {xs : List Value} (h : W.ownsRow base 63 22 (.slice (some ⟨g, 0, none⟩) n cap) n xs) : W.there g 0 (n * 22) := by
  rcases h.2 with ⟨e0, _⟩ | ⟨g', cap', cur, e0, hb, hg, hn, hm, hs, ht⟩
  · cases e0
  · injection e0 with e1 _ e3
    injection e1 with e1
    injection e1 with e1
    subst e1
    subst e3
    intro j hj
    have hc : j < cur.size := by
      rw [hs]
      exact Nat.lt_of_lt_of_le hj (Nat.mul_le_mul_right _ hn)
    refine ⟨?_, by simp [World.frozen?, hg]⟩
    rw [cell_of_row _ _ _ _ _ _ hg, Array.getElem?_eq_getElem (by omega)]
    rfl
/-- What a row of contacts of its own is. -/
theorem own_formC {w : World} {base n : Nat} {v : Value} {L : List Con} (h : w.ownsRow base 63 22 v n (flatE encC L)) : ∃ A c, v = .slice A n c ∧ n = L.length ∧ n ≤ c ∧ c ≤ maxLen ∧ ((A = none ∧ L = [] ∧ c = 0) ∨ ∃ g, A = some ⟨g, 0, none⟩ ∧ base ≤ g ∧ g < w.heap.size ∧ w.rangeAt g 0 (flatE encC L)) := by
  have hl := h.1
  rw [flatE_length encC_length] at hl
  have hn : n = L.length := by omega
  rcases h.2 with ⟨rfl, h0⟩ | ⟨g, cap, cur, rfl, hb, hg, hc, hm, hs, ht⟩
  · exact ⟨none, 0, by rw [h0], hn, by omega, by simp [maxLen], .inl ⟨rfl, List.eq_nil_of_length_eq_zero (by omega), rfl⟩⟩
  · refine ⟨some ⟨g, 0, none⟩, cap, rfl, hn, hc, hm, .inr ⟨g, rfl, hb, (Array.getElem?_eq_some_iff.1 hg).1, fun j u hu => ?_⟩⟩
    rw [Nat.zero_add, cell_of_row w g j _ 63 (0, 0) hg]
    rw [← ht, List.getElem?_take] at hu
    split at hu
    · simpa using hu
    · cases hu
theorem info60 : ∃ i0, Tryz.prog.info? 63 = some i0 ∧ i0.zero = some (.agg (encC default).toArray) ∧ i0.size = 22 ∧ i0.bytes = 28 := by
  have h : (Tryz.prog.info? 63).map (fun i => (i.zero, i.size, i.bytes)) = some (some (.agg (encC default).toArray), 22, 28) := by kernel_rfl
  cases hi : Tryz.prog.info? 63 with
  | none => rw [hi] at h; cases h
  | some i =>
    rw [hi] at h
    simp only [Option.map_some, Option.some.injEq, Prod.mk.injEq] at h
    exact ⟨i, rfl, h.1, h.2.1, h.2.2⟩
theorem flatE_oneN (L : List Con) : ∀ u ∈ flatE encC L, u.oneCell' = true := by
  intro u hu
  obtain ⟨c, _, h⟩ := List.mem_flatMap.1 hu
  exact encC_one c u h
/-- Clone at whatever row of contacts. -/
theorem cloneC_any (A : Option Addr) (c : Nat) (L : List Con) (w : World) (hL : L.length ≤ 10000) (hA : CAt w w.heap.size A L) (hA2 : A = none ∨ ∃ g off, A = some ⟨g, off, none⟩) :
    Calls Tryz.prog 114 #[.slice A L.length c] w fun e w' => ∃ v, e = .returned v ∧ w'.ownsRow w.heap.size 63 22 v L.length (flatE encC L) ∧ Below w.heap.size w w' := by
  rcases hA2 with rfl | ⟨g, off, rfl⟩
  · obtain rfl : L = [] := by
      rcases hA with e | ⟨g, off, e, _⟩
      · exact e
      · cases e
    refine (AnyE.slices_Clone_nil Tryz.cloneC _ _ _).mono ?_
    rintro e w' ⟨rfl, rfl⟩
    exact ⟨_, rfl, ⟨by simp [flatE], .inl ⟨rfl, rfl⟩⟩, Below.refl _ _⟩
  · obtain ⟨i0, hi, hz0, hz1, hz2⟩ := info60
    refine (AnyE.slices_Clone Tryz.cloneC i0 _ 22 28 hi hz0 hz1 hz2 (by simp [Value.cells, encC_length]) (by omega) (fun w => by kernel_rfl) g off L.length c (flatE encC L) w (flatE_length encC_length L) (by simp only [maxLen]; omega) (by omega) (fun j u hu => ?_) (flatE_oneN L)).mono ?_
    · rcases hA with rfl | ⟨g', off', e, _, hr⟩
      · simp [flatE] at hu
      · injection e with e
        injection e with e1 e2
        subst e1 e2
        exact hr j u hu
    · rintro e w' ⟨v', rfl, ho, _, hb⟩
      exact ⟨v', rfl, ho, hb⟩
end Go.Proofs.YtehgpnnfjgmiiaaGreat
end
