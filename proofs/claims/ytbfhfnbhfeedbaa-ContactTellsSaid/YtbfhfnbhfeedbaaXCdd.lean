/- Contracts of Good, Find, allGood and isGoodList of package contact. Conditions: at most 10,000 contacts. Contracts of allGood and isGoodList of package contact. Conditions: at most 10,000 contacts. Contract of isGoodList of package contact. Conditions: at most 10,000 contacts. -/
import Derived.Test.YtbfhfnbhfeedbaaXCda
import Derived.Test.YtbfhfnbhfeedbaaXAAca
import Derived.Shelf.SlicesQ.IndexFunc
section
namespace Go.Proofs
open Go.Shelf
def Try.idxC_ren : Go.Shelf.Ren := ⟨fun | 6 => 74 | 8 => 104 | n => n, fun | 0 => 0 | 3 => 3 | 4 => 4 | 22 => 61 | 23 => 60 | 25 => 69 | n => n, fun | n => n⟩
theorem Try.idxC : Go.Proofs.SlLaysH0.n6 Try.prog Try.idxC_ren := {
  mixed := by kernel_rfl
  f6 := ⟨Try.f74.name, by decide, Try.func74.trans (congrArg some (by kernel_rfl))⟩
  t0 := Try.underlying0
  a0 := Try.isAgg0
  z0 := Try.sizeOf0
  v0 := Try.zeroValue0
  t3 := Try.underlying3
  a3 := Try.isAgg3
  z3 := Try.sizeOf3
  v3 := Try.zeroValue3
  t4 := Try.underlying4
  a4 := Try.isAgg4
  z4 := Try.sizeOf4
  v4 := Try.zeroValue4
  t22 := Try.underlying61
  a22 := Try.isAgg61
  z22 := Try.sizeOf61
  v22 := Try.zeroValue61
  t25 := Try.underlying69
  a25 := Try.isAgg69
  z25 := Try.sizeOf69
  v25 := Try.zeroValue69 }
theorem Try.conC : Go.Proofs.SlLaysH0.n8 Try.prog Try.idxC_ren := {
  mixed := by kernel_rfl
  f6 := ⟨Try.f74.name, by decide, Try.func74.trans (congrArg some (by kernel_rfl))⟩
  f8 := ⟨Try.f104.name, by decide, Try.func104.trans (congrArg some (by kernel_rfl))⟩
  t0 := Try.underlying0
  a0 := Try.isAgg0
  z0 := Try.sizeOf0
  v0 := Try.zeroValue0
  t3 := Try.underlying3
  a3 := Try.isAgg3
  z3 := Try.sizeOf3
  v3 := Try.zeroValue3
  t4 := Try.underlying4
  a4 := Try.isAgg4
  z4 := Try.sizeOf4
  v4 := Try.zeroValue4
  t22 := Try.underlying61
  a22 := Try.isAgg61
  z22 := Try.sizeOf61
  v22 := Try.zeroValue61
  t25 := Try.underlying69
  a25 := Try.isAgg69
  z25 := Try.sizeOf69
  v25 := Try.zeroValue69 }
end Go.Proofs
namespace Go.Proofs.Ytbfhfnbhfeedbaa
open Go.Shelf Go.RowKit Go.Lib Go.Sort Go.Great
set_option maxRecDepth 100000
set_option maxHeartbeats 1000000
theorem range_back {w : World} {g o : Nat} {a b : List Value} (h : w.rangeAt g o (a ++ b)) : w.rangeAt g (o + a.length) b := fun j v hv => by
  have := h (a.length + j) v (by rw [List.getElem?_append_right (by omega), Nat.add_sub_cancel_left]; exact hv)
  rwa [← Nat.add_assoc] at this
theorem load58 {w : World} {g o h p : Nat} (hr : w.rangeAt g o [.int .u32 (h : Int), .int .u16 (p : Int)]) : (loadVar 58 ⟨g, o, none⟩).run Try.prog w = .ok (.agg (adr h p)) w :=
  run_loadVar_mid w g o 58 [.int .u32 (h : Int), .int .u16 (p : Int)] _ hr Try.underlying58 rfl (by kernel_rfl)
theorem box_addr {w : World} {g : Nat} {c : Con} (h : w.heap[g]? = some (.cells (encC c).toArray 60 (0, 0))) : (loadVar 58 ⟨g, 20, none⟩).run Try.prog w = .ok (.agg (adr c.1.2.1 c.1.2.2)) w := by
  have h1 : w.rangeAt g 0 (encC c) := row_range h
  rw [encC_id] at h1
  have h2 := range_back h1
  rw [show 0 + (encID (idC c)).length = 20 by rw [Nat.zero_add]; unfold encID; rw [bcells_length]; exact (idC c).property] at h2
  exact load58 h2
theorem cgood_any (c : Con) (w : World) : Calls Try.prog 32 #[.agg (encC c).toArray] w fun e w' => e = .returned (.bool (ctGood c.1)) ∧ Below w.heap.size w w' := by
  have hb : Below w.heap.size w (w.alloc (.cells (encC c).toArray 60)) := (Below.refl _ w).alloc (Nat.le_refl _) _
  have HK := Lib.hid (box_addr (heap_alloc_new w (.cells (encC c).toArray 60)))
  have HG : Hid (∀ W, Below w.heap.size w W → Calls Try.prog 62 #[.agg (adr c.1.2.1 c.1.2.2)] W fun e w' => e = .returned (.bool (ctGood c.1)) ∧ Below w.heap.size w w') := Lib.hid (fun W hW => (good_any c.1.2.1 c.1.2.2 W).mono (by rintro e w' ⟨rfl, h⟩; exact ⟨rfl, hW.trans (h.mono hW.size)⟩))
  have HB := Lib.hid hb
  generalize adr c.1.2.1 c.1.2.2 = AD at HK HG
  generalize (encC c).toArray = X at HK HB ⊢
  generalize ctGood c.1 = gd at HG ⊢
  clear hb
  go_enter Try.func32, Try.ntmps32
  go_wp2_with (first
    | ((with_reducible refine wpList_loadV (op := ⟨some 4, _, _, _, _, _⟩) rfl 58 (.tmp 3) rfl _ ?_ _ HK.out ?_); rfl)
    | (go_at_call 62; (with_reducible refine (HG.out _ HB.out).mono ?_); rintro e w1 ⟨rfl, hb1⟩))
  go_ret
  exact ⟨rfl, hb1⟩
/-- The closure that asks for the id at p. -/
def hasF (p : Nat) : Value := .func (.func 100) #[] #[.pointer (some ⟨p, 0, none⟩)]
theorem hasid_any (t : IDv) (w : World) : Calls Try.prog 75 #[.agg (encID t).toArray] w fun e w' => e = .returned (hasF w.heap.size) ∧ w' = w.alloc (.cells (encID t).toArray 55) := by
  generalize (encID t).toArray = X
  go_enter Try.func75, Try.ntmps75
  go_wp2
  go_ret
  exact ⟨rfl, rfl⟩
def isC (t : IDv) (c : Con) : Bool := (idC c).val == t.val
theorem clo100_g (t : IDv) (x : Con) (p : Nat) (w : World) (hp : p < w.heap.size) (hr : w.rangeAt p 0 (encID t)) :
    Calls Try.prog 100 #[.agg (encC x).toArray, .pointer (some ⟨p, 0, none⟩)] w fun e w' => e = .returned (.bool (isC t x)) ∧ Grows w w' := by
  have hb : Below w.heap.size w (w.alloc (.cells (encC x).toArray 60)) := (Below.refl _ w).alloc (Nat.le_refl _) _
  have HK1 := Lib.hid (range_load26 (box_id (heap_alloc_new w (.cells (encC x).toArray 60))))
  have HK2 := Lib.hid (range_load26 (range_keep hr (hb.block p hp)))
  have he := fun W => eq61 (idC x).val t.val (idC x).property t.property W
  change ∀ W, (Op.equalIn 10000 55 (.agg (encID (idC x)).toArray) (.agg (encID t).toArray)).run Try.prog W = .ok (isC t x) W at he
  have HG := Lib.hid (Grows.alloc w (.cells (encC x).toArray 60))
  generalize (encC x).toArray = X at HK1 HK2 HG ⊢
  generalize (encID (idC x)).toArray = IX at he HK1
  generalize (encID t).toArray = T at he HK2
  generalize isC t x = k at he ⊢
  clear hb hr hp
  go_enter Try.func100, Try.ntmps100
  go_wp2_with (first
    | ((with_reducible refine wpList_loadV (op := ⟨some 5, _, _, _, _, _⟩) rfl 55 (.tmp 4) rfl _ ?_ _ HK1.out ?_); rfl)
    | ((with_reducible refine wpList_loadV (op := ⟨some 6, _, _, _, _, _⟩) rfl 55 (.tmp 1) rfl _ ?_ _ HK2.out ?_); rfl))
  go_ret
  exact ⟨rfl, HG.out⟩
/-- The first place where p holds, or -1. -/
def idxP (p : Con → Bool) (L : List Con) : Int := Lib.idxBy (fun _ y => p y) L default
theorem idxP_nil (p : Con → Bool) : idxP p [] = -1 := rfl
theorem cells_of_CAt {w : World} {g off : Nat} {L : List Con} (hr : w.rangeAt g off (flatE encC L)) : ∀ j, j < L.length → ∀ i v, (encC L[j]!)[i]? = some v → w.cell? ⟨g, off + j * 22 + i, none⟩ = some v := by
  intro j hj i v hv
  have hi := (List.getElem?_eq_some_iff.1 hv).1
  rw [encC_length] at hi
  rw [getElem!_pos L j hj] at hv
  have := flatE_get encC_length (by omega) L j _ i (List.getElem?_eq_getElem hj) hi
  rw [hv] at this
  rw [Nat.add_assoc]
  exact hr _ v this
theorem idx_any (p : Con → Bool) (g : Nat) (lb : Array Value) (eg : ∀ args w, (callFunc g args).run Try.prog w = .ok (.enter g args) w) (A : Option Addr) (c : Nat) (L : List Con) (w : World) (hL : L.length ≤ 10000)
    (hp : ∀ W x, Below w.heap.size w W → Calls Try.prog g (#[.agg (encC x).toArray] ++ lb) W fun e w' => e = .returned (.bool (p x)) ∧ Below w.heap.size w w') (hA : CAt w w.heap.size A L) :
    Calls Try.prog 74 #[.slice A L.length c, .func (.func g) #[] lb] w fun e w' => e = .returned (.int .i64 (idxP p L)) ∧ Below w.heap.size w w' := by
  rcases hA with rfl | ⟨b, off, rfl, hb, hr⟩
  · have : Calls Try.prog 74 #[.slice A 0 c, .func (.func g) #[] lb] w fun e w' => e = .returned (.int .i64 (-1)) ∧ Below w.heap.size w w' := by
      clear hp
      go_enter Try.func74, Try.ntmps74
      go_wp2
      go_loopg [8] 0 (fun _ s wr => s = .int .i64 0 ∧ wr = w)
      case atStart => exact ⟨rfl, rfl⟩
      case round =>
        obtain ⟨rfl, rfl⟩ := hrel
        go_wp2
        go_ret
        exact ⟨rfl, Below.refl _ _⟩
    exact this
  · have h := AnyQ.slices_IndexFunc Try.idxC 22 aE60 zE60 encC encC_length p g lb eg b off L.length c L w hp (Nat.le_refl _) (by omega) hb (cells_of_CAt hr)
    rw [List.take_length] at h
    exact h
theorem cfind_any (A : Option Addr) (c : Nat) (L : List Con) (t : IDv) (w : World) (hL : L.length ≤ 10000) (hA : CAt w w.heap.size A L) :
    Calls Try.prog 40 #[.slice A L.length c, .agg (encID t).toArray] w fun e w' => e = .returned (.int .i64 (idxP (isC t) L)) ∧ Below w.heap.size w w' := by
  obtain ⟨h1, h2, hb⟩ := heap2 w (.cells (encID t).toArray 55) (.cells (encID t).toArray 55)
  have hb1 : Below w.heap.size w (w.alloc (.cells (encID t).toArray 55)) := (Below.refl _ w).alloc (Nat.le_refl _) _
  have HK := Lib.hid (range_load26 (row_range (heap_alloc_new w (.cells (encID t).toArray 55))))
  have HF := Lib.hid (fun W => hasid_any t W)
  have eg : ∀ args w, (callFunc 100 args).run Try.prog w = .ok (.enter 100 args) w := enters_of Try.func100 (by kernel_rfl) rfl
  have hs1 : (w.alloc (.cells (encID t).toArray 55)).heap.size = w.heap.size + 1 := by simp
  have HI : Hid (Calls Try.prog 74 #[.slice A L.length c, .func (.func 100) #[] #[.pointer (some ⟨w.heap.size + 1, 0, none⟩)]] ((w.alloc (.cells (encID t).toArray 55)).alloc (.cells (encID t).toArray 55)) fun e w' => e = .returned (.int .i64 (idxP (isC t) L)) ∧ Below w.heap.size w w') := by
    refine Lib.hid ?_
    have hA' : CAt ((w.alloc (.cells (encID t).toArray 55)).alloc (.cells (encID t).toArray 55)) ((w.alloc (.cells (encID t).toArray 55)).alloc (.cells (encID t).toArray 55)).heap.size A L := (hA.below hb).more hb.size
    have h2' : w.heap.size + 1 < ((w.alloc (.cells (encID t).toArray 55)).alloc (.cells (encID t).toArray 55)).heap.size := (Array.getElem?_eq_some_iff.1 h2).1
    refine (idx_any (isC t) 100 _ eg A c L _ hL (fun W x hW => ?_) hA').mono ?_
    · refine (clo100_g t x (w.heap.size + 1) W (Nat.lt_of_lt_of_le h2' hW.size) (range_keep (row_range h2) (hW.block _ h2'))).mono ?_
      rintro e w' ⟨rfl, hg⟩
      exact ⟨rfl, hW.trans (hg.1.mono hW.size)⟩
    · rintro e w' ⟨rfl, h⟩
      exact ⟨rfl, hb.trans (h.mono hb.size)⟩
  unfold hasF at HF
  generalize idxP (isC t) L = ix at HI ⊢
  generalize L.length = n at HI ⊢
  generalize (encID t).toArray = T at HK HF HI hs1 ⊢
  clear h1 h2 hb hA hL hb1
  go_enter Try.func40, Try.ntmps40
  go_wp2_with (first
    | ((with_reducible refine wpList_loadV (op := ⟨some 6, _, _, _, _, _⟩) rfl 55 (.tmp 3) rfl _ ?_ _ HK.out ?_); rfl)
    | (go_at_call 75; (with_reducible refine (HF.out _).mono ?_); rw [hs1]; rintro e w1 ⟨rfl, rfl⟩)
    | (go_at_call 74; (with_reducible refine HI.out.mono ?_); rintro e w2 ⟨rfl, hb2⟩))
  go_ret
  exact ⟨rfl, hb2⟩
end Go.Proofs.Ytbfhfnbhfeedbaa
end
section
namespace Go.Proofs.Ytbfhfnbhfeedbaa
open Go.Shelf Go.RowKit Go.Lib Go.Sort Go.Great
set_option maxRecDepth 100000
set_option maxHeartbeats 1000000
theorem load60 {w : World} {g o : Nat} {c : Con} (hr : w.rangeAt g o (encC c)) : (loadVar 60 ⟨g, o, none⟩).run Try.prog w = .ok (.agg (encC c).toArray) w :=
  run_loadVar_mid w g o 60 (encC c) _ hr Try.underlying60 rfl (by rw [encC_length]; kernel_rfl)
theorem clo105_any (x : Con) (w : World) : Calls Try.prog 105 #[.agg (encC x).toArray] w fun e w' => e = .returned (.bool (!ctGood x.1)) ∧ Below w.heap.size w w' := by
  have hb : Below w.heap.size w (w.alloc (.cells (encC x).toArray 60)) := (Below.refl _ w).alloc (Nat.le_refl _) _
  have HK := Lib.hid (load60 (row_range (heap_alloc_new w (.cells (encC x).toArray 60))))
  have HG : Hid (∀ W, Below w.heap.size w W → Calls Try.prog 32 #[.agg (encC x).toArray] W fun e w' => e = .returned (.bool (ctGood x.1)) ∧ Below w.heap.size w w') := Lib.hid (fun W hW => (cgood_any x W).mono (by rintro e w' ⟨rfl, h⟩; exact ⟨rfl, hW.trans (h.mono hW.size)⟩))
  have HB := Lib.hid hb
  generalize (encC x).toArray = X at HK HG HB ⊢
  generalize ctGood x.1 = gd at HG ⊢
  clear hb
  go_enter Try.func105, Try.ntmps105
  go_wp2_with (first
    | ((with_reducible refine wpList_loadV (op := ⟨some 3, _, _, _, _, _⟩) rfl 60 (.tmp 1) rfl _ ?_ _ HK.out ?_); rfl)
    | (go_at_call 32; (with_reducible refine (HG.out _ HB.out).mono ?_); rintro e w1 ⟨rfl, hb1⟩))
  go_ret
  exact ⟨rfl, hb1⟩
theorem cont_any (A : Option Addr) (c : Nat) (L : List Con) (w : World) (hL : L.length ≤ 10000) (hA : CAt w w.heap.size A L) :
    Calls Try.prog 104 #[.slice A L.length c, .func (.func 105) #[] #[]] w fun e w' => e = .returned (.bool (L.any fun x => !ctGood x.1)) ∧ Below w.heap.size w w' := by
  have eg : ∀ args w, (callFunc 105 args).run Try.prog w = .ok (.enter 105 args) w := enters_of Try.func105 (by kernel_rfl) rfl
  have hp : ∀ W (x : Con), Below w.heap.size w W → Calls Try.prog 105 (#[.agg (encC x).toArray] ++ #[]) W fun e w' => e = .returned (.bool (!ctGood x.1)) ∧ Below w.heap.size w w' := fun W x hW => (clo105_any x W).mono (by rintro e w' ⟨rfl, h⟩; exact ⟨rfl, hW.trans (h.mono hW.size)⟩)
  rcases hA with rfl | ⟨b, off, rfl, hb, hr⟩
  · have HI := Lib.hid (idx_any (fun x => !ctGood x.1) 105 #[] eg A c [] w (by simp) hp (.inl rfl))
    rw [idxP_nil] at HI
    simp only [List.length_nil] at HI
    have : Calls Try.prog 104 #[.slice A 0 c, .func (.func 105) #[] #[]] w fun e w' => e = .returned (.bool false) ∧ Below w.heap.size w w' := by
      clear hp eg
      go_enter Try.func104, Try.ntmps104
      go_wp2_with (first | (go_at_call 74; (with_reducible refine HI.out.mono ?_); rintro e w1 ⟨rfl, hb1⟩))
      go_ret
      exact ⟨rfl, hb1⟩
    exact this
  · have h := AnyQ.slices_ContainsFunc Try.conC 22 aE60 zE60 encC encC_length (fun x => !ctGood x.1) 105 #[] eg b off L.length c L w hp (Nat.le_refl _) (by omega) hb (cells_of_CAt hr)
    rw [List.take_length] at h
    exact h
theorem allgood_any (A : Option Addr) (c : Nat) (L : List Con) (w : World) (hL : L.length ≤ 10000) (hA : CAt w w.heap.size A L) :
    Calls Try.prog 90 #[.slice A L.length c] w fun e w' => e = .returned (.bool (L.all fun x => ctGood x.1)) ∧ Below w.heap.size w w' := by
  have HC := Lib.hid (cont_any A c L w hL hA)
  have e : (L.all fun x => ctGood x.1) = !(L.any fun x => !ctGood x.1) := by rw [List.not_any_eq_all_not]; simp
  rw [e]
  generalize (L.any fun x => !ctGood x.1) = b at HC ⊢
  generalize L.length = n at HC ⊢
  clear hL hA e
  go_enter Try.func90, Try.ntmps90
  go_wp2_with (first | (go_at_call 104; (with_reducible refine HC.out.mono ?_); rintro e w1 ⟨rfl, hb1⟩))
  go_ret
  exact ⟨rfl, hb1⟩
section
variable {α : Type} {key : α → Nat}
theorem insG_len (x : α) : ∀ l : List α, (insG key x l).length = l.length + 1
  | [] => rfl
  | a :: t => by
    rw [insG]
    split
    · rw [List.length_cons, insG_len x t, List.length_cons]
    · rfl
theorem srtG_le : ∀ (l acc : List α), (srtG key acc l).length ≤ acc.length + l.length
  | [], acc => by simp [srtG]
  | x :: l, acc => by
    rw [srtG]
    have := srtG_le l (if acc.any (fun d => key d == key x) then acc else insG key x acc)
    split at this <;> rename_i h
    · rw [if_pos h]; simp only [List.length_cons]; omega
    · rw [if_neg h]; rw [insG_len] at this; simp only [List.length_cons]; omega
theorem srtG_len : ∀ (l acc : List α), (srtG key acc l).length = acc.length + l.length ↔ (l.map key).Nodup ∧ ∀ a ∈ acc, ∀ x ∈ l, key a ≠ key x
  | [], acc => by simp [srtG]
  | x :: l, acc => by
    rw [srtG]
    by_cases h : acc.any (fun d => key d == key x) = true
    · rw [if_pos h]
      have := srtG_le (key := key) l acc
      obtain ⟨a, ha, hk⟩ := List.any_eq_true.1 h
      simp only [beq_iff_eq] at hk
      constructor
      · intro e; simp only [List.length_cons] at e; omega
      · intro e; exact absurd hk (e.2 a ha x List.mem_cons_self)
    · rw [if_neg h]
      have hn : ∀ a ∈ acc, key a ≠ key x := fun a ha hk => h (List.any_eq_true.2 ⟨a, ha, by simpa using hk⟩)
      have ih := srtG_len l (insG key x acc)
      rw [insG_len] at ih
      rw [show acc.length + (x :: l).length = acc.length + 1 + l.length by simp only [List.length_cons]; omega, ih, List.map_cons, List.nodup_cons]
      constructor
      · rintro ⟨h1, h2⟩
        refine ⟨⟨fun hm => ?_, h1⟩, fun a ha y hy => ?_⟩
        · obtain ⟨y, hy, e⟩ := List.mem_map.1 hm
          exact h2 x ((insG_mem key x acc x).2 (.inl rfl)) y hy e.symm
        · rcases List.mem_cons.1 hy with rfl | hy
          · exact hn a ha
          · exact h2 a ((insG_mem key x acc a).2 (.inr ha)) y hy
      · rintro ⟨⟨h1, h2⟩, h3⟩
        refine ⟨h2, fun a ha y hy => ?_⟩
        rcases (insG_mem key x acc a).1 ha with rfl | ha
        · intro e; exact h1 (List.mem_map.2 ⟨y, hy, e.symm⟩)
        · exact h3 a ha y (List.mem_cons_of_mem _ hy)
end
/-- The contacts, plain. -/
def ctsC (L : List Con) : List Ct := L.map (·.1)
theorem nodup_key (t : IDv) (L : List Con) : (L.map (kC t)).Nodup ↔ ((ctsC L).map (·.1)).Nodup := by
  unfold ctsC
  rw [List.map_map]
  induction L with
  | nil => simp
  | cons x L ih =>
    rw [List.map_cons, List.map_cons, List.nodup_cons, List.nodup_cons, ih]
    have : kC t x ∈ L.map (kC t) ↔ ((fun c : Ct => c.1) ∘ fun c : Con => c.1) x ∈ L.map ((fun c : Ct => c.1) ∘ fun c : Con => c.1) := by
      constructor
      · intro h
        obtain ⟨y, hy, e⟩ := List.mem_map.1 h
        refine List.mem_map.2 ⟨y, hy, ?_⟩
        have := kM_inj t _ _ e
        exact congrArg Subtype.val this
      · intro h
        obtain ⟨y, hy, e⟩ := List.mem_map.1 h
        refine List.mem_map.2 ⟨y, hy, ?_⟩
        unfold kC
        have : idC y = idC x := Subtype.ext e
        rw [this]
    rw [this]
theorem goodC_eq (t : IDv) (L : List Con) : goodC (ctsC L) = (decide (L.length ≤ 64) && (L.all fun x => ctGood x.1) && decide ((srtG (kC t) [] L).length = L.length)) := by
  have h := srtG_len (key := kC t) L []
  simp only [List.length_nil, Nat.zero_add, List.not_mem_nil, false_implies, implies_true, and_true] at h
  have hn := (h.trans (nodup_key t L))
  unfold goodC
  rw [show (ctsC L).all ctGood = L.all fun x => ctGood x.1 by unfold ctsC; rw [List.all_map]; rfl, show (ctsC L).length = L.length by unfold ctsC; simp]
  rw [show decide ((srtG (kC t) [] L).length = L.length) = decide (((ctsC L).map (·.1)).Nodup) from decide_eq_decide.2 hn]
  cases (L.all fun x => ctGood x.1) <;> cases decide (((ctsC L).map (·.1)).Nodup) <;> cases decide (L.length ≤ 64) <;> rfl
def zID : IDv := ⟨List.replicate 20 0, by simp⟩
theorem build55 (W : World) : (Instr.build 55 #[]).run Try.prog W = .ok (.agg (encID zID).toArray) W := by kernel_rfl
end Go.Proofs.Ytbfhfnbhfeedbaa
end
section
namespace Go.Proofs.Ytbfhfnbhfeedbaa
open Go.Shelf Go.RowKit Go.Lib Go.Sort Go.Great
set_option maxRecDepth 100000
set_option maxHeartbeats 1000000
theorem wpList_buildG {P : Program} {ops : Array Oper} {rest : List Oper} {o : Oper} {a : Act} {w : World} {Q : Exit → Act → World → Prop} (hw : Region.wanted o (yielded ops a.tmps) = true) (t : TypeId) (ho : o.op = .build t #[]) (v : Value) (hv : (Instr.build t #[]).run P w = .ok v w)
    (h : wpList P ops Q rest (a.put o.dst v) w) : wpList P ops Q (o :: rest) a w :=
  wpList_step fun _ hK => by
    rw [if_pos hw]
    unfold Oper.wp execOp
    simp only [ho, List.map_toArray, List.map_nil, Sem.run_bind, hv, Result.andThen_ok]
    exact hK _ _ h
theorem isgood_any (A : Option Addr) (c : Nat) (L : List Con) (w : World) (hL : L.length ≤ 10000) (hA : CAt w w.heap.size A L) (hA2 : A = none ∨ ∃ g off, A = some ⟨g, off, none⟩) :
    Calls Try.prog 60 #[.slice A L.length c] w fun e w' => e = .returned (.bool (goodC (ctsC L))) ∧ Below w.heap.size w w' := by
  have hg := goodC_eq zID L
  have HG := Lib.hid (allgood_any A c L w hL hA)
  have HS : Hid (∀ W, Below w.heap.size w W → Calls Try.prog 38 #[.agg (encID zID).toArray, .slice A L.length c] W fun e w' => ∃ A' c', e = .returned (.slice A' (srtG (kC zID) [] L).length c') ∧ Below w.heap.size w w') := by
    refine Lib.hid (fun W hW => (csort_any zID A c L W hL ((hA.below hW).more hW.size) hA2).mono ?_)
    rintro e w' ⟨A', c', rfl, _, _, _, hb⟩
    exact ⟨A', c', rfl, hW.trans (hb.mono hW.size)⟩
  have HBU := Lib.hid (fun W => build55 W)
  generalize (encID zID).toArray = ZI at HS HBU
  obtain ⟨n, hn⟩ : ∃ n, n = L.length := ⟨_, rfl⟩
  obtain ⟨m, hm⟩ : ∃ m, m = (srtG (kC zID) [] L).length := ⟨_, rfl⟩
  rw [← hn] at HG HS hL ⊢
  rw [← hm] at HS
  rw [← hn, ← hm] at hg
  have hmn : m ≤ n := by rw [hm, hn]; have := srtG_le (key := kC zID) L []; simpa using this
  rw [hg]
  generalize (L.all fun x => ctGood x.1) = b at HG ⊢
  clear hA hA2 hg hn hm
  by_cases h64 : n ≤ 64
  · have h64' : (n : Int) ≤ 64 := by omega
    rw [decide_eq_true h64, Bool.true_and]
    cases b with
    | false =>
      clear HS
      go_enter Try.func60, Try.ntmps60
      go_wp2_with (first | (go_at_call 90; (with_reducible refine HG.out.mono ?_); rintro e w1 ⟨rfl, hb1⟩))
      go_ret
      exact ⟨rfl, hb1⟩
    | true =>
      rw [Bool.true_and]
      by_cases hmn2 : m = n
      · have hq : ((m : Int) == (n : Int)) = true := by simp; omega
        rw [decide_eq_true hmn2]
        clear hmn2
        go_enter Try.func60, Try.ntmps60
        go_wp2_with (first
          | (go_at_call 90; (with_reducible refine HG.out.mono ?_); rintro e w1 ⟨rfl, hb1⟩)
          | ((with_reducible refine wpList_buildG (o := ⟨some 11, _, _, _, _, _⟩) ?_ 55 rfl _ (HBU.out _) ?_); rfl)
          | (go_at_call 38; (with_reducible refine (HS.out _ hb1).mono ?_); rintro e w2 ⟨A2, c2, rfl, hb2⟩))
        go_ret
        exact ⟨rfl, hb2⟩
      · have hq : ((m : Int) == (n : Int)) = false := by simp; omega
        rw [decide_eq_false hmn2]
        clear hmn2
        go_enter Try.func60, Try.ntmps60
        go_wp2_with (first
          | (go_at_call 90; (with_reducible refine HG.out.mono ?_); rintro e w1 ⟨rfl, hb1⟩)
          | ((with_reducible refine wpList_buildG (o := ⟨some 11, _, _, _, _, _⟩) ?_ 55 rfl _ (HBU.out _) ?_); rfl)
          | (go_at_call 38; (with_reducible refine (HS.out _ hb1).mono ?_); rintro e w2 ⟨A2, c2, rfl, hb2⟩))
        go_ret
        exact ⟨rfl, hb2⟩
  · have h64' : ¬ (n : Int) ≤ 64 := by omega
    rw [decide_eq_false h64]
    clear HG HS
    go_enter Try.func60, Try.ntmps60
    go_wp2
    go_ret
    exact ⟨by simp, Below.refl _ _⟩
end Go.Proofs.Ytbfhfnbhfeedbaa
end
