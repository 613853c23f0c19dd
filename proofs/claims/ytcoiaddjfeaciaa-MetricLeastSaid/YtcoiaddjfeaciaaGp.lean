/- Ids by their distance to one: plain lemmas on lists. No condition. Contracts of Xor of package ident and of Cmp of package metric that say how memory grows: what stood stays, and draws only add up. Conditions: an id has 20 bytes. -/
import Derived.Test.YtcoiaddjfeaciaaGl
import Derived.Test.YtcoiaddjfeaciaaGi
import Derived.Test.YtcoiaddjfeaciaaGg
section
namespace Go.Proofs.Ytcoiaddjfeaciaa
open Go.Shelf Go.Lib Go.Sort

theorem xorL_self : ∀ (t x : List UInt8), t.length = x.length → xorL t (xorL t x) = x
  | [], [], _ => rfl
  | a :: t, b :: x, h => by
    have := xorL_self t x (by simpa using h)
    simp only [xorL, List.zipWith_cons_cons] at this ⊢
    rw [this, ← UInt8.xor_assoc, UInt8.xor_self, UInt8.zero_xor]
def xorI (t x : IDv) : IDv := ⟨xorL t.val x.val, xor_len t.property x.property⟩
theorem xorI_self (t x : IDv) : xorI t (xorI t x) = x := Subtype.ext (xorL_self _ _ (t.property.trans x.property.symm))
theorem xorI_inj (t x y : IDv) (h : xorI t x = xorI t y) : x = y := by rw [← xorI_self t x, h, xorI_self]
/-- An id's distance, as a number. -/
def kM (t x : IDv) : Nat := nID (xorI t x)
theorem kM_inj (t x y : IDv) (h : kM t x = kM t y) : x = y := xorI_inj t x y (nID_inj _ _ h)
def cfM (t x y : IDv) : Int := cmpL (xorL t.val x.val) (xorL t.val y.val)
theorem cfM_lt (t x y : IDv) : cfM t x y < 0 ↔ kM t x < kM t y := cmpL_lt _ _ ((xorI t x).property.trans (xorI t y).property.symm)
theorem ltM (t x y : IDv) : ltOf (cfM t) x y = decide (kM t x < kM t y) := ltID (xorI t x) (xorI t y)
theorem swoM (t : IDv) : SWO (ltOf (cfM t)) where
  irrefl x := by rw [ltM]; simp
  trans x y z h1 h2 := by rw [ltM] at *; simp at *; omega
  ntrans x y z h1 h2 := by rw [ltM] at *; simp at *; omega
theorem xorI_key (t x : IDv) : kM t (xorI t x) = nID x := by unfold kM; rw [xorI_self]
/-- Distances, sorted, and turned back. -/
theorem set_back (t : IDv) {out L : List IDv} (h : IsSet nID out (L.map (xorI t))) : IsSet (kM t) (out.map (xorI t)) L := by
  refine ⟨?_, fun y => ?_⟩
  · rw [List.pairwise_map]
    exact h.1.imp (fun {a b} hab => by rw [xorI_key, xorI_key]; exact hab)
  · rw [List.mem_map]
    constructor
    · rintro ⟨z, hz, rfl⟩
      obtain ⟨u, hu, rfl⟩ := List.mem_map.1 ((h.2 z).1 hz)
      rw [xorI_self]
      exact hu
    · intro hy
      exact ⟨xorI t y, (h.2 _).2 (List.mem_map.2 ⟨y, hy, rfl⟩), xorI_self t y⟩

section
variable {key : IDv → Nat}
def insK (key : IDv → Nat) (x : IDv) : List IDv → List IDv
  | [] => [x]
  | y :: ys => if key x < key y then x :: y :: ys else if key x = key y then y :: ys else y :: insK key x ys
theorem take_cons_take (y : IDv) (ys : List IDv) (n : Nat) : (y :: ys).take n = (y :: ys.take n).take n := by
  cases n with
  | zero => rfl
  | succ n => rw [List.take_succ_cons, List.take_succ_cons, List.take_take, Nat.min_eq_left (by omega)]
theorem insK_take (x : IDv) : ∀ (n : Nat) (S : List IDv), (insK key x (S.take n)).take n = (insK key x S).take n
  | 0, S => by simp
  | n + 1, [] => by simp
  | n + 1, y :: ys => by
    rw [List.take_succ_cons]
    unfold insK
    split
    · rw [List.take_succ_cons, List.take_succ_cons, ← take_cons_take]
    · split
      · rw [List.take_succ_cons, List.take_succ_cons, List.take_take, Nat.min_self]
      · rw [List.take_succ_cons, List.take_succ_cons, insK_take x n ys]
theorem insK_mem (hinj : ∀ a b, key a = key b → a = b) (x y : IDv) : ∀ S : List IDv, y ∈ insK key x S ↔ y ∈ S ∨ y = x
  | [] => by simp [insK]
  | z :: S => by
    unfold insK
    split
    · simp only [List.mem_cons]
      constructor
      · rintro (h | h)
        · exact .inr h
        · exact .inl h
      · rintro (h | h)
        · exact .inr h
        · exact .inl h
    · split
      · rename_i _ h
        have := hinj _ _ h
        subst this
        constructor
        · exact .inl
        · rintro (h | rfl)
          · exact h
          · simp
      · rw [List.mem_cons, List.mem_cons, insK_mem hinj x y S, or_assoc]
theorem insK_pair (hinj : ∀ a b, key a = key b → a = b) (x : IDv) : ∀ S : List IDv, S.Pairwise (fun a b => key a < key b) → (insK key x S).Pairwise (fun a b => key a < key b)
  | [], _ => by simp [insK]
  | z :: S, h => by
    obtain ⟨h1, h2⟩ := List.pairwise_cons.1 h
    unfold insK
    split
    · rename_i hlt
      refine List.pairwise_cons.2 ⟨fun u hu => ?_, h⟩
      rcases List.mem_cons.1 hu with rfl | hu
      · exact hlt
      · exact Nat.lt_trans hlt (h1 u hu)
    · split
      · exact h
      · refine List.pairwise_cons.2 ⟨fun u hu => ?_, insK_pair hinj x S h2⟩
        rcases (insK_mem hinj x u S).1 hu with hu | rfl
        · exact h1 u hu
        · omega
theorem insK_set (hinj : ∀ a b, key a = key b → a = b) (x : IDv) {S M : List IDv} (h : IsSet key S M) : IsSet key (insK key x S) (M ++ [x]) :=
  ⟨insK_pair hinj x S h.1, fun y => by rw [insK_mem hinj, List.mem_append, List.mem_singleton, h.2 y]⟩
theorem set_self {S : List IDv} (h : S.Pairwise (fun a b => key a < key b)) : IsSet key S S := ⟨h, fun _ => Iff.rfl⟩
/-- The nearest ones, with one more put among them, are the nearest ones of all. -/
theorem take_step (hinj : ∀ a b, key a = key b → a = b) (x : IDv) (n : Nat) {S M S' T : List IDv} (h : IsSet key S M) (h1 : IsSet key S' (S.take n ++ [x])) (h2 : IsSet key T (M ++ [x])) : S'.take n = T.take n := by
  have e1 := (insK_set hinj x (set_self (h.1.sublist (List.take_sublist n S)))).unique h1
  have e2 := (insK_set hinj x h).unique h2
  rw [← e1, ← e2]
  exact insK_take x n S
theorem set_exists (hinj : ∀ a b, key a = key b → a = b) (M : List IDv) : ∃ S, IsSet key S M := by
  induction hM : M.length generalizing M with
  | zero => exact ⟨[], by rw [List.eq_nil_of_length_eq_zero hM]; exact IsSet.nil⟩
  | succ n ih =>
    have hne : M ≠ [] := by rintro rfl; simp at hM
    obtain ⟨S, hS⟩ := ih M.dropLast (by rw [List.length_dropLast, hM]; rfl)
    refine ⟨insK key (M.getLast hne) S, ?_⟩
    have := insK_set hinj (M.getLast hne) hS
    rwa [List.dropLast_concat_getLast hne] at this
/-- How many are nearer. -/
def rankK (key : IDv → Nat) (x : IDv) (S : List IDv) : Nat := S.countP (fun y => decide (key y < key x))
theorem rank_split (x : IDv) (S : List IDv) (i : Nat) (hi : i ≤ S.length) (h1 : ∀ q y, q < i → S[q]? = some y → key y < key x) (h2 : ∀ q y, i ≤ q → S[q]? = some y → ¬ key y < key x) : rankK key x S = i := by
  have e : S = S.take i ++ S.drop i := (List.take_append_drop i S).symm
  unfold rankK
  rw [e, List.countP_append]
  have e1 : (S.take i).countP (fun y => decide (key y < key x)) = (S.take i).length := by
    rw [List.countP_eq_length]
    intro a ha
    obtain ⟨q, hq⟩ := List.mem_iff_getElem?.1 ha
    rw [List.getElem?_take] at hq
    split at hq
    · exact decide_eq_true (h1 q a (by assumption) hq)
    · cases hq
  have e2 : (S.drop i).countP (fun y => decide (key y < key x)) = 0 := by
    rw [List.countP_eq_zero]
    intro a ha
    obtain ⟨q, hq⟩ := List.mem_iff_getElem?.1 ha
    rw [List.getElem?_drop] at hq
    simpa using h2 (i + q) a (by omega) hq
  rw [e1, e2, List.length_take]
  omega
theorem pair_get {S : List IDv} (h : S.Pairwise (fun a b => key a < key b)) {i j : Nat} {x y : IDv} (hij : i < j) (hx : S[i]? = some x) (hy : S[j]? = some y) : key x < key y := by
  obtain ⟨h1, e1⟩ := List.getElem?_eq_some_iff.1 hx
  obtain ⟨h2, e2⟩ := List.getElem?_eq_some_iff.1 hy
  have := List.pairwise_iff_getElem.1 h i j h1 h2 hij
  rwa [e1, e2] at this
theorem rank_at {S : List IDv} (h : S.Pairwise (fun a b => key a < key b)) {i : Nat} {x : IDv} (hx : S[i]? = some x) : rankK key x S = i := by
  have hi := (List.getElem?_eq_some_iff.1 hx).1
  refine rank_split x S i (by omega) (fun q y hq hy => pair_get h hq hy hx) (fun q y hq hy => ?_)
  by_cases e : q = i
  · subst e
    rw [hx] at hy
    injection hy with hy
    subst hy
    omega
  · have := pair_get h (by omega : i < q) hx hy
    omega
theorem rank_le (x : IDv) (S : List IDv) : rankK key x S ≤ S.length := List.countP_le_length
end
end Go.Proofs.Ytcoiaddjfeaciaa
end
section
namespace Go.Proofs.Ytcoiaddjfeaciaa
set_option maxRecDepth 100000
set_option maxHeartbeats 1000000
open Go.RowKit

theorem drawn_setCells (w : World) (g o : Nat) (vs : List Value) : (w.setCells g o vs).drawn = w.drawn := by
  induction vs generalizing w o with
  | nil => rfl
  | cons v vs ih => simp [World.setCells, ih]
def XorRelG (w : World) (xs ys : List UInt8) (i : Value) (wr : World) : Prop := XorRel w xs ys i wr ∧ w.drawn ≤ wr.drawn
theorem xor_g (xs ys : List UInt8) (hx : xs.length = 20) (hy : ys.length = 20) (w : World) :
    Calls Try.prog 28 #[.agg (bcells xs).toArray, .agg (bcells ys).toArray] w fun e w' => e = .returned (.agg (bcells (xorL xs ys)).toArray) ∧ Grows w w' := by
  obtain ⟨X, hX⟩ : ∃ X, X = (bcells xs).toArray := ⟨_, rfl⟩
  obtain ⟨Y, hY⟩ : ∃ Y, Y = (bcells ys).toArray := ⟨_, rfl⟩
  obtain ⟨Z, hZ⟩ : ∃ Z, Z = (bcells (List.replicate 20 0)).toArray := ⟨_, rfl⟩
  have hz := fun W => zero26 W
  rw [← hZ] at hz
  rw [← hX, ← hY]
  have HE := Lib.hid (And.intro hX (And.intro hY (And.intro hZ (And.intro hx hy))))
  clear hX hY hZ hx hy
  go_enter Try.func28, Try.ntmps28
  go_wp2
  have R0 : XorRelG w xs ys (.int .i64 0) (((w.alloc (.cells X 26)).alloc (.cells Y 26)).alloc (.cells Z 26)) := by
    obtain ⟨h1, h2, h3, h4⟩ := heap3 w (.cells X 26) (.cells Y 26) (.cells Z 26)
    obtain ⟨e1, e2, e3, e4, e5⟩ := HE.out
    refine ⟨⟨0, by omega, rfl, ?_, ?_, ?_, h4⟩, (((Grows.alloc w _).trans (Grows.alloc _ _)).trans (Grows.alloc _ _)).2⟩
    · rw [h1, mixL_zero _ _ e4, e1]
    · rw [h2, e2]
    · rw [h3, e3]
  have HR0 := Lib.hid R0
  clear R0 hz
  go_loopw [6] (XorRelG w xs ys) (fun i _ => 20 - (intOf i).toNat)
  case atStart => exact HR0.out
  case round =>
    obtain ⟨⟨j, hj, rfl, hq, hr, ho, hb⟩, hdr⟩ := hrel
    clear HR0
    obtain ⟨_, _, _, hx, hy⟩ := HE.out
    by_cases hlt : j < 20
    · have c1 : wr.cell? ⟨w.heap.size, j, none⟩ = some (.int .u8 ((xs.getD j 0).toNat : Int)) := by
        rw [cell_of_row wr _ j _ 26 (0, 0) hq, List.getElem?_toArray, mixL_get xs ys j hlt]
      have c2 : wr.cell? ⟨w.heap.size + 1, j, none⟩ = some (.int .u8 ((ys.getD j 0).toNat : Int)) := by
        rw [cell_of_row wr _ j _ 26 (0, 0) hr, List.getElem?_toArray, bcells_get ys j (by omega), List.getD_eq_getElem?_getD, List.getElem?_eq_getElem (by omega)]
        rfl
      have fr := frozen_of_row wr w.heap.size j _ 26 hq
      have hbx : bits .xor .u8 ((xs.getD j 0).toNat : Int) ((ys.getD j 0).toNat : Int) = ((xs.getD j 0 ^^^ ys.getD j 0).toNat : Int) := by
        rw [u8_xor_nat _ _ (UInt8.toNat_lt _) (UInt8.toNat_lt _), UInt8.toNat_xor]
      have R : ∀ w', (wr.setCell ⟨w.heap.size, j, none⟩ (.int .u8 ((xs.getD j 0 ^^^ ys.getD j 0).toNat : Int))).heap = w'.heap → wr.drawn ≤ w'.drawn → Below (wr.heap.size) (wr.setCell ⟨w.heap.size, j, none⟩ (.int .u8 ((xs.getD j 0 ^^^ ys.getD j 0).toNat : Int))) w' → XorRelG w xs ys (.int .i64 ((j : Int) + 1)) w' := by
        intro w' hs hdw hbl
        have s1 := heap_setCell_same wr w.heap.size j _ 26 (.int .u8 ((xs.getD j 0 ^^^ ys.getD j 0).toNat : Int)) hq
        rw [mixL_succ xs ys j hlt] at s1
        have l2 : w.heap.size + 1 + 1 < wr.heap.size := (Array.getElem?_eq_some_iff.1 ho).1
        refine ⟨⟨j + 1, by omega, by go_num, (hbl.block _ (by omega)).trans s1, ?_, ?_, ?_⟩, Nat.le_trans hdr hdw⟩
        · rw [hbl.block _ (by omega), Below.heap_setCell _ _ _ _ (by simp)]
          exact hr
        · rw [hbl.block _ (by omega), Below.heap_setCell _ _ _ _ (by simp; omega)]
          exact ho
        · exact (hb.setCell (p := ⟨w.heap.size, j, none⟩) (by simp) _).trans (hbl.mono (by omega))
      have HR := Lib.hid R
      generalize (xs.getD j 0 ^^^ ys.getD j 0).toNat = c at hbx HR
      generalize (xs.getD j 0).toNat = a at c1 hbx
      generalize (ys.getD j 0).toNat = b at c2 hbx
      clear hq hr ho hb R HE hx hy hdr
      go_wp2
      go_region
      go_wp2
      go_roundw
      case rel => exact HR.out _ rfl (by simp [World.setCell, World.drewN]) (below_drewN (Below.refl _ _) _)
      case measure => simp [intOf]; omega
    · obtain rfl : j = 20 := by omega
      rw [mixL_full xs ys hx hy] at hq
      have hl : (bcells (xorL xs ys)).length = 20 := by rw [bcells_length, xorL_length (hx.trans hy.symm), hx]
      have hone := bcells_one (xorL xs ys)
      obtain ⟨L, hL⟩ : ∃ L, L = bcells (xorL xs ys) := ⟨_, rfl⟩
      rw [← hL] at hq hl hone
      have HL := Lib.hid hL
      have hsz : L.toArray.size = 20 := (List.size_toArray).trans hl
      have hT := row_there ho
      rw [bcells_length, List.length_replicate] at hT
      have HC := Lib.hid hone
      have HB := Lib.hid hb
      have HD : Hid (w.drawn ≤ wr.drawn) := Lib.hid hdr
      have HS := Lib.hid (World.rangeAt_setCells_same wr (w.heap.size + 1 + 1) 0 L (by rw [hl]; exact hT))
      have HQ1 := Lib.hid (row_range hq)
      have HT : Hid (wr.there (w.heap.size + 1 + 1) 0 L.toArray.size) := Lib.hid (by rw [hsz]; exact hT)
      have HI : Hid ((Try.prog.info? 26).map (·.size) = some L.toArray.size) := Lib.hid (by rw [hsz]; exact size26)
      have HJ : Hid ((Try.prog.info? 26).map (·.size) = some L.length) := Lib.hid (by rw [hl]; exact size26)
      clear hq hr ho hb hl hone hT hlt hj HE hx hy hL hsz hdr
      go_wp2_with ((with_reducible refine wpList_load_mid (op := ⟨some 18, _, _, _, _, _⟩) rfl 26 (.tmp 2) rfl w.heap.size 0 ?_ L _ HQ1.out Try.underlying26 rfl HJ.out ?_); rfl; refine wpList_store_mid rfl 26 (.tmp 4) (.tmp 18) rfl (w.heap.size + 1 + 1) 0 L.toArray rfl rfl HT.out HI.out (all_oneCell_toArray HC.out) ?_)
      refine bodyPost_ret (v := .agg L.toArray) ?_ rfl ?_
      · exact results_cell1 (p := 4) (ty := 26) rfl _ _ (w.heap.size + 1 + 1) 0 L _ rfl (by simpa using HS.out) Try.underlying26 rfl HJ.out
      · exact ⟨by rw [← HL.out], ⟨by simpa using below_cells (by omega) L 0 wr HB.out, by rw [drawn_setCells]; exact HD.out⟩⟩

theorem mcmp_g (t x y : List UInt8) (ht : t.length = 20) (hx : x.length = 20) (hy : y.length = 20) (w : World) :
    Calls Try.prog 53 #[.agg (bcells t).toArray, .agg (bcells x).toArray, .agg (bcells y).toArray] w fun e w' => e = .returned (.int .i64 (cmpL (xorL t x) (xorL t y))) ∧ Grows w w' := by
  have x1 := fun W => xor_g t x ht hx W
  have x2 := fun W => xor_g t y ht hy W
  have c1 := fun W => cmp_g (xorL t x) (xorL t y) (xor_len ht hx) (xor_len ht hy) W
  obtain ⟨A, hA⟩ : ∃ A, A = (bcells t).toArray := ⟨_, rfl⟩
  obtain ⟨B, hB⟩ : ∃ B, B = (bcells x).toArray := ⟨_, rfl⟩
  obtain ⟨C, hC⟩ : ∃ C, C = (bcells y).toArray := ⟨_, rfl⟩
  obtain ⟨W0, hW0⟩ : ∃ W0, W0 = ((w.alloc (.cells A 26)).alloc (.cells B 26)).alloc (.cells C 26) := ⟨_, rfl⟩
  obtain ⟨h1, h2, h3, _⟩ := heap3 w (.cells A 26) (.cells B 26) (.cells C 26)
  have h4 := ((Grows.alloc w (.cells A 26)).trans (Grows.alloc _ (.cells B 26))).trans (Grows.alloc _ (.cells C 26))
  rw [← hW0] at h1 h2 h3 h4
  have hs0 : W0.heap.size = w.heap.size + 3 := by rw [hW0]; simp
  have HL1 : Hid (∀ n : KeptD W0, (loadVar 26 ⟨w.heap.size, 0, none⟩).run Try.prog n.val = .ok (.agg A) n.val) := Lib.hid (fun n => by
    rw [hA] at h1 ⊢
    exact load26 ht (keptD_row h1 (by omega) n))
  have HL2 : Hid (∀ n : KeptD W0, (loadVar 26 ⟨w.heap.size + 1, 0, none⟩).run Try.prog n.val = .ok (.agg B) n.val) := Lib.hid (fun n => by
    rw [hB] at h2 ⊢
    exact load26 hx (keptD_row h2 (by omega) n))
  have HL3 : Hid (∀ n : KeptD W0, (loadVar 26 ⟨w.heap.size + 1 + 1, 0, none⟩).run Try.prog n.val = .ok (.agg C) n.val) := Lib.hid (fun n => by
    rw [hC] at h3 ⊢
    exact load26 hy (keptD_row h3 (by omega) n))
  simp only [← hA, ← hB, ← hC] at x1 x2 ⊢
  generalize (bcells (xorL t x)).toArray = X1 at x1 c1
  generalize (bcells (xorL t y)).toArray = X2 at x2 c1
  generalize cmpL (xorL t x) (xorL t y) = k at c1 ⊢
  have X1' := Lib.hid x1
  have X2' := Lib.hid x2
  have C1 := Lib.hid c1
  have HW := Lib.hid hW0
  have HBL := Lib.hid h4
  clear x1 x2 c1 h1 h2 h3 h4 hW0 hs0 hA hB hC ht hx hy
  go_enter Try.func53, Try.ntmps53
  go_upto_region 1 with fail
  rw [← HW.out]
  refine wp_region_keptD W0 (Grows.refl _) (by kernel_rfl) (by kernel_rfl) ?_
  repeat (first
    | (go_big_quiet_want; (with_reducible refine quiet_loadD 26 (.tmp 3) rfl _ ?_ _ HL1.out ?_); rfl; simp only [Act.put, List.setIfInBounds_toArray, List.set_cons_zero, List.set_cons_succ]; go_big_quiet_on)
    | (go_big_quiet_want; (with_reducible refine quiet_loadD 26 (.tmp 4) rfl _ ?_ _ HL2.out ?_); rfl; simp only [Act.put, List.setIfInBounds_toArray, List.set_cons_zero, List.set_cons_succ]; go_big_quiet_on)
    | (go_big_quiet_want; (with_reducible refine quiet_loadD 26 (.tmp 5) rfl _ ?_ _ HL3.out ?_); rfl; simp only [Act.put, List.setIfInBounds_toArray, List.set_cons_zero, List.set_cons_succ]; go_big_quiet_on)
    | go_big_quiet_step (first
      | (go_at_call 28; with_reducible exact keptD_of X1'.out _)
      | (go_at_call 28; with_reducible exact keptD_of X2'.out _)
      | (go_at_call 30; with_reducible exact keptD_of C1.out _)))
  refine wpQuiet_nil ?_
  rintro _ ⟨⟨wk, hwk⟩, rfl⟩
  go_wp2
  go_ret
  exact ⟨rfl, HBL.out.trans hwk⟩
end Go.Proofs.Ytcoiaddjfeaciaa
end
