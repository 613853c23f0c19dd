/- Rows of ids in memory: plain lemmas. No condition. Ids in order, each once: plain lemmas on lists. No condition. Contracts of Xor of package ident and of Cmp of package metric that say how memory grows: what stood stays, and draws only add up. Conditions: an id has 20 bytes. Contract of the reference's Sort of ids. Conditions: fewer than 20000 ids. Ids by their distance to one: plain lemmas on lists. No condition. Contracts of the reference's Cmp and Has of layer metric, and of same. Conditions: fewer than 100000 ids. -/
import Derived.Test.YtbfhfnbhfeedbaaXMOrd
import Derived.Shelf.SlicesE.Clone
import Derived.LoopTactic
import Derived.Lib.ConvBytes
section
namespace Go.Proofs.Ytbfhfnbhfeedbaa
set_option maxRecDepth 100000
open Go.RowKit Go.Lib

theorem encID_length (x : IDv) : (encID x).length = 20 := by unfold encID; rw [bcells_length, x.property]
section
variable {w w' : World}
theorem range_load26 {g off : Nat} {x : IDv} (h : w.rangeAt g off (encID x)) : (loadVar 55 ⟨g, off, none⟩).run Try.prog w = .ok (.agg (encID x).toArray) w :=
  run_loadVar_mid w g off 55 (encID x) _ h Try.underlying55 rfl (by rw [encID_length]; exact size26)
theorem range_load42 {g off : Nat} {x : IDv} (h : w.rangeAt g off (encID x)) : (loadVar 64 ⟨g, off, none⟩).run Try.prog w = .ok (.agg (encID x).toArray) w :=
  run_loadVar_mid w g off 64 (encID x) _ h Try.underlying64 rfl (by rw [encID_length]; exact size42)
theorem range_keep {g off : Nat} {cs : List Value} (h : w.rangeAt g off cs) (hb : w'.heap[g]? = w.heap[g]?) : w'.rangeAt g off cs := fun j v hv => by
  rw [World.cell?_of_block (w := w) (w' := w') (a := ⟨g, off + j, none⟩) hb]
  exact h j v hv
variable {B B' : Nat} {A : Option Addr} {L : List IDv}
end

end Go.Proofs.Ytbfhfnbhfeedbaa
end
section
namespace Go.Proofs.Ytbfhfnbhfeedbaa
set_option maxRecDepth 100000
open Go.Shelf Go.Lib Go.Sort

instance : DecidableEq IDv := fun a b => decidable_of_iff (a.val = b.val) Subtype.ext_iff.symm
section
variable {key : IDv → Nat}
end

theorem nID_inj (a b : IDv) (h : nID a = nID b) : a = b := Subtype.ext (getN_inj (a.property.trans b.property.symm) h)
end Go.Proofs.Ytbfhfnbhfeedbaa
end
section
namespace Go.Proofs.Ytbfhfnbhfeedbaa
set_option maxRecDepth 100000
set_option maxHeartbeats 1000000
open Go.RowKit

theorem drawn_setCells (w : World) (g o : Nat) (vs : List Value) : (w.setCells g o vs).drawn = w.drawn := by
  induction vs generalizing w o with
  | nil => rfl
  | cons v vs ih => simp [World.setCells, ih]
def XorRelG (w : World) (xs ys : List UInt8) (i : Value) (wr : World) : Prop := XorRel w xs ys i wr ∧ w.drawn ≤ wr.drawn
theorem xor_g (xs ys : List UInt8) (hx : xs.length = 20) (hy : ys.length = 20) (w : World) :
    Calls Try.prog 97 #[.agg (bcells xs).toArray, .agg (bcells ys).toArray] w fun e w' => e = .returned (.agg (bcells (xorL xs ys)).toArray) ∧ Grows w w' := by
  obtain ⟨X, hX⟩ : ∃ X, X = (bcells xs).toArray := ⟨_, rfl⟩
  obtain ⟨Y, hY⟩ : ∃ Y, Y = (bcells ys).toArray := ⟨_, rfl⟩
  obtain ⟨Z, hZ⟩ : ∃ Z, Z = (bcells (List.replicate 20 0)).toArray := ⟨_, rfl⟩
  have hz := fun W => zero26 W
  rw [← hZ] at hz
  rw [← hX, ← hY]
  have HE := Lib.hid (And.intro hX (And.intro hY (And.intro hZ (And.intro hx hy))))
  clear hX hY hZ hx hy
  go_enter Try.func97, Try.ntmps97
  go_wp2
  have R0 : XorRelG w xs ys (.int .i64 0) (((w.alloc (.cells X 55)).alloc (.cells Y 55)).alloc (.cells Z 55)) := by
    obtain ⟨h1, h2, h3, h4⟩ := heap3 w (.cells X 55) (.cells Y 55) (.cells Z 55)
    obtain ⟨e1, e2, e3, e4, e5⟩ := HE.out
    refine ⟨⟨0, by omega, rfl, ?_, ?_, ?_, h4⟩, (((Grows.alloc w _).trans (Grows.alloc _ _)).trans (Grows.alloc _ _)).2⟩
    · rw [h1, mixL_zero _ _ e4, e1]
    · rw [h2, e2]
    · rw [h3, e3]
  have HR0 := Lib.hid R0
  clear R0 hz
  go_loopw [6] (XorRelG w xs ys) (fun i _ => 20 - (intOf i).toNat)
  case atStart => exact HR0.out
  case round =>
    obtain ⟨⟨j, hj, rfl, hq, hr, ho, hb⟩, hdr⟩ := hrel
    clear HR0
    obtain ⟨_, _, _, hx, hy⟩ := HE.out
    by_cases hlt : j < 20
    · have c1 : wr.cell? ⟨w.heap.size, j, none⟩ = some (.int .u8 ((xs.getD j 0).toNat : Int)) := by
        rw [cell_of_row wr _ j _ 55 (0, 0) hq, List.getElem?_toArray, mixL_get xs ys j hlt]
      have c2 : wr.cell? ⟨w.heap.size + 1, j, none⟩ = some (.int .u8 ((ys.getD j 0).toNat : Int)) := by
        rw [cell_of_row wr _ j _ 55 (0, 0) hr, List.getElem?_toArray, bcells_get ys j (by omega), List.getD_eq_getElem?_getD, List.getElem?_eq_getElem (by omega)]
        rfl
      have fr := frozen_of_row wr w.heap.size j _ 55 hq
      have hbx : bits .xor .u8 ((xs.getD j 0).toNat : Int) ((ys.getD j 0).toNat : Int) = ((xs.getD j 0 ^^^ ys.getD j 0).toNat : Int) := by
        rw [u8_xor_nat _ _ (UInt8.toNat_lt _) (UInt8.toNat_lt _), UInt8.toNat_xor]
      have R : ∀ w', (wr.setCell ⟨w.heap.size, j, none⟩ (.int .u8 ((xs.getD j 0 ^^^ ys.getD j 0).toNat : Int))).heap = w'.heap → wr.drawn ≤ w'.drawn → Below (wr.heap.size) (wr.setCell ⟨w.heap.size, j, none⟩ (.int .u8 ((xs.getD j 0 ^^^ ys.getD j 0).toNat : Int))) w' → XorRelG w xs ys (.int .i64 ((j : Int) + 1)) w' := by
        intro w' hs hdw hbl
        have s1 := heap_setCell_same wr w.heap.size j _ 55 (.int .u8 ((xs.getD j 0 ^^^ ys.getD j 0).toNat : Int)) hq
        rw [mixL_succ xs ys j hlt] at s1
        have l2 : w.heap.size + 1 + 1 < wr.heap.size := (Array.getElem?_eq_some_iff.1 ho).1
        refine ⟨⟨j + 1, by omega, by go_num, (hbl.block _ (by omega)).trans s1, ?_, ?_, ?_⟩, Nat.le_trans hdr hdw⟩
        · rw [hbl.block _ (by omega), Below.heap_setCell _ _ _ _ (by simp)]
          exact hr
        · rw [hbl.block _ (by omega), Below.heap_setCell _ _ _ _ (by simp; omega)]
          exact ho
        · exact (hb.setCell (p := ⟨w.heap.size, j, none⟩) (by simp) _).trans (hbl.mono (by omega))
      have HR := Lib.hid R
      generalize (xs.getD j 0 ^^^ ys.getD j 0).toNat = c at hbx HR
      generalize (xs.getD j 0).toNat = a at c1 hbx
      generalize (ys.getD j 0).toNat = b at c2 hbx
      clear hq hr ho hb R HE hx hy hdr
      go_wp2
      go_region
      go_wp2
      go_roundw
      case rel => exact HR.out _ rfl (by simp [World.setCell, World.drewN]) (below_drewN (Below.refl _ _) _)
      case measure => simp [intOf]; omega
    · obtain rfl : j = 20 := by omega
      rw [mixL_full xs ys hx hy] at hq
      have hl : (bcells (xorL xs ys)).length = 20 := by rw [bcells_length, xorL_length (hx.trans hy.symm), hx]
      have hone := bcells_one (xorL xs ys)
      obtain ⟨L, hL⟩ : ∃ L, L = bcells (xorL xs ys) := ⟨_, rfl⟩
      rw [← hL] at hq hl hone
      have HL := Lib.hid hL
      have hsz : L.toArray.size = 20 := (List.size_toArray).trans hl
      have hT := row_there ho
      rw [bcells_length, List.length_replicate] at hT
      have HC := Lib.hid hone
      have HB := Lib.hid hb
      have HD : Hid (w.drawn ≤ wr.drawn) := Lib.hid hdr
      have HS := Lib.hid (World.rangeAt_setCells_same wr (w.heap.size + 1 + 1) 0 L (by rw [hl]; exact hT))
      have HQ1 := Lib.hid (row_range hq)
      have HT : Hid (wr.there (w.heap.size + 1 + 1) 0 L.toArray.size) := Lib.hid (by rw [hsz]; exact hT)
      have HI : Hid ((Try.prog.info? 55).map (·.size) = some L.toArray.size) := Lib.hid (by rw [hsz]; exact size26)
      have HJ : Hid ((Try.prog.info? 55).map (·.size) = some L.length) := Lib.hid (by rw [hl]; exact size26)
      clear hq hr ho hb hl hone hT hlt hj HE hx hy hL hsz hdr
      go_wp2_with ((with_reducible refine wpList_load_mid (op := ⟨some 18, _, _, _, _, _⟩) rfl 55 (.tmp 2) rfl w.heap.size 0 ?_ L _ HQ1.out Try.underlying55 rfl HJ.out ?_); rfl; refine wpList_store_mid rfl 55 (.tmp 4) (.tmp 18) rfl (w.heap.size + 1 + 1) 0 L.toArray rfl rfl HT.out HI.out (all_oneCell_toArray HC.out) ?_)
      refine bodyPost_ret (v := .agg L.toArray) ?_ rfl ?_
      · exact results_cell1 (p := 4) (ty := 55) rfl _ _ (w.heap.size + 1 + 1) 0 L _ rfl (by simpa using HS.out) Try.underlying55 rfl HJ.out
      · exact ⟨by rw [← HL.out], ⟨by simpa using below_cells (by omega) L 0 wr HB.out, by rw [drawn_setCells]; exact HD.out⟩⟩

theorem mcmp_g (t x y : List UInt8) (ht : t.length = 20) (hx : x.length = 20) (hy : y.length = 20) (w : World) :
    Calls Try.prog 70 #[.agg (bcells t).toArray, .agg (bcells x).toArray, .agg (bcells y).toArray] w fun e w' => e = .returned (.int .i64 (cmpL (xorL t x) (xorL t y))) ∧ Grows w w' := by
  have x1 := fun W => xor_g t x ht hx W
  have x2 := fun W => xor_g t y ht hy W
  have c1 := fun W => cmp_g (xorL t x) (xorL t y) (xor_len ht hx) (xor_len ht hy) W
  obtain ⟨A, hA⟩ : ∃ A, A = (bcells t).toArray := ⟨_, rfl⟩
  obtain ⟨B, hB⟩ : ∃ B, B = (bcells x).toArray := ⟨_, rfl⟩
  obtain ⟨C, hC⟩ : ∃ C, C = (bcells y).toArray := ⟨_, rfl⟩
  obtain ⟨W0, hW0⟩ : ∃ W0, W0 = ((w.alloc (.cells A 55)).alloc (.cells B 55)).alloc (.cells C 55) := ⟨_, rfl⟩
  obtain ⟨h1, h2, h3, _⟩ := heap3 w (.cells A 55) (.cells B 55) (.cells C 55)
  have h4 := ((Grows.alloc w (.cells A 55)).trans (Grows.alloc _ (.cells B 55))).trans (Grows.alloc _ (.cells C 55))
  rw [← hW0] at h1 h2 h3 h4
  have hs0 : W0.heap.size = w.heap.size + 3 := by rw [hW0]; simp
  have HL1 : Hid (∀ n : KeptD W0, (loadVar 55 ⟨w.heap.size, 0, none⟩).run Try.prog n.val = .ok (.agg A) n.val) := Lib.hid (fun n => by
    rw [hA] at h1 ⊢
    exact load26 ht (keptD_row h1 (by omega) n))
  have HL2 : Hid (∀ n : KeptD W0, (loadVar 55 ⟨w.heap.size + 1, 0, none⟩).run Try.prog n.val = .ok (.agg B) n.val) := Lib.hid (fun n => by
    rw [hB] at h2 ⊢
    exact load26 hx (keptD_row h2 (by omega) n))
  have HL3 : Hid (∀ n : KeptD W0, (loadVar 55 ⟨w.heap.size + 1 + 1, 0, none⟩).run Try.prog n.val = .ok (.agg C) n.val) := Lib.hid (fun n => by
    rw [hC] at h3 ⊢
    exact load26 hy (keptD_row h3 (by omega) n))
  simp only [← hA, ← hB, ← hC] at x1 x2 ⊢
  generalize (bcells (xorL t x)).toArray = X1 at x1 c1
  generalize (bcells (xorL t y)).toArray = X2 at x2 c1
  generalize cmpL (xorL t x) (xorL t y) = k at c1 ⊢
  have X1' := Lib.hid x1
  have X2' := Lib.hid x2
  have C1 := Lib.hid c1
  have HW := Lib.hid hW0
  have HBL := Lib.hid h4
  clear x1 x2 c1 h1 h2 h3 h4 hW0 hs0 hA hB hC ht hx hy
  go_enter Try.func70, Try.ntmps70
  go_upto_region 1 with fail
  rw [← HW.out]
  refine wp_region_keptD W0 (Grows.refl _) (by kernel_rfl) (by kernel_rfl) ?_
  repeat (first
    | (go_big_quiet_want; (with_reducible refine quiet_loadD 55 (.tmp 3) rfl _ ?_ _ HL1.out ?_); rfl; simp only [Act.put, List.setIfInBounds_toArray, List.set_cons_zero, List.set_cons_succ]; go_big_quiet_on)
    | (go_big_quiet_want; (with_reducible refine quiet_loadD 55 (.tmp 4) rfl _ ?_ _ HL2.out ?_); rfl; simp only [Act.put, List.setIfInBounds_toArray, List.set_cons_zero, List.set_cons_succ]; go_big_quiet_on)
    | (go_big_quiet_want; (with_reducible refine quiet_loadD 55 (.tmp 5) rfl _ ?_ _ HL3.out ?_); rfl; simp only [Act.put, List.setIfInBounds_toArray, List.set_cons_zero, List.set_cons_succ]; go_big_quiet_on)
    | go_big_quiet_step (first
      | (go_at_call 97; with_reducible exact keptD_of X1'.out _)
      | (go_at_call 97; with_reducible exact keptD_of X2'.out _)
      | (go_at_call 96; with_reducible exact keptD_of C1.out _)))
  refine wpQuiet_nil ?_
  rintro _ ⟨⟨wk, hwk⟩, rfl⟩
  go_wp2
  go_ret
  exact ⟨rfl, HBL.out.trans hwk⟩
end Go.Proofs.Ytbfhfnbhfeedbaa
end
section
namespace Go.Proofs.Ytbfhfnbhfeedbaa
set_option maxRecDepth 100000
set_option maxHeartbeats 1000000
open Go.RowKit Go.Lib Go.Great

theorem kept_range {g off : Nat} {W : World} {x : IDv} (hg : g < W.heap.size) (h : W.rangeAt g off (encID x)) : ∀ n : Kept W.heap.size W, (loadVar 64 ⟨g, off, none⟩).run Try.prog n.val = .ok (.agg (encID x).toArray) n.val :=
  fun n => range_load42 (range_keep h (n.property.block g hg))

end Go.Proofs.Ytbfhfnbhfeedbaa
end
section
namespace Go.Proofs.Ytbfhfnbhfeedbaa
set_option maxRecDepth 100000
open Go.Shelf Go.Lib Go.Sort

theorem xorL_self : ∀ (t x : List UInt8), t.length = x.length → xorL t (xorL t x) = x
  | [], [], _ => rfl
  | a :: t, b :: x, h => by
    have := xorL_self t x (by simpa using h)
    simp only [xorL, List.zipWith_cons_cons] at this ⊢
    rw [this, ← UInt8.xor_assoc, UInt8.xor_self, UInt8.zero_xor]
def xorI (t x : IDv) : IDv := ⟨xorL t.val x.val, xor_len t.property x.property⟩
theorem xorI_self (t x : IDv) : xorI t (xorI t x) = x := Subtype.ext (xorL_self _ _ (t.property.trans x.property.symm))
theorem xorI_inj (t x y : IDv) (h : xorI t x = xorI t y) : x = y := by rw [← xorI_self t x, h, xorI_self]
/-- An id's distance, as a number. -/
def kM (t x : IDv) : Nat := nID (xorI t x)
theorem kM_inj (t x y : IDv) (h : kM t x = kM t y) : x = y := xorI_inj t x y (nID_inj _ _ h)
def cfM (t x y : IDv) : Int := cmpL (xorL t.val x.val) (xorL t.val y.val)
theorem ltM (t x y : IDv) : ltOf (cfM t) x y = decide (kM t x < kM t y) := ltID (xorI t x) (xorI t y)
theorem swoM (t : IDv) : SWO (ltOf (cfM t)) where
  irrefl x := by rw [ltM]; simp
  trans x y z h1 h2 := by rw [ltM] at *; simp at *; omega
  ntrans x y z h1 h2 := by rw [ltM] at *; simp at *; omega
section
variable {key : IDv → Nat}
end
end Go.Proofs.Ytbfhfnbhfeedbaa
end
section
namespace Go.Proofs.Ytbfhfnbhfeedbaa
set_option maxRecDepth 100000
set_option maxHeartbeats 1000000
open Go.RowKit Go.Lib Go.Great

theorem rmcmp_any (t x y : IDv) (w : World) :
    Calls Try.prog 73 #[.agg (encID t).toArray, .agg (encID x).toArray, .agg (encID y).toArray] w fun e w' => e = .returned (.int .i64 (cfM t x y)) ∧ Below w.heap.size w w' := by
  have x1 : ∀ W, Calls Try.prog 99 #[.agg (encID t).toArray, .agg (encID x).toArray] W fun e w' => e = .returned (.agg (encID (xorI t x)).toArray) ∧ Below W.heap.size W w' := fun W => rxor_any t.val x.val t.property x.property W
  have x2 : ∀ W, Calls Try.prog 99 #[.agg (encID t).toArray, .agg (encID y).toArray] W fun e w' => e = .returned (.agg (encID (xorI t y)).toArray) ∧ Below W.heap.size W w' := fun W => rxor_any t.val y.val t.property y.property W
  have c1 : ∀ W, Calls Try.prog 98 #[.agg (encID (xorI t x)).toArray, .agg (encID (xorI t y)).toArray] W fun e w' => e = .returned (.int .i64 (cfM t x y)) ∧ Below W.heap.size W w' := fun W => rcmp_any (xorI t x).val (xorI t y).val (xorI t x).property (xorI t y).property W
  obtain ⟨W0, hW0⟩ : ∃ W0, W0 = ((w.alloc (.cells (encID t).toArray 64)).alloc (.cells (encID x).toArray 64)).alloc (.cells (encID y).toArray 64) := ⟨_, rfl⟩
  obtain ⟨h1, h2, h3, h4⟩ := heap3 w (.cells (encID t).toArray 64) (.cells (encID x).toArray 64) (.cells (encID y).toArray 64)
  rw [← hW0] at h1 h2 h3 h4
  have HL1 := Lib.hid (kept_range (Array.getElem?_eq_some_iff.1 h1).1 (row_range h1))
  have HL2 := Lib.hid (kept_range (Array.getElem?_eq_some_iff.1 h2).1 (row_range h2))
  have HL3 := Lib.hid (kept_range (Array.getElem?_eq_some_iff.1 h3).1 (row_range h3))
  have X1' := Lib.hid x1
  have X2' := Lib.hid x2
  have C1 := Lib.hid c1
  have HW := Lib.hid hW0
  have HBL := Lib.hid h4
  generalize (encID t).toArray = A at HL1 X1' X2' HW ⊢
  generalize (encID x).toArray = B at HL2 X1' HW ⊢
  generalize (encID y).toArray = C at HL3 X2' HW ⊢
  generalize (encID (xorI t x)).toArray = X1 at X1' C1
  generalize (encID (xorI t y)).toArray = X2 at X2' C1
  generalize cfM t x y = k at C1 ⊢
  clear x1 x2 c1 h1 h2 h3 h4 hW0
  go_enter Try.func73, Try.ntmps73
  go_upto_region 1 with fail
  rw [← HW.out]
  refine wp_region_kept W0.heap.size W0 (Below.refl _ _) (by kernel_rfl) (by kernel_rfl) ?_
  repeat (first
    | (go_big_quiet_want; (with_reducible refine quiet_loadV 64 (.tmp 3) rfl _ ?_ _ HL1.out ?_); rfl; simp only [Act.put, List.setIfInBounds_toArray, List.set_cons_zero, List.set_cons_succ]; go_big_quiet_on)
    | (go_big_quiet_want; (with_reducible refine quiet_loadV 64 (.tmp 4) rfl _ ?_ _ HL2.out ?_); rfl; simp only [Act.put, List.setIfInBounds_toArray, List.set_cons_zero, List.set_cons_succ]; go_big_quiet_on)
    | (go_big_quiet_want; (with_reducible refine quiet_loadV 64 (.tmp 5) rfl _ ?_ _ HL3.out ?_); rfl; simp only [Act.put, List.setIfInBounds_toArray, List.set_cons_zero, List.set_cons_succ]; go_big_quiet_on)
    | go_big_quiet_step (first
      | (go_at_call 99; with_reducible exact kept_of (Nat.le_refl _) X1'.out _)
      | (go_at_call 99; with_reducible exact kept_of (Nat.le_refl _) X2'.out _)
      | (go_at_call 98; with_reducible exact kept_of (Nat.le_refl _) C1.out _)))
  refine wpQuiet_nil ?_
  rintro _ ⟨⟨wk, hwk⟩, rfl⟩
  go_wp2
  go_ret
  exact ⟨rfl, HBL.out.trans (hwk.mono HBL.out.size)⟩

end Go.Proofs.Ytbfhfnbhfeedbaa
end
