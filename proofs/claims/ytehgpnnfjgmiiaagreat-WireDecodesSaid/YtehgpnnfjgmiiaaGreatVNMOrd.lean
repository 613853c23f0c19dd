/- The order of ids is that of the numbers that they are: plain lemmas without a program. No condition. Contract of slices.SortFunc at ids, with the closure of ident.Sort. Conditions: fewer than 2^62 ids. Rows of ids in memory: plain lemmas. No condition. Ids in order, each once: plain lemmas on lists. No condition. Contracts of Xor of package ident and of Cmp of package metric that say how memory grows: what stood stays, and draws only add up. Conditions: an id has 20 bytes. Contract of the reference's Sort of ids. Conditions: fewer than 20000 ids. Ids by their distance to one: plain lemmas on lists. No condition. Contract of the reference's Bytes of layer addr. Conditions: a host fits 32 bits, a port 16. Plain facts of addresses for the three statements of layer addr. Conditions: host below 2^32, port below 2^16. Plain facts on the bytes of contacts and of lists of contacts, for layer 8. No program, no condition. -/
import Derived.Test.YtehgpnnfjgmiiaaGreatVOja
import Derived.Test.YtehgpnnfjgmiiaaGreatVObd
import Derived.Test.YtehgpnnfjgmiiaaGreatVIiv
import Derived.Test.YtehgpnnfjgmiiaaGreatVObc
import Derived.Test.YtehgpnnfjgmiiaaGreatVROcc
import Derived.Test.YtehgpnnfjgmiiaaGreatVRERefb
import Derived.Test.YtehgpnnfjgmiiaaGreatVRKCdk
import Derived.Test.YtehgpnnfjgmiiaaGreatVRIip
import Derived.Test.YtehgpnnfjgmiiaaGreatVREOctc
import Derived.Test.YtehgpnnfjgmiiaaGreatVNMIdd
import Derived.WalkKit
import Derived.Deep.AppendSrc
import Derived.Laws.BytesString
import Derived.Laws.CopyOwn
import Derived.Deep.AppendLies
import Derived.Deep.Draws
import Derived.WalkSpells
import Derived.Test.YtehgpnnfjgmiiaaGreatRows
import Derived.WalkLawsBesides
import Derived.Lib.Hide
import Derived.Outline
import Derived.Laws.BitsAllLaws
import Derived.Laws.BitsLemmas
import Derived.Laws.Bits64
import Derived.LoopTactic
import Derived.Test.YtehgpnnfjgmiiaaGreatVNCsg
import Derived.Shelf.SlicesE.Clone
import Derived.Lib.ConvBytes
import Derived.Deep.MidRow
import Derived.BigQuiet
import Derived.RegionTactic
import Derived.RegionCalls
import Derived.Deep.RegionHeld3
import Derived.Deep.QuietTactic
import Derived.Deep.DeepCutAuto
import Derived.Great.BuildSlice
import Derived.Lib.SlBytesConst
import Derived.Stop.BytesEq
import Derived.StillTailTactics
import Derived.Sort.Grow
import Derived.Lib.OwnBridge
import Derived.Lib.SliceRun
import Derived.Below
import Derived.ProofKit
import Derived.OpenShut
import Derived.Laws.Tables
section
namespace Go.Proofs.YtehgpnnfjgmiiaaGreat
set_option maxRecDepth 100000
open Go.RowKit

theorem fold_acc : ∀ (xs : List UInt8) (n : Nat), xs.foldl (fun n b => n * 256 + b.toNat) n = n * 256 ^ xs.length + getN xs
  | [], n => by simp [getN]
  | x :: xs, n => by
    have h1 := fold_acc xs (n * 256 + x.toNat)
    have h2 := fold_acc xs (0 * 256 + x.toNat)
    have e : getN (x :: xs) = xs.foldl (fun n b => n * 256 + b.toNat) (0 * 256 + x.toNat) := rfl
    rw [List.foldl_cons, h1, e, h2, List.length_cons, Nat.pow_succ, Nat.zero_mul, Nat.zero_add, Nat.add_mul, Nat.mul_assoc, Nat.mul_comm 256, Nat.add_assoc]
theorem getN_cons (x : UInt8) (xs : List UInt8) : getN (x :: xs) = x.toNat * 256 ^ xs.length + getN xs := by
  have e : getN (x :: xs) = xs.foldl (fun n b => n * 256 + b.toNat) (0 * 256 + x.toNat) := rfl
  rw [e, fold_acc, Nat.zero_mul, Nat.zero_add]
theorem byte_fin : ∀ x y : Fin 256, x.val ≠ y.val → (x.val.testBit (7 - lz8 (UInt8.ofNat (x.val ^^^ y.val))) = false ↔ x.val < y.val) := by decide +kernel
theorem byte_lt {x y : UInt8} (h : x ≠ y) : x.toNat.testBit (7 - lz8 (x ^^^ y)) = false ↔ x.toNat < y.toNat := by
  have := byte_fin ⟨x.toNat, x.toNat_lt⟩ ⟨y.toNat, y.toNat_lt⟩ (fun e => h (UInt8.toNat.inj e))
  have e : UInt8.ofNat (x.toNat ^^^ y.toNat) = x ^^^ y := by
    apply UInt8.toNat.inj
    rw [← UInt8.toNat_xor]
    simp
  simp only [e] at this
  exact this
theorem cmpL_cons (x : UInt8) (xs ys : List UInt8) : cmpL (x :: xs) (x :: ys) = cmpL xs ys := by
  unfold cmpL
  by_cases h : xs = ys
  · rw [if_pos h, if_pos (by rw [h])]
  · rw [if_neg h, if_neg (fun e => h (by injection e))]
    have e : pfxN (x :: xs) (x :: ys) = 8 + pfxN xs ys := by
      show (if x = x then 8 + pfxN xs ys else lz8 (x ^^^ x)) = _
      rw [if_pos rfl]
    rw [e, bitL_tail]
theorem cmpL_head {x y : UInt8} (h : x ≠ y) (xs ys : List UInt8) : cmpL (x :: xs) (y :: ys) = if x.toNat.testBit (7 - lz8 (x ^^^ y)) then 1 else -1 := by
  unfold cmpL
  rw [if_neg (fun e => h (by injection e))]
  have e : pfxN (x :: xs) (y :: ys) = lz8 (x ^^^ y) := by
    show (if x = y then 8 + pfxN xs ys else lz8 (x ^^^ y)) = _
    rw [if_neg h]
  rw [e, bitL_head _ _ _ (byte_diff h).1]
/-- An id is below another one just if the number is. -/
theorem cmpL_lt : ∀ (xs ys : List UInt8), xs.length = ys.length → (cmpL xs ys < 0 ↔ getN xs < getN ys)
  | [], [], _ => by simp [cmpL, getN]
  | x :: xs, y :: ys, h => by
    have hl : xs.length = ys.length := by simpa using h
    rw [getN_cons, getN_cons, ← hl]
    have b1 := getN_lt xs
    have b2 := getN_lt ys
    rw [← hl] at b2
    by_cases hxy : x = y
    · subst hxy
      rw [cmpL_cons, cmpL_lt xs ys hl]
      omega
    · rw [cmpL_head hxy]
      have hb := byte_lt hxy
      cases hv : x.toNat.testBit (7 - lz8 (x ^^^ y))
      · have hlt := hb.1 hv
        have : x.toNat * 256 ^ xs.length + 256 ^ xs.length ≤ y.toNat * 256 ^ xs.length := by
          have := Nat.mul_le_mul_right (256 ^ xs.length) (show x.toNat + 1 ≤ y.toNat by omega)
          rw [Nat.add_mul, Nat.one_mul] at this
          exact this
        simp only [Bool.false_eq_true, if_false]
        constructor
        · intro _; omega
        · intro _; decide
      · have hnl : ¬ x.toNat < y.toNat := fun e => by have := hb.2 e; rw [hv] at this; cases this
        have hne : x.toNat ≠ y.toNat := fun e => hxy (UInt8.toNat.inj e)
        have : y.toNat * 256 ^ xs.length + 256 ^ xs.length ≤ x.toNat * 256 ^ xs.length := by
          have := Nat.mul_le_mul_right (256 ^ xs.length) (show y.toNat + 1 ≤ x.toNat by omega)
          rw [Nat.add_mul, Nat.one_mul] at this
          exact this
        simp only [if_true]
        constructor
        · intro h; omega
        · intro h; omega
theorem getN_inj {xs ys : List UInt8} (h : xs.length = ys.length) (e : getN xs = getN ys) : xs = ys := by
  apply Decidable.byContradiction
  intro hne
  have h1 := (cmpL_lt xs ys h)
  have h2 := (cmpL_lt ys xs h.symm)
  have hn := cmpL_neg xs ys h
  have h0 : cmpL xs ys ≠ 0 := by
    unfold cmpL
    rw [if_neg hne]
    split <;> decide
  omega
end Go.Proofs.YtehgpnnfjgmiiaaGreat
end
section
namespace Go.Proofs.YtehgpnnfjgmiiaaGreat
open Go.Shelf Go.RowKit Go.Lib Go.Sort
set_option maxRecDepth 100000

/-- An id. -/
def IDv : Type := { xs : List UInt8 // xs.length = 20 }
instance : Inhabited IDv := ⟨⟨List.replicate 20 0, by simp⟩⟩
def encID (x : IDv) : List Value := bcells x.val
def cfID (x y : IDv) : Int := cmpL x.val y.val
def nID (x : IDv) : Nat := getN x.val
theorem ltID (x y : IDv) : ltOf cfID x y = decide (nID x < nID y) := by
  unfold ltOf cfID nID
  have := cmpL_lt x.val y.val (x.property.trans y.property.symm)
  by_cases h : getN x.val < getN y.val
  · rw [decide_eq_true h, decide_eq_true (this.2 h)]
  · rw [decide_eq_false h, decide_eq_false (fun e => h (this.1 e))]
end Go.Proofs.YtehgpnnfjgmiiaaGreat
end
section
namespace Go.Proofs.YtehgpnnfjgmiiaaGreat
set_option maxRecDepth 100000
open Go.RowKit Go.Lib

theorem encID_length (x : IDv) : (encID x).length = 20 := by unfold encID; rw [bcells_length, x.property]
section
variable {w w' : World}
theorem range_load26 {g off : Nat} {x : IDv} (h : w.rangeAt g off (encID x)) : (loadVar 24 ⟨g, off, none⟩).run Tryz.prog w = .ok (.agg (encID x).toArray) w :=
  run_loadVar_mid w g off 24 (encID x) _ h Tryz.underlying24 rfl (by rw [encID_length]; exact size26)
theorem range_load42 {g off : Nat} {x : IDv} (h : w.rangeAt g off (encID x)) : (loadVar 87 ⟨g, off, none⟩).run Tryz.prog w = .ok (.agg (encID x).toArray) w :=
  run_loadVar_mid w g off 87 (encID x) _ h Tryz.underlying87 rfl (by rw [encID_length]; exact size42)
theorem range_keep {g off : Nat} {cs : List Value} (h : w.rangeAt g off cs) (hb : w'.heap[g]? = w.heap[g]?) : w'.rangeAt g off cs := fun j v hv => by
  rw [World.cell?_of_block (w := w) (w' := w') (a := ⟨g, off + j, none⟩) hb]
  exact h j v hv
variable {B B' : Nat} {A : Option Addr} {L : List IDv}
end

end Go.Proofs.YtehgpnnfjgmiiaaGreat
end
section
namespace Go.Proofs.YtehgpnnfjgmiiaaGreat
set_option maxRecDepth 100000
open Go.Shelf Go.Lib Go.Sort

instance : DecidableEq IDv := fun a b => decidable_of_iff (a.val = b.val) Subtype.ext_iff.symm
section
variable {key : IDv → Nat}
end

theorem nID_inj (a b : IDv) (h : nID a = nID b) : a = b := Subtype.ext (getN_inj (a.property.trans b.property.symm) h)
end Go.Proofs.YtehgpnnfjgmiiaaGreat
end
section
namespace Go.Proofs.YtehgpnnfjgmiiaaGreat
set_option maxRecDepth 100000
set_option maxHeartbeats 1000000
open Go.RowKit

theorem drawn_setCells (w : World) (g o : Nat) (vs : List Value) : (w.setCells g o vs).drawn = w.drawn := by
  induction vs generalizing w o with
  | nil => rfl
  | cons v vs ih => simp [World.setCells, ih]
def XorRelG (w : World) (xs ys : List UInt8) (i : Value) (wr : World) : Prop := XorRel w xs ys i wr ∧ w.drawn ≤ wr.drawn
theorem xor_g (xs ys : List UInt8) (hx : xs.length = 20) (hy : ys.length = 20) (w : World) :
    Calls Tryz.prog 129 #[.agg (bcells xs).toArray, .agg (bcells ys).toArray] w fun e w' => e = .returned (.agg (bcells (xorL xs ys)).toArray) ∧ Grows w w' := by
  obtain ⟨X, hX⟩ : ∃ X, X = (bcells xs).toArray := ⟨_, rfl⟩
  obtain ⟨Y, hY⟩ : ∃ Y, Y = (bcells ys).toArray := ⟨_, rfl⟩
  obtain ⟨Z, hZ⟩ : ∃ Z, Z = (bcells (List.replicate 20 0)).toArray := ⟨_, rfl⟩
  have hz := fun W => zero26 W
  rw [← hZ] at hz
  rw [← hX, ← hY]
  have HE := Lib.hid (And.intro hX (And.intro hY (And.intro hZ (And.intro hx hy))))
  clear hX hY hZ hx hy
  go_enter Tryz.func129, Tryz.ntmps129
  go_wp2
  have R0 : XorRelG w xs ys (.int .i64 0) (((w.alloc (.cells X 24)).alloc (.cells Y 24)).alloc (.cells Z 24)) := by
    obtain ⟨h1, h2, h3, h4⟩ := heap3 w (.cells X 24) (.cells Y 24) (.cells Z 24)
    obtain ⟨e1, e2, e3, e4, e5⟩ := HE.out
    refine ⟨⟨0, by omega, rfl, ?_, ?_, ?_, h4⟩, (((Grows.alloc w _).trans (Grows.alloc _ _)).trans (Grows.alloc _ _)).2⟩
    · rw [h1, mixL_zero _ _ e4, e1]
    · rw [h2, e2]
    · rw [h3, e3]
  have HR0 := Lib.hid R0
  clear R0 hz
  go_loopw [6] (XorRelG w xs ys) (fun i _ => 20 - (intOf i).toNat)
  case atStart => exact HR0.out
  case round =>
    obtain ⟨⟨j, hj, rfl, hq, hr, ho, hb⟩, hdr⟩ := hrel
    clear HR0
    obtain ⟨_, _, _, hx, hy⟩ := HE.out
    by_cases hlt : j < 20
    · have c1 : wr.cell? ⟨w.heap.size, j, none⟩ = some (.int .u8 ((xs.getD j 0).toNat : Int)) := by
        rw [cell_of_row wr _ j _ 24 (0, 0) hq, List.getElem?_toArray, mixL_get xs ys j hlt]
      have c2 : wr.cell? ⟨w.heap.size + 1, j, none⟩ = some (.int .u8 ((ys.getD j 0).toNat : Int)) := by
        rw [cell_of_row wr _ j _ 24 (0, 0) hr, List.getElem?_toArray, bcells_get ys j (by omega), List.getD_eq_getElem?_getD, List.getElem?_eq_getElem (by omega)]
        rfl
      have fr := frozen_of_row wr w.heap.size j _ 24 hq
      have hbx : bits .xor .u8 ((xs.getD j 0).toNat : Int) ((ys.getD j 0).toNat : Int) = ((xs.getD j 0 ^^^ ys.getD j 0).toNat : Int) := by
        rw [u8_xor_nat _ _ (UInt8.toNat_lt _) (UInt8.toNat_lt _), UInt8.toNat_xor]
      have R : ∀ w', (wr.setCell ⟨w.heap.size, j, none⟩ (.int .u8 ((xs.getD j 0 ^^^ ys.getD j 0).toNat : Int))).heap = w'.heap → wr.drawn ≤ w'.drawn → Below (wr.heap.size) (wr.setCell ⟨w.heap.size, j, none⟩ (.int .u8 ((xs.getD j 0 ^^^ ys.getD j 0).toNat : Int))) w' → XorRelG w xs ys (.int .i64 ((j : Int) + 1)) w' := by
        intro w' hs hdw hbl
        have s1 := heap_setCell_same wr w.heap.size j _ 24 (.int .u8 ((xs.getD j 0 ^^^ ys.getD j 0).toNat : Int)) hq
        rw [mixL_succ xs ys j hlt] at s1
        have l2 : w.heap.size + 1 + 1 < wr.heap.size := (Array.getElem?_eq_some_iff.1 ho).1
        refine ⟨⟨j + 1, by omega, by go_num, (hbl.block _ (by omega)).trans s1, ?_, ?_, ?_⟩, Nat.le_trans hdr hdw⟩
        · rw [hbl.block _ (by omega), Below.heap_setCell _ _ _ _ (by simp)]
          exact hr
        · rw [hbl.block _ (by omega), Below.heap_setCell _ _ _ _ (by simp; omega)]
          exact ho
        · exact (hb.setCell (p := ⟨w.heap.size, j, none⟩) (by simp) _).trans (hbl.mono (by omega))
      have HR := Lib.hid R
      generalize (xs.getD j 0 ^^^ ys.getD j 0).toNat = c at hbx HR
      generalize (xs.getD j 0).toNat = a at c1 hbx
      generalize (ys.getD j 0).toNat = b at c2 hbx
      clear hq hr ho hb R HE hx hy hdr
      go_wp2
      go_region
      go_wp2
      go_roundw
      case rel => exact HR.out _ rfl (by simp [World.setCell, World.drewN]) (below_drewN (Below.refl _ _) _)
      case measure => simp [intOf]; omega
    · obtain rfl : j = 20 := by omega
      rw [mixL_full xs ys hx hy] at hq
      have hl : (bcells (xorL xs ys)).length = 20 := by rw [bcells_length, xorL_length (hx.trans hy.symm), hx]
      have hone := bcells_one (xorL xs ys)
      obtain ⟨L, hL⟩ : ∃ L, L = bcells (xorL xs ys) := ⟨_, rfl⟩
      rw [← hL] at hq hl hone
      have HL := Lib.hid hL
      have hsz : L.toArray.size = 20 := (List.size_toArray).trans hl
      have hT := row_there ho
      rw [bcells_length, List.length_replicate] at hT
      have HC := Lib.hid hone
      have HB := Lib.hid hb
      have HD : Hid (w.drawn ≤ wr.drawn) := Lib.hid hdr
      have HS := Lib.hid (World.rangeAt_setCells_same wr (w.heap.size + 1 + 1) 0 L (by rw [hl]; exact hT))
      have HQ1 := Lib.hid (row_range hq)
      have HT : Hid (wr.there (w.heap.size + 1 + 1) 0 L.toArray.size) := Lib.hid (by rw [hsz]; exact hT)
      have HI : Hid ((Tryz.prog.info? 24).map (·.size) = some L.toArray.size) := Lib.hid (by rw [hsz]; exact size26)
      have HJ : Hid ((Tryz.prog.info? 24).map (·.size) = some L.length) := Lib.hid (by rw [hl]; exact size26)
      clear hq hr ho hb hl hone hT hlt hj HE hx hy hL hsz hdr
      go_wp2_with ((with_reducible refine wpList_load_mid (op := ⟨some 18, _, _, _, _, _⟩) rfl 24 (.tmp 2) rfl w.heap.size 0 ?_ L _ HQ1.out Tryz.underlying24 rfl HJ.out ?_); rfl; refine wpList_store_mid rfl 24 (.tmp 4) (.tmp 18) rfl (w.heap.size + 1 + 1) 0 L.toArray rfl rfl HT.out HI.out (all_oneCell_toArray HC.out) ?_)
      refine bodyPost_ret (v := .agg L.toArray) ?_ rfl ?_
      · exact results_cell1 (p := 4) (ty := 24) rfl _ _ (w.heap.size + 1 + 1) 0 L _ rfl (by simpa using HS.out) Tryz.underlying24 rfl HJ.out
      · exact ⟨by rw [← HL.out], ⟨by simpa using below_cells (by omega) L 0 wr HB.out, by rw [drawn_setCells]; exact HD.out⟩⟩

theorem mcmp_g (t x y : List UInt8) (ht : t.length = 20) (hx : x.length = 20) (hy : y.length = 20) (w : World) :
    Calls Tryz.prog 117 #[.agg (bcells t).toArray, .agg (bcells x).toArray, .agg (bcells y).toArray] w fun e w' => e = .returned (.int .i64 (cmpL (xorL t x) (xorL t y))) ∧ Grows w w' := by
  have x1 := fun W => xor_g t x ht hx W
  have x2 := fun W => xor_g t y ht hy W
  have c1 := fun W => cmp_g (xorL t x) (xorL t y) (xor_len ht hx) (xor_len ht hy) W
  obtain ⟨A, hA⟩ : ∃ A, A = (bcells t).toArray := ⟨_, rfl⟩
  obtain ⟨B, hB⟩ : ∃ B, B = (bcells x).toArray := ⟨_, rfl⟩
  obtain ⟨C, hC⟩ : ∃ C, C = (bcells y).toArray := ⟨_, rfl⟩
  obtain ⟨W0, hW0⟩ : ∃ W0, W0 = ((w.alloc (.cells A 24)).alloc (.cells B 24)).alloc (.cells C 24) := ⟨_, rfl⟩
  obtain ⟨h1, h2, h3, _⟩ := heap3 w (.cells A 24) (.cells B 24) (.cells C 24)
  have h4 := ((Grows.alloc w (.cells A 24)).trans (Grows.alloc _ (.cells B 24))).trans (Grows.alloc _ (.cells C 24))
  rw [← hW0] at h1 h2 h3 h4
  have hs0 : W0.heap.size = w.heap.size + 3 := by rw [hW0]; simp
  have HL1 : Hid (∀ n : KeptD W0, (loadVar 24 ⟨w.heap.size, 0, none⟩).run Tryz.prog n.val = .ok (.agg A) n.val) := Lib.hid (fun n => by
    rw [hA] at h1 ⊢
    exact load26 ht (keptD_row h1 (by omega) n))
  have HL2 : Hid (∀ n : KeptD W0, (loadVar 24 ⟨w.heap.size + 1, 0, none⟩).run Tryz.prog n.val = .ok (.agg B) n.val) := Lib.hid (fun n => by
    rw [hB] at h2 ⊢
    exact load26 hx (keptD_row h2 (by omega) n))
  have HL3 : Hid (∀ n : KeptD W0, (loadVar 24 ⟨w.heap.size + 1 + 1, 0, none⟩).run Tryz.prog n.val = .ok (.agg C) n.val) := Lib.hid (fun n => by
    rw [hC] at h3 ⊢
    exact load26 hy (keptD_row h3 (by omega) n))
  simp only [← hA, ← hB, ← hC] at x1 x2 ⊢
  generalize (bcells (xorL t x)).toArray = X1 at x1 c1
  generalize (bcells (xorL t y)).toArray = X2 at x2 c1
  generalize cmpL (xorL t x) (xorL t y) = k at c1 ⊢
  have X1' := Lib.hid x1
  have X2' := Lib.hid x2
  have C1 := Lib.hid c1
  have HW := Lib.hid hW0
  have HBL := Lib.hid h4
  clear x1 x2 c1 h1 h2 h3 h4 hW0 hs0 hA hB hC ht hx hy
  go_enter Tryz.func117, Tryz.ntmps117
  go_upto_region 1 with fail
  rw [← HW.out]
  refine wp_region_keptD W0 (Grows.refl _) (by kernel_rfl) (by kernel_rfl) ?_
  repeat (first
    | (go_big_quiet_want; (with_reducible refine quiet_loadD 24 (.tmp 3) rfl _ ?_ _ HL1.out ?_); rfl; simp only [Act.put, List.setIfInBounds_toArray, List.set_cons_zero, List.set_cons_succ]; go_big_quiet_on)
    | (go_big_quiet_want; (with_reducible refine quiet_loadD 24 (.tmp 4) rfl _ ?_ _ HL2.out ?_); rfl; simp only [Act.put, List.setIfInBounds_toArray, List.set_cons_zero, List.set_cons_succ]; go_big_quiet_on)
    | (go_big_quiet_want; (with_reducible refine quiet_loadD 24 (.tmp 5) rfl _ ?_ _ HL3.out ?_); rfl; simp only [Act.put, List.setIfInBounds_toArray, List.set_cons_zero, List.set_cons_succ]; go_big_quiet_on)
    | go_big_quiet_step (first
      | (go_at_call 129; with_reducible exact keptD_of X1'.out _)
      | (go_at_call 129; with_reducible exact keptD_of X2'.out _)
      | (go_at_call 128; with_reducible exact keptD_of C1.out _)))
  refine wpQuiet_nil ?_
  rintro _ ⟨⟨wk, hwk⟩, rfl⟩
  go_wp2
  go_ret
  exact ⟨rfl, HBL.out.trans hwk⟩
end Go.Proofs.YtehgpnnfjgmiiaaGreat
end
section
namespace Go.Proofs.YtehgpnnfjgmiiaaGreat
set_option maxRecDepth 100000
set_option maxHeartbeats 1000000
open Go.RowKit Go.Lib Go.Great

theorem kept_range {g off : Nat} {W : World} {x : IDv} (hg : g < W.heap.size) (h : W.rangeAt g off (encID x)) : ∀ n : Kept W.heap.size W, (loadVar 87 ⟨g, off, none⟩).run Tryz.prog n.val = .ok (.agg (encID x).toArray) n.val :=
  fun n => range_load42 (range_keep h (n.property.block g hg))

end Go.Proofs.YtehgpnnfjgmiiaaGreat
end
section
namespace Go.Proofs.YtehgpnnfjgmiiaaGreat
set_option maxRecDepth 100000
open Go.Shelf Go.Lib Go.Sort

theorem xorL_self : ∀ (t x : List UInt8), t.length = x.length → xorL t (xorL t x) = x
  | [], [], _ => rfl
  | a :: t, b :: x, h => by
    have := xorL_self t x (by simpa using h)
    simp only [xorL, List.zipWith_cons_cons] at this ⊢
    rw [this, ← UInt8.xor_assoc, UInt8.xor_self, UInt8.zero_xor]
def xorI (t x : IDv) : IDv := ⟨xorL t.val x.val, xor_len t.property x.property⟩
theorem xorI_self (t x : IDv) : xorI t (xorI t x) = x := Subtype.ext (xorL_self _ _ (t.property.trans x.property.symm))
theorem xorI_inj (t x y : IDv) (h : xorI t x = xorI t y) : x = y := by rw [← xorI_self t x, h, xorI_self]
/-- An id's distance, as a number. -/
def kM (t x : IDv) : Nat := nID (xorI t x)
theorem kM_inj (t x y : IDv) (h : kM t x = kM t y) : x = y := xorI_inj t x y (nID_inj _ _ h)
def cfM (t x y : IDv) : Int := cmpL (xorL t.val x.val) (xorL t.val y.val)
theorem ltM (t x y : IDv) : ltOf (cfM t) x y = decide (kM t x < kM t y) := ltID (xorI t x) (xorI t y)
section
variable {key : IDv → Nat}
end
end Go.Proofs.YtehgpnnfjgmiiaaGreat
end
section
namespace Go.Proofs.YtehgpnnfjgmiiaaGreat
set_option maxRecDepth 100000
set_option maxHeartbeats 1000000
open Go.RowKit Go.Lib Go.Great

theorem adB_length (h p : Nat) : (adB h p).length = 6 := by unfold adB; rw [List.length_append, putB_length, putB_length]
end Go.Proofs.YtehgpnnfjgmiiaaGreat
end
section
namespace Go.Proofs.YtehgpnnfjgmiiaaGreat
set_option maxRecDepth 100000
open Go.RowKit Go.Lib Go.Great

/-- What Read tells: a good address with just those bytes, or none. -/
theorem readV_is (xs : List UInt8) : (∃ h p : Nat, h < 4294967296 ∧ p < 65536 ∧ h ≠ 0 ∧ p ≠ 0 ∧ adB h p = xs ∧ readV xs = .tuple #[.agg (adr h p), .int .i64 0]) ∨ readV xs = .tuple #[.agg (adr 0 0), .int .i64 10] := by
  by_cases hx : xs.length = 6 ∧ getN (xs.take 4) ≠ 0 ∧ getN ((xs.drop 4).take 2) ≠ 0
  · refine .inl ⟨getN (xs.take 4), getN ((xs.drop 4).take 2), ?_, ?_, hx.2.1, hx.2.2, ?_, by unfold readV; rw [if_pos hx]⟩
    · have := getN_lt (xs.take 4)
      rw [List.length_take, hx.1] at this
      simpa using this
    · have := getN_lt ((xs.drop 4).take 2)
      rw [List.length_take, List.length_drop, hx.1] at this
      simpa using this
    · unfold adB
      rw [putB_getN 4 _ (by rw [List.length_take, hx.1]; rfl), putB_getN 2 _ (by rw [List.length_take, List.length_drop, hx.1]; rfl), List.take_of_length_le (l := xs.drop 4) (by rw [List.length_drop, hx.1]; decide), List.take_append_drop]
  · exact .inr (by unfold readV; rw [if_neg hx])
end Go.Proofs.YtehgpnnfjgmiiaaGreat
end
section
namespace Go.Proofs.YtehgpnnfjgmiiaaGreat
set_option maxRecDepth 100000

/-- A contact: an id's bytes, a host, a port. -/
abbrev Ct : Type := List UInt8 × Nat × Nat
structure CtOk (c : Ct) : Prop where
  id : c.1.length = 20
  hh : c.2.1 < 4294967296
  hp : c.2.2 < 65536
def ctB (c : Ct) : List UInt8 := c.1 ++ adB c.2.1 c.2.2
def ctGood (c : Ct) : Bool := goodB c.2.1 c.2.2
theorem ctB_length {c : Ct} (h : c.1.length = 20) : (ctB c).length = 26 := by unfold ctB; rw [List.length_append, adB_length, h]

/-- The contact of 26 bytes, if they are one. -/
def rdC (b : List UInt8) : Option Ct :=
  if b.length = 26 ∧ getN ((b.drop 20).take 4) ≠ 0 ∧ getN (((b.drop 20).drop 4).take 2) ≠ 0 then some (b.take 20, getN ((b.drop 20).take 4), getN (((b.drop 20).drop 4).take 2)) else none

theorem rdC_some {b : List UInt8} {c : Ct} (h : rdC b = some c) : CtOk c ∧ ctGood c = true ∧ ctB c = b := by
  unfold rdC at h
  split at h
  · rename_i hx
    obtain ⟨h26, hx1, hx2⟩ := hx
    cases h
    have h6 : (b.drop 20).length = 6 := by rw [List.length_drop]; omega
    have hv : readV (b.drop 20) = .tuple #[.agg (adr (getN ((b.drop 20).take 4)) (getN (((b.drop 20).drop 4).take 2))), .int .i64 0] := by unfold readV; rw [if_pos ⟨h6, hx1, hx2⟩]
    rcases readV_is (b.drop 20) with ⟨h', p', a1, a2, a3, a4, a5, a6⟩ | a
    · rw [hv] at a6
      unfold adr at a6
      simp at a6
      have q1 : getN ((b.drop 20).take 4) = h' := by omega
      have q2 : getN (((b.drop 20).drop 4).take 2) = p' := by
        rw [List.drop_drop]
        have := a6.2
        show getN ((b.drop 24).take 2) = p'
        omega
      rw [q1, q2]
      refine ⟨⟨by rw [List.length_take]; omega, a1, a2⟩, by unfold ctGood goodB; simp [a3, a4], ?_⟩
      unfold ctB
      rw [a5, List.take_append_drop]
    · rw [hv] at a
      simp at a
  · cases h

def flatC (l : List Ct) : List UInt8 := l.flatMap ctB

/-- A good list: good contacts, each id once, at most 64. -/
def goodC (l : List Ct) : Bool := l.all ctGood && decide ((l.map (·.1)).Nodup) && decide (l.length ≤ 64)
/-- Its bytes. -/
def listC (l : List Ct) : List UInt8 := UInt8.ofNat l.length :: flatC l
theorem goodC_len {l : List Ct} (h : goodC l = true) : l.length ≤ 64 := by unfold goodC at h; simp at h; exact h.2
theorem goodC_all {l : List Ct} (h : goodC l = true) : ∀ c ∈ l, ctGood c = true := by
  unfold goodC at h
  simp only [Bool.and_eq_true, List.all_eq_true] at h
  exact h.1.1
/-- The place of the first contact with an id. -/
def findC (l : List Ct) (id : List UInt8) : Option Nat := l.findIdx? (fun c => c.1 == id)
theorem findC_some {l : List Ct} {id : List UInt8} {i : Nat} : findC l id = some i ↔ ∃ h : i < l.length, (l[i]).1 = id ∧ ∀ j (hj : j < i), (l[j]'(Nat.lt_trans hj h)).1 ≠ id := by
  unfold findC
  rw [List.findIdx?_eq_some_iff_getElem]
  constructor
  · rintro ⟨h, a, b⟩
    exact ⟨h, by simpa using a, fun j hj => by simpa using b j hj⟩
  · rintro ⟨h, a, b⟩
    exact ⟨h, by simpa using a, fun j hj => by simpa using b j hj⟩
/-- Each contact is the first with its id just if no id stands twice. -/
theorem find_nodup (l : List Ct) : (∀ i (h : i < l.length), findC l (l[i]).1 = some i) ↔ (l.map (·.1)).Nodup := by
  rw [List.nodup_iff_pairwise_ne, List.pairwise_map, List.pairwise_iff_getElem]
  constructor
  · intro h i j hi hj hij e
    have a := h i hi
    have b := h j hj
    rw [e, b] at a
    cases a
    exact Nat.lt_irrefl _ hij
  · intro h i hi
    exact findC_some.2 ⟨hi, rfl, fun j hj => h j i (Nat.lt_trans hj hi) hi hj⟩
end Go.Proofs.YtehgpnnfjgmiiaaGreat
end
