/- Contracts of Xor of package ident and of Cmp of package metric that say how memory grows: what stood stays, and draws only add up. Conditions: an id has 20 bytes. Contract of the reference's Sort of ids. Conditions: fewer than 20000 ids. Ids by their distance to one: plain lemmas on lists. No condition. Contract of the reference's Bytes of layer addr. Conditions: a host fits 32 bits, a port 16. Plain facts of addresses for the three statements of layer addr. Conditions: host below 2^32, port below 2^16. Plain facts on the bytes of contacts and of lists of contacts, for layer 8. No program, no condition. Plain facts on lists that are sorted by a key, the first of each key kept, for layer 8. No program, no condition. -/
import Derived.Test.YtehgpnnfjgmiiaaGreatYOja
import Derived.Test.YtehgpnnfjgmiiaaGreatYOcb
import Derived.Test.YtehgpnnfjgmiiaaGreatYOga
import Derived.Test.YtehgpnnfjgmiiaaGreatYRIis
import Derived.Test.YtehgpnnfjgmiiaaGreatYRERefc
import Derived.Test.YtehgpnnfjgmiiaaGreatYRIip
import Derived.Test.YtehgpnnfjgmiiaaGreatYREOcta
import Derived.Test.YtehgpnnfjgmiiaaGreatYNMGra
import Derived.LoopTactic
import Derived.Lib.ConvBytes
import Derived.WalkKit
import Derived.Deep.AppendSrc
import Derived.Laws.BytesString
import Derived.Laws.CopyOwn
import Derived.Deep.AppendLies
import Derived.Deep.Draws
import Derived.WalkSpells
import Derived.Test.YtehgpnnfjgmiiaaGreatRows
import Derived.WalkLawsBesides
import Derived.Lib.Hide
import Derived.Outline
import Derived.Laws.BitsAllLaws
import Derived.Laws.BitsLemmas
import Derived.Laws.Bits64
import Derived.Deep.MidRow
import Derived.BigQuiet
import Derived.RegionTactic
import Derived.RegionCalls
import Derived.Deep.RegionHeld3
import Derived.Deep.QuietTactic
import Derived.Deep.DeepCutAuto
import Derived.Great.BuildSlice
import Derived.Lib.SlBytesConst
import Derived.Stop.BytesEq
import Derived.StillTailTactics
import Derived.Sort.Grow
import Derived.Shelf.SlicesE.Clone
import Derived.Lib.OwnBridge
import Derived.Lib.SliceRun
import Derived.Below
import Derived.ProofKit
import Derived.OpenShut
import Derived.Laws.Tables
section
namespace Go.Proofs.YtehgpnnfjgmiiaaGreat
set_option maxRecDepth 100000
set_option maxHeartbeats 1000000
open Go.RowKit

theorem drawn_setCells (w : World) (g o : Nat) (vs : List Value) : (w.setCells g o vs).drawn = w.drawn := by
  induction vs generalizing w o with
  | nil => rfl
  | cons v vs ih => simp [World.setCells, ih]
def XorRelG (w : World) (xs ys : List UInt8) (i : Value) (wr : World) : Prop := XorRel w xs ys i wr ∧ w.drawn ≤ wr.drawn
theorem xor_g (xs ys : List UInt8) (hx : xs.length = 20) (hy : ys.length = 20) (w : World) :
    Calls Tryz.prog 129 #[.agg (bcells xs).toArray, .agg (bcells ys).toArray] w fun e w' => e = .returned (.agg (bcells (xorL xs ys)).toArray) ∧ Grows w w' := by
  obtain ⟨X, hX⟩ : ∃ X, X = (bcells xs).toArray := ⟨_, rfl⟩
  obtain ⟨Y, hY⟩ : ∃ Y, Y = (bcells ys).toArray := ⟨_, rfl⟩
  obtain ⟨Z, hZ⟩ : ∃ Z, Z = (bcells (List.replicate 20 0)).toArray := ⟨_, rfl⟩
  have hz := fun W => zero26 W
  rw [← hZ] at hz
  rw [← hX, ← hY]
  have HE := Lib.hid (And.intro hX (And.intro hY (And.intro hZ (And.intro hx hy))))
  clear hX hY hZ hx hy
  go_enter Tryz.func129, Tryz.ntmps129
  go_wp2
  have R0 : XorRelG w xs ys (.int .i64 0) (((w.alloc (.cells X 24)).alloc (.cells Y 24)).alloc (.cells Z 24)) := by
    obtain ⟨h1, h2, h3, h4⟩ := heap3 w (.cells X 24) (.cells Y 24) (.cells Z 24)
    obtain ⟨e1, e2, e3, e4, e5⟩ := HE.out
    refine ⟨⟨0, by omega, rfl, ?_, ?_, ?_, h4⟩, (((Grows.alloc w _).trans (Grows.alloc _ _)).trans (Grows.alloc _ _)).2⟩
    · rw [h1, mixL_zero _ _ e4, e1]
    · rw [h2, e2]
    · rw [h3, e3]
  have HR0 := Lib.hid R0
  clear R0 hz
  go_loopw [6] (XorRelG w xs ys) (fun i _ => 20 - (intOf i).toNat)
  case atStart => exact HR0.out
  case round =>
    obtain ⟨⟨j, hj, rfl, hq, hr, ho, hb⟩, hdr⟩ := hrel
    clear HR0
    obtain ⟨_, _, _, hx, hy⟩ := HE.out
    by_cases hlt : j < 20
    · have c1 : wr.cell? ⟨w.heap.size, j, none⟩ = some (.int .u8 ((xs.getD j 0).toNat : Int)) := by
        rw [cell_of_row wr _ j _ 24 (0, 0) hq, List.getElem?_toArray, mixL_get xs ys j hlt]
      have c2 : wr.cell? ⟨w.heap.size + 1, j, none⟩ = some (.int .u8 ((ys.getD j 0).toNat : Int)) := by
        rw [cell_of_row wr _ j _ 24 (0, 0) hr, List.getElem?_toArray, bcells_get ys j (by omega), List.getD_eq_getElem?_getD, List.getElem?_eq_getElem (by omega)]
        rfl
      have fr := frozen_of_row wr w.heap.size j _ 24 hq
      have hbx : bits .xor .u8 ((xs.getD j 0).toNat : Int) ((ys.getD j 0).toNat : Int) = ((xs.getD j 0 ^^^ ys.getD j 0).toNat : Int) := by
        rw [u8_xor_nat _ _ (UInt8.toNat_lt _) (UInt8.toNat_lt _), UInt8.toNat_xor]
      have R : ∀ w', (wr.setCell ⟨w.heap.size, j, none⟩ (.int .u8 ((xs.getD j 0 ^^^ ys.getD j 0).toNat : Int))).heap = w'.heap → wr.drawn ≤ w'.drawn → Below (wr.heap.size) (wr.setCell ⟨w.heap.size, j, none⟩ (.int .u8 ((xs.getD j 0 ^^^ ys.getD j 0).toNat : Int))) w' → XorRelG w xs ys (.int .i64 ((j : Int) + 1)) w' := by
        intro w' hs hdw hbl
        have s1 := heap_setCell_same wr w.heap.size j _ 24 (.int .u8 ((xs.getD j 0 ^^^ ys.getD j 0).toNat : Int)) hq
        rw [mixL_succ xs ys j hlt] at s1
        have l2 : w.heap.size + 1 + 1 < wr.heap.size := (Array.getElem?_eq_some_iff.1 ho).1
        refine ⟨⟨j + 1, by omega, by go_num, (hbl.block _ (by omega)).trans s1, ?_, ?_, ?_⟩, Nat.le_trans hdr hdw⟩
        · rw [hbl.block _ (by omega), Below.heap_setCell _ _ _ _ (by simp)]
          exact hr
        · rw [hbl.block _ (by omega), Below.heap_setCell _ _ _ _ (by simp; omega)]
          exact ho
        · exact (hb.setCell (p := ⟨w.heap.size, j, none⟩) (by simp) _).trans (hbl.mono (by omega))
      have HR := Lib.hid R
      generalize (xs.getD j 0 ^^^ ys.getD j 0).toNat = c at hbx HR
      generalize (xs.getD j 0).toNat = a at c1 hbx
      generalize (ys.getD j 0).toNat = b at c2 hbx
      clear hq hr ho hb R HE hx hy hdr
      go_wp2
      go_region
      go_wp2
      go_roundw
      case rel => exact HR.out _ rfl (by simp [World.setCell, World.drewN]) (below_drewN (Below.refl _ _) _)
      case measure => simp [intOf]; omega
    · obtain rfl : j = 20 := by omega
      rw [mixL_full xs ys hx hy] at hq
      have hl : (bcells (xorL xs ys)).length = 20 := by rw [bcells_length, xorL_length (hx.trans hy.symm), hx]
      have hone := bcells_one (xorL xs ys)
      obtain ⟨L, hL⟩ : ∃ L, L = bcells (xorL xs ys) := ⟨_, rfl⟩
      rw [← hL] at hq hl hone
      have HL := Lib.hid hL
      have hsz : L.toArray.size = 20 := (List.size_toArray).trans hl
      have hT := row_there ho
      rw [bcells_length, List.length_replicate] at hT
      have HC := Lib.hid hone
      have HB := Lib.hid hb
      have HD : Hid (w.drawn ≤ wr.drawn) := Lib.hid hdr
      have HS := Lib.hid (World.rangeAt_setCells_same wr (w.heap.size + 1 + 1) 0 L (by rw [hl]; exact hT))
      have HQ1 := Lib.hid (row_range hq)
      have HT : Hid (wr.there (w.heap.size + 1 + 1) 0 L.toArray.size) := Lib.hid (by rw [hsz]; exact hT)
      have HI : Hid ((Tryz.prog.info? 24).map (·.size) = some L.toArray.size) := Lib.hid (by rw [hsz]; exact size26)
      have HJ : Hid ((Tryz.prog.info? 24).map (·.size) = some L.length) := Lib.hid (by rw [hl]; exact size26)
      clear hq hr ho hb hl hone hT hlt hj HE hx hy hL hsz hdr
      go_wp2_with ((with_reducible refine wpList_load_mid (op := ⟨some 18, _, _, _, _, _⟩) rfl 24 (.tmp 2) rfl w.heap.size 0 ?_ L _ HQ1.out Tryz.underlying24 rfl HJ.out ?_); rfl; refine wpList_store_mid rfl 24 (.tmp 4) (.tmp 18) rfl (w.heap.size + 1 + 1) 0 L.toArray rfl rfl HT.out HI.out (all_oneCell_toArray HC.out) ?_)
      refine bodyPost_ret (v := .agg L.toArray) ?_ rfl ?_
      · exact results_cell1 (p := 4) (ty := 24) rfl _ _ (w.heap.size + 1 + 1) 0 L _ rfl (by simpa using HS.out) Tryz.underlying24 rfl HJ.out
      · exact ⟨by rw [← HL.out], ⟨by simpa using below_cells (by omega) L 0 wr HB.out, by rw [drawn_setCells]; exact HD.out⟩⟩

theorem mcmp_g (t x y : List UInt8) (ht : t.length = 20) (hx : x.length = 20) (hy : y.length = 20) (w : World) :
    Calls Tryz.prog 117 #[.agg (bcells t).toArray, .agg (bcells x).toArray, .agg (bcells y).toArray] w fun e w' => e = .returned (.int .i64 (cmpL (xorL t x) (xorL t y))) ∧ Grows w w' := by
  have x1 := fun W => xor_g t x ht hx W
  have x2 := fun W => xor_g t y ht hy W
  have c1 := fun W => cmp_g (xorL t x) (xorL t y) (xor_len ht hx) (xor_len ht hy) W
  obtain ⟨A, hA⟩ : ∃ A, A = (bcells t).toArray := ⟨_, rfl⟩
  obtain ⟨B, hB⟩ : ∃ B, B = (bcells x).toArray := ⟨_, rfl⟩
  obtain ⟨C, hC⟩ : ∃ C, C = (bcells y).toArray := ⟨_, rfl⟩
  obtain ⟨W0, hW0⟩ : ∃ W0, W0 = ((w.alloc (.cells A 24)).alloc (.cells B 24)).alloc (.cells C 24) := ⟨_, rfl⟩
  obtain ⟨h1, h2, h3, _⟩ := heap3 w (.cells A 24) (.cells B 24) (.cells C 24)
  have h4 := ((Grows.alloc w (.cells A 24)).trans (Grows.alloc _ (.cells B 24))).trans (Grows.alloc _ (.cells C 24))
  rw [← hW0] at h1 h2 h3 h4
  have hs0 : W0.heap.size = w.heap.size + 3 := by rw [hW0]; simp
  have HL1 : Hid (∀ n : KeptD W0, (loadVar 24 ⟨w.heap.size, 0, none⟩).run Tryz.prog n.val = .ok (.agg A) n.val) := Lib.hid (fun n => by
    rw [hA] at h1 ⊢
    exact load26 ht (keptD_row h1 (by omega) n))
  have HL2 : Hid (∀ n : KeptD W0, (loadVar 24 ⟨w.heap.size + 1, 0, none⟩).run Tryz.prog n.val = .ok (.agg B) n.val) := Lib.hid (fun n => by
    rw [hB] at h2 ⊢
    exact load26 hx (keptD_row h2 (by omega) n))
  have HL3 : Hid (∀ n : KeptD W0, (loadVar 24 ⟨w.heap.size + 1 + 1, 0, none⟩).run Tryz.prog n.val = .ok (.agg C) n.val) := Lib.hid (fun n => by
    rw [hC] at h3 ⊢
    exact load26 hy (keptD_row h3 (by omega) n))
  simp only [← hA, ← hB, ← hC] at x1 x2 ⊢
  generalize (bcells (xorL t x)).toArray = X1 at x1 c1
  generalize (bcells (xorL t y)).toArray = X2 at x2 c1
  generalize cmpL (xorL t x) (xorL t y) = k at c1 ⊢
  have X1' := Lib.hid x1
  have X2' := Lib.hid x2
  have C1 := Lib.hid c1
  have HW := Lib.hid hW0
  have HBL := Lib.hid h4
  clear x1 x2 c1 h1 h2 h3 h4 hW0 hs0 hA hB hC ht hx hy
  go_enter Tryz.func117, Tryz.ntmps117
  go_upto_region 1 with fail
  rw [← HW.out]
  refine wp_region_keptD W0 (Grows.refl _) (by kernel_rfl) (by kernel_rfl) ?_
  repeat (first
    | (go_big_quiet_want; (with_reducible refine quiet_loadD 24 (.tmp 3) rfl _ ?_ _ HL1.out ?_); rfl; simp only [Act.put, List.setIfInBounds_toArray, List.set_cons_zero, List.set_cons_succ]; go_big_quiet_on)
    | (go_big_quiet_want; (with_reducible refine quiet_loadD 24 (.tmp 4) rfl _ ?_ _ HL2.out ?_); rfl; simp only [Act.put, List.setIfInBounds_toArray, List.set_cons_zero, List.set_cons_succ]; go_big_quiet_on)
    | (go_big_quiet_want; (with_reducible refine quiet_loadD 24 (.tmp 5) rfl _ ?_ _ HL3.out ?_); rfl; simp only [Act.put, List.setIfInBounds_toArray, List.set_cons_zero, List.set_cons_succ]; go_big_quiet_on)
    | go_big_quiet_step (first
      | (go_at_call 129; with_reducible exact keptD_of X1'.out _)
      | (go_at_call 129; with_reducible exact keptD_of X2'.out _)
      | (go_at_call 128; with_reducible exact keptD_of C1.out _)))
  refine wpQuiet_nil ?_
  rintro _ ⟨⟨wk, hwk⟩, rfl⟩
  go_wp2
  go_ret
  exact ⟨rfl, HBL.out.trans hwk⟩
end Go.Proofs.YtehgpnnfjgmiiaaGreat
end
section
namespace Go.Proofs.YtehgpnnfjgmiiaaGreat
set_option maxRecDepth 100000
set_option maxHeartbeats 1000000
open Go.RowKit Go.Lib Go.Great

end Go.Proofs.YtehgpnnfjgmiiaaGreat
end
section
namespace Go.Proofs.YtehgpnnfjgmiiaaGreat
set_option maxRecDepth 100000
open Go.Shelf Go.Lib Go.Sort

theorem xorL_self : ∀ (t x : List UInt8), t.length = x.length → xorL t (xorL t x) = x
  | [], [], _ => rfl
  | a :: t, b :: x, h => by
    have := xorL_self t x (by simpa using h)
    simp only [xorL, List.zipWith_cons_cons] at this ⊢
    rw [this, ← UInt8.xor_assoc, UInt8.xor_self, UInt8.zero_xor]
def xorI (t x : IDv) : IDv := ⟨xorL t.val x.val, xor_len t.property x.property⟩
theorem xorI_self (t x : IDv) : xorI t (xorI t x) = x := Subtype.ext (xorL_self _ _ (t.property.trans x.property.symm))
theorem xorI_inj (t x y : IDv) (h : xorI t x = xorI t y) : x = y := by rw [← xorI_self t x, h, xorI_self]
/-- An id's distance, as a number. -/
def kM (t x : IDv) : Nat := nID (xorI t x)
theorem kM_inj (t x y : IDv) (h : kM t x = kM t y) : x = y := xorI_inj t x y (nID_inj _ _ h)
def cfM (t x y : IDv) : Int := cmpL (xorL t.val x.val) (xorL t.val y.val)
theorem ltM (t x y : IDv) : ltOf (cfM t) x y = decide (kM t x < kM t y) := ltID (xorI t x) (xorI t y)
section
variable {key : IDv → Nat}
end
end Go.Proofs.YtehgpnnfjgmiiaaGreat
end
section
namespace Go.Proofs.YtehgpnnfjgmiiaaGreat
set_option maxRecDepth 100000
set_option maxHeartbeats 1000000
open Go.RowKit Go.Lib Go.Great

theorem adB_length (h p : Nat) : (adB h p).length = 6 := by unfold adB; rw [List.length_append, putB_length, putB_length]
end Go.Proofs.YtehgpnnfjgmiiaaGreat
end
section
namespace Go.Proofs.YtehgpnnfjgmiiaaGreat
set_option maxRecDepth 100000
open Go.RowKit Go.Lib Go.Great

theorem adB_take (h p : Nat) (hh : h < 4294967296) : getN ((adB h p).take 4) = h := by
  unfold adB
  rw [List.take_append_of_le_length (by rw [putB_length]; exact Nat.le_refl _), putB_all, getN_putB]
  exact Nat.mod_eq_of_lt hh
theorem adB_drop (h p : Nat) (hp : p < 65536) : getN (((adB h p).drop 4).take 2) = p := by
  unfold adB
  rw [List.drop_append_of_le_length (by rw [putB_length]; exact Nat.le_refl _), List.drop_of_length_le (by rw [putB_length]; exact Nat.le_refl _), List.nil_append, putB_all, getN_putB]
  exact Nat.mod_eq_of_lt hp
end Go.Proofs.YtehgpnnfjgmiiaaGreat
end
section
namespace Go.Proofs.YtehgpnnfjgmiiaaGreat
set_option maxRecDepth 100000

/-- A contact: an id's bytes, a host, a port. -/
abbrev Ct : Type := List UInt8 × Nat × Nat
structure CtOk (c : Ct) : Prop where
  id : c.1.length = 20
  hh : c.2.1 < 4294967296
  hp : c.2.2 < 65536
def ctB (c : Ct) : List UInt8 := c.1 ++ adB c.2.1 c.2.2
def ctGood (c : Ct) : Bool := goodB c.2.1 c.2.2
theorem ctB_length {c : Ct} (h : c.1.length = 20) : (ctB c).length = 26 := by unfold ctB; rw [List.length_append, adB_length, h]

/-- The contact of 26 bytes, if they are one. -/
def rdC (b : List UInt8) : Option Ct :=
  if b.length = 26 ∧ getN ((b.drop 20).take 4) ≠ 0 ∧ getN (((b.drop 20).drop 4).take 2) ≠ 0 then some (b.take 20, getN ((b.drop 20).take 4), getN (((b.drop 20).drop 4).take 2)) else none

theorem rdC_ctB {c : Ct} (h : CtOk c) (hg : ctGood c = true) : rdC (ctB c) = some c := by
  have hg' : c.2.1 ≠ 0 ∧ c.2.2 ≠ 0 := by unfold ctGood goodB at hg; simpa using hg
  have e1 : (ctB c).take 20 = c.1 := by unfold ctB; rw [List.take_append_of_le_length (by rw [h.id]; exact Nat.le_refl _), List.take_of_length_le (by rw [h.id]; exact Nat.le_refl _)]
  have e2 : (ctB c).drop 20 = adB c.2.1 c.2.2 := by unfold ctB; rw [List.drop_append_of_le_length (by rw [h.id]; exact Nat.le_refl _), List.drop_of_length_le (by rw [h.id]; exact Nat.le_refl _), List.nil_append]
  unfold rdC
  rw [e1, e2, adB_take _ _ h.hh, adB_drop _ _ h.hp, if_pos ⟨ctB_length h.id, hg'.1, hg'.2⟩]
def flatC (l : List Ct) : List UInt8 := l.flatMap ctB

/-- A good list: good contacts, each id once, at most 64. -/
def goodC (l : List Ct) : Bool := l.all ctGood && decide ((l.map (·.1)).Nodup) && decide (l.length ≤ 64)
/-- Its bytes. -/
def listC (l : List Ct) : List UInt8 := UInt8.ofNat l.length :: flatC l
theorem goodC_len {l : List Ct} (h : goodC l = true) : l.length ≤ 64 := by unfold goodC at h; simp at h; exact h.2
theorem goodC_all {l : List Ct} (h : goodC l = true) : ∀ c ∈ l, ctGood c = true := by
  unfold goodC at h
  simp only [Bool.and_eq_true, List.all_eq_true] at h
  exact h.1.1
/-- The place of the first contact with an id. -/
def findC (l : List Ct) (id : List UInt8) : Option Nat := l.findIdx? (fun c => c.1 == id)
end Go.Proofs.YtehgpnnfjgmiiaaGreat
end
section
namespace Go.Proofs.YtehgpnnfjgmiiaaGreat
set_option maxRecDepth 100000

/-- Two lists that rise in the key and have the same members are the same. -/
theorem rising_ext {α : Type} (key : α → Nat) : ∀ (a b : List α), a.Pairwise (key · < key ·) → b.Pairwise (key · < key ·) → (∀ x, x ∈ a ↔ x ∈ b) → a = b := by
  intro a
  induction a with
  | nil =>
    intro b _ _ h
    cases b with
    | nil => rfl
    | cons y b => exact absurd ((h y).2 List.mem_cons_self) (by simp)
  | cons x a ih =>
    intro b ha hb h
    cases b with
    | nil => exact absurd ((h x).1 List.mem_cons_self) (by simp)
    | cons y b =>
      rw [List.pairwise_cons] at ha hb
      have hxy : x = y := by
        rcases List.mem_cons.1 ((h x).1 List.mem_cons_self) with e | hx
        · exact e
        · rcases List.mem_cons.1 ((h y).2 List.mem_cons_self) with e | hy
          · exact e.symm
          · have h1 := hb.1 x hx
            have h2 := ha.1 y hy
            omega
      subst hxy
      rw [ih b ha.2 hb.2 (fun z => ?_)]
      constructor
      · intro hz
        rcases List.mem_cons.1 ((h z).1 (List.mem_cons_of_mem _ hz)) with e | hz'
        · subst e
          have := ha.1 z hz
          omega
        · exact hz'
      · intro hz
        rcases List.mem_cons.1 ((h z).2 (List.mem_cons_of_mem _ hz)) with e | hz'
        · subst e
          have := hb.1 z hz
          omega
        · exact hz'

/-- x, put ahead of the first whose key is not less. -/
def insG {α : Type} (key : α → Nat) (x : α) : List α → List α
  | [] => [x]
  | a :: t => if key a < key x then a :: insG key x t else x :: a :: t

theorem insG_mem {α : Type} (key : α → Nat) (x : α) : ∀ (l : List α) (z : α), z ∈ insG key x l ↔ z = x ∨ z ∈ l := by
  intro l
  induction l with
  | nil => intro z; simp [insG]
  | cons a t ih =>
    intro z
    rw [insG]
    split
    · rw [List.mem_cons, ih, List.mem_cons]
      constructor
      · rintro (h | h | h)
        · exact .inr (.inl h)
        · exact .inl h
        · exact .inr (.inr h)
      · rintro (h | h | h)
        · exact .inr (.inl h)
        · exact .inl h
        · exact .inr (.inr h)
    · exact List.mem_cons

theorem insG_rising {α : Type} (key : α → Nat) (x : α) : ∀ (l : List α), l.Pairwise (key · < key ·) → (∀ a ∈ l, key a ≠ key x) → (insG key x l).Pairwise (key · < key ·) := by
  intro l
  induction l with
  | nil => intro _ _; exact List.pairwise_singleton _ _
  | cons a t ih =>
    intro h hx
    rw [List.pairwise_cons] at h
    have hx' := hx a List.mem_cons_self
    rw [insG]
    split
    · rename_i hlt
      refine List.pairwise_cons.2 ⟨fun z hz => ?_, ih h.2 (fun b hb => hx b (List.mem_cons_of_mem _ hb))⟩
      rcases (insG_mem key x t z).1 hz with e | hz'
      · subst e; exact hlt
      · exact h.1 z hz'
    · refine List.pairwise_cons.2 ⟨fun z hz => ?_, List.pairwise_cons.2 h⟩
      rcases List.mem_cons.1 hz with e | hz'
      · subst e; omega
      · have := h.1 z hz'; omega

/-- One after another put in, where its key is not there yet. -/
def srtG {α : Type} (key : α → Nat) : List α → List α → List α
  | acc, [] => acc
  | acc, x :: l => srtG key (if acc.any (fun d => key d == key x) then acc else insG key x acc) l

/-- The first of its key, each, and they rise. -/
structure SrtIs {α : Type} (key : α → Nat) (l s : List α) : Prop where
  rise : s.Pairwise (key · < key ·)
  mem : ∀ x, x ∈ s ↔ l.find? (fun d => key d == key x) = some x
theorem SrtIs.unique {α : Type} {key : α → Nat} {l s s' : List α} (h : SrtIs key l s) (h' : SrtIs key l s') : s = s' :=
  rising_ext key s s' h.rise h'.rise (fun x => (h.mem x).trans (h'.mem x).symm)
theorem SrtIs.nil {α : Type} (key : α → Nat) : SrtIs key [] [] := ⟨.nil, fun x => by simp⟩
theorem SrtIs.step {α : Type} {key : α → Nat} {p s : List α} (h : SrtIs key p s) (y : α) : SrtIs key (p ++ [y]) (if s.any (fun d => key d == key y) then s else insG key y s) := by
  have hfind : ∀ x, (p ++ [y]).find? (fun d => key d == key x) = (p.find? (fun d => key d == key x)).or (if key y = key x then some y else none) := fun x => by
    rw [List.find?_append]
    congr 1
    by_cases e : key y = key x
    · simp [e]
    · simp [e]
  split
  · rename_i hany
    obtain ⟨d, hd, hk⟩ := List.any_eq_true.1 hany
    have hk' : key d = key y := by simpa using hk
    refine ⟨h.rise, fun x => ?_⟩
    rw [hfind]
    by_cases e : key y = key x
    · have hp := (h.mem d).1 hd
      rw [hk', e] at hp
      rw [h.mem x, hp]
      simp
    · rw [if_neg e, h.mem x]; simp
  · rename_i hany
    have hno : ∀ a ∈ s, key a ≠ key y := fun a ha e => hany (List.any_eq_true.2 ⟨a, ha, by simp [e]⟩)
    refine ⟨insG_rising key y s h.rise hno, fun x => ?_⟩
    rw [insG_mem, hfind]
    by_cases e : key y = key x
    · have hnone : p.find? (fun d => key d == key x) = none := by
        cases hp : p.find? (fun d => key d == key x) with
        | none => rfl
        | some z =>
          have hz : key z = key x := by simpa using List.find?_some hp
          rw [← hz] at hp
          exact absurd (hz.trans e.symm) (hno z ((h.mem z).2 hp))
      rw [hnone, if_pos e]
      constructor
      · rintro (rfl | hx)
        · rfl
        · exact absurd e.symm (hno x hx)
      · intro hx
        simp at hx
        exact .inl hx.symm
    · rw [if_neg e, h.mem x]
      constructor
      · rintro (rfl | hx)
        · exact absurd rfl e
        · simp [hx]
      · intro hx
        exact .inr (by simpa using hx)
theorem srtG_is {α : Type} (key : α → Nat) : ∀ (l p s : List α), SrtIs key p s → SrtIs key (p ++ l) (srtG key s l) := by
  intro l
  induction l with
  | nil => intro p s h; rw [List.append_nil]; exact h
  | cons y l ih =>
    intro p s h
    have := ih (p ++ [y]) _ (h.step y)
    rw [List.append_assoc] at this
    exact this
theorem srt_is {α : Type} (key : α → Nat) (l : List α) : SrtIs key l (srtG key [] l) := srtG_is key l [] [] (.nil key)
end Go.Proofs.YtehgpnnfjgmiiaaGreat
end
