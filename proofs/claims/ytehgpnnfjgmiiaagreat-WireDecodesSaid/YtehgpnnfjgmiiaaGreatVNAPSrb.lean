/- Contract of the reference's laid of layer span. Conditions: an id has 20 bytes. Contracts of the reference's Good and Decimal of layer addr. No condition. Contract of the reference's Bytes of layer addr. Conditions: a host fits 32 bits, a port 16. Contract of the reference's Read of layer addr. Conditions: fewer than 1000000 bytes. Contracts of Good, Bytes and Cmp of package addr. Conditions: hosts fit 32 bits, ports 16. -/
import Derived.Test.YtehgpnnfjgmiiaaGreatVOja
import Derived.Test.YtehgpnnfjgmiiaaGreatVObd
import Derived.Test.YtehgpnnfjgmiiaaGreatVIiv
import Derived.Test.YtehgpnnfjgmiiaaGreatVObc
import Derived.Test.YtehgpnnfjgmiiaaGreatVROcc
import Derived.Test.YtehgpnnfjgmiiaaGreatVRERefb
import Derived.Test.YtehgpnnfjgmiiaaGreatVRKCdk
import Derived.Test.YtehgpnnfjgmiiaaGreatVRIip
import Derived.Test.YtehgpnnfjgmiiaaGreatVREOctc
import Derived.Test.YtehgpnnfjgmiiaaGreatVNCcc
import Derived.Deep.RegionHeld3
import Derived.Test.YtehgpnnfjgmiiaaGreatVNCsa
import Derived.WalkKit
import Derived.Deep.AppendSrc
import Derived.Laws.BytesString
import Derived.Laws.CopyOwn
import Derived.Deep.AppendLies
import Derived.Deep.Draws
import Derived.WalkSpells
import Derived.Test.YtehgpnnfjgmiiaaGreatRows
import Derived.WalkLawsBesides
import Derived.Lib.Hide
import Derived.Outline
import Derived.Laws.BitsAllLaws
import Derived.Laws.BitsLemmas
import Derived.Laws.Bits64
import Derived.LoopTactic
import Derived.Deep.MidRow
import Derived.BigQuiet
import Derived.RegionTactic
import Derived.RegionCalls
import Derived.Deep.QuietTactic
import Derived.Deep.DeepCutAuto
import Derived.Great.BuildSlice
import Derived.Lib.SlBytesConst
import Derived.Stop.BytesEq
import Derived.Lib.ConvBytes
import Derived.StillTailTactics
import Derived.Sort.Grow
import Derived.Shelf.SlicesE.Clone
import Derived.Lib.OwnBridge
import Derived.Lib.SliceRun
import Derived.Below
import Derived.ProofKit
import Derived.OpenShut
import Derived.Laws.Tables
import Derived.Shelf.LaysM
import Derived.Test.YtehgpnnfjgmiiaaGreatProg
section
namespace Go.Proofs.YtehgpnnfjgmiiaaGreat
set_option maxRecDepth 100000
set_option maxHeartbeats 1000000
open Go.RowKit Go.Lib Go.Great

theorem results_cell_tmpS {fn : Func} {p q : Tmp} {ty : TypeId} (h : fn.results = #[.cell p ty, .tmp q]) {P : Program} (tmps : Array Value) (w : World) (b o : Nat) (cs : List Value) (d : TypeDesc) (v : Value) (hp : tmps.getD p undef = .pointer (some ⟨b, o, none⟩)) (hq : tmps.getD q undef = v)
    (hc : w.rangeAt b o cs) (hu : P.underlying ty = some d) (hd : d.isRow = true) (hi : (P.info? ty).map (·.size) = some cs.length) : (results fn tmps).run P w = .ok (.tuple #[.agg cs.toArray, v]) w := by
  have h1 := run_loadVar_mid (P := P) w b o ty cs d hc hu hd hi
  have hp' : tmps[p]?.getD undef = .pointer (some ⟨b, o, none⟩) := by simpa using hp
  have hq' : tmps[q]?.getD undef = v := by simpa using hq
  simp [results, h, hp', hq', h1, asAddr]
end Go.Proofs.YtehgpnnfjgmiiaaGreat
end
section
namespace Go.Proofs.YtehgpnnfjgmiiaaGreat
set_option maxRecDepth 100000
set_option maxHeartbeats 1000000
open Go.RowKit Go.Lib Go.Great

/-- An address as a value. -/
def adr (h p : Nat) : Array Value := #[.int .u32 (h : Int), .int .u16 (p : Int)]
def goodB (h p : Nat) : Bool := decide (h ≠ 0 ∧ p ≠ 0)
theorem rgood_anyN (h p : Nat) (w : World) : Calls Tryz.prog 86 #[.agg (adr h p)] w fun e w' => e = .returned (.bool (goodB h p)) ∧ Below w.heap.size w w' := by
  unfold adr goodB
  have hb : Hid (Below w.heap.size w (w.alloc (.cells #[.int .u32 (h : Int), .int .u16 (p : Int)] 88))) := Lib.hid ((Below.refl _ w).alloc (Nat.le_refl _) _)
  by_cases h0 : h = 0
  · subst h0
    go_enter Tryz.func86, Tryz.ntmps86
    go_wp2
    go_ret
    exact ⟨by simp, hb.out⟩
  · have h0' : ¬ (h : Int) = 0 := by omega
    by_cases p0 : p = 0
    · subst p0
      go_enter Tryz.func86, Tryz.ntmps86
      go_wp2
      go_ret
      exact ⟨by simp, hb.out⟩
    · have p0' : ¬ (p : Int) = 0 := by omega
      go_enter Tryz.func86, Tryz.ntmps86
      go_wp2
      go_ret
      exact ⟨by simp [h0, p0], hb.out⟩
end Go.Proofs.YtehgpnnfjgmiiaaGreat
end
section
namespace Go.Proofs.YtehgpnnfjgmiiaaGreat
set_option maxRecDepth 100000
set_option maxHeartbeats 1000000
open Go.RowKit Go.Lib Go.Great

/-- v is a slice of these bytes. -/
def BsIs (xs : List UInt8) (v : Value) (W : World) : Prop := ∃ A c, v = .slice A xs.length c ∧ xs.length ≤ c ∧ BAt W W.heap.size A xs
theorem BsIs.keep {xs : List UInt8} (v : Value) (w w' : World) (hb : Below w.heap.size w w') (h : BsIs xs v w) : BsIs xs v w' := by
  obtain ⟨A, c, h1, h2, h3⟩ := h
  refine ⟨A, c, h1, h2, ?_⟩
  rcases h3 with rfl | ⟨g, off, rfl, hg, hc⟩
  · exact .inl rfl
  · exact .inr ⟨g, off, rfl, Nat.lt_of_lt_of_le hg hb.size, fun j hj => by rw [World.cell?_of_block (w := w) (w' := w') (a := ⟨g, off + j, none⟩) (hb.block g hg)]; exact hc j hj⟩
theorem BsIs.of_own {base n : Nat} {v : Value} {xs : List UInt8} {W : World} (h : W.ownsRow base 5 1 v n (bcells xs)) : BsIs xs v W := by
  have hl := h.1
  rw [bcells_length, Nat.mul_one] at hl
  rcases h.2 with ⟨rfl, h0⟩ | ⟨g, cap, cur, rfl, hb, hg, hc, _⟩
  · have hL : xs = [] := List.eq_nil_of_length_eq_zero (by omega)
    subst hL
    exact ⟨none, 0, rfl, Nat.le_refl _, .inl rfl⟩
  · refine ⟨_, cap, by rw [hl], by omega, .inr ⟨g, 0, rfl, (Array.getElem?_eq_some_iff.1 hg).1, fun j hj => ?_⟩⟩
    have := h.cells (g := g) rfl j (.int .u8 (xs[j].toNat : Int)) (by rw [bcells_get xs j hj])
    rwa [Addr.add_mid] at this
/-- The bytes of an address. -/
def adB (h p : Nat) : List UInt8 := putB h 4 ++ putB p 2
end Go.Proofs.YtehgpnnfjgmiiaaGreat
end
section
namespace Go.Proofs.YtehgpnnfjgmiiaaGreat
set_option maxRecDepth 100000
set_option maxHeartbeats 1000000
open Go.RowKit Go.Lib Go.Great

theorem size53 : (Tryz.prog.info? 88).map (·.size) = some 2 := by kernel_rfl
/-- What Read tells. -/
def readV (xs : List UInt8) : Value :=
  if xs.length = 6 ∧ getN (xs.take 4) ≠ 0 ∧ getN ((xs.drop 4).take 2) ≠ 0 then .tuple #[.agg (adr (getN (xs.take 4)) (getN ((xs.drop 4).take 2))), .int .i64 0] else .tuple #[.agg (adr 0 0), .int .i64 10]
theorem rread_len (A : Option Addr) (n c : Nat) (hn : n ≠ 6) (w : World) : Calls Tryz.prog 95 #[.slice A n c] w fun e w' => e = .returned (.tuple #[.agg (adr 0 0), .int .i64 10]) ∧ Below w.heap.size w w' := by
  have hn' : ¬ (n : Int) = 6 := by omega
  go_enter Tryz.func95, Tryz.ntmps95
  go_wp2
  refine bodyPost_ret (v := .tuple #[.agg (adr 0 0), .int .i64 10]) ?_ rfl ?_
  · exact results_cell_tmpS (p := 2) (ty := 88) (q := 3) rfl _ _ w.heap.size 0 [.int .u32 0, .int .u16 0] _ (.int .i64 10) rfl rfl (row_range (heap_alloc_new w _)) Tryz.underlying88 rfl size53
  · exact ⟨rfl, (Below.refl _ w).alloc (Nat.le_refl _) _⟩
theorem rread_six (A : Option Addr) (c : Nat) (xs : List UInt8) (hx : xs.length = 6) (w : World) (hA : BAt w w.heap.size A xs) : Calls Tryz.prog 95 #[.slice A 6 c] w fun e w' => e = .returned (readV xs) ∧ Below w.heap.size w w' := by
  have hb0 : Below w.heap.size w (w.alloc (.cells #[.int .u32 0, .int .u16 0] 88)) := (Below.refl _ w).alloc (Nat.le_refl _) _
  have hA0 : BAt (w.alloc (.cells #[.int .u32 0, .int .u16 0] 88)) (w.alloc (.cells #[.int .u32 0, .int .u16 0] 88)).heap.size A xs := by
    have hs : BsIs xs (.slice A xs.length xs.length) w := ⟨A, xs.length, rfl, Nat.le_refl _, hA⟩
    obtain ⟨A', c', e, _, h⟩ := BsIs.keep _ _ _ hb0 hs
    injection e with e1
    rw [e1]
    exact h
  have G1 := Lib.hid (rget_yes A c xs 0 4 _ hA0 (by omega) (by omega) (by omega) (by omega))
  have G2 := Lib.hid (rget_yes A c xs 4 2 _ hA0 (by omega) (by omega) (by omega) (by omega))
  rw [hx] at G1 G2
  have l1 : getN (xs.take 4) < 4294967296 := by
    have := getN_lt (xs.take 4)
    rw [List.length_take, hx] at this
    simpa using this
  have l2 : getN ((xs.drop 4).take 2) < 65536 := by
    have := getN_lt ((xs.drop 4).take 2)
    rw [List.length_take, List.length_drop, hx] at this
    simpa using this
  have HR : Hid (readV xs = if getN (xs.take 4) ≠ 0 ∧ getN ((xs.drop 4).take 2) ≠ 0 then .tuple #[.agg (adr (getN (xs.take 4)) (getN ((xs.drop 4).take 2))), .int .i64 0] else .tuple #[.agg (adr 0 0), .int .i64 10]) := Lib.hid (by unfold readV; simp [hx])
  rw [List.drop_zero] at G1
  change Hid (Calls Tryz.prog 73 #[.slice A 6 c, .int .i64 0, .int .i64 4] _ _) at G1
  change Hid (Calls Tryz.prog 73 #[.slice A 6 c, .int .i64 4, .int .i64 2] _ _) at G2
  rw [HR.out]
  generalize getN (xs.take 4) = h at G1 l1
  generalize getN ((xs.drop 4).take 2) = p at G2 l2
  have HG := Lib.hid (fun W => rgood_anyN h p W)
  have HB0 := Lib.hid hb0
  clear hb0 hA0 HR hx hA
  have hgd : goodB h p = decide (h ≠ 0 ∧ p ≠ 0) := rfl
  by_cases hg : h ≠ 0 ∧ p ≠ 0
  · rw [if_pos hg]
    rw [hgd, decide_eq_true hg] at HG
    clear hgd hg
    unfold adr at *
    go_enter Tryz.func95, Tryz.ntmps95
    go_upto_region 6 with (first
      | (go_at_call 73; (with_reducible refine G1.out.mono ?_); rintro e w1 ⟨rfl, rfl⟩)
      | (go_at_call 73; (with_reducible refine G2.out.mono ?_); rintro e w2 ⟨rfl, rfl⟩))
    obtain ⟨k1, k2, hb2⟩ := heap2 w (.cells #[.int .u32 0, .int .u16 0] 88) (.cells #[.int .u32 (h : Int), .int .u16 (p : Int)] 88)
    generalize (w.alloc (.cells #[.int .u32 0, .int .u16 0] 88)).alloc (.cells #[.int .u32 (h : Int), .int .u16 (p : Int)] 88) = W2 at k1 k2 hb2 ⊢
    have g1 := (Array.getElem?_eq_some_iff.1 k1).1
    have g2 := (Array.getElem?_eq_some_iff.1 k2).1
    have HL : Hid (∀ W, Below W2.heap.size W2 W → (loadVar 88 ⟨w.heap.size + 1, 0, none⟩).run Tryz.prog W = .ok (.agg #[.int .u32 (h : Int), .int .u16 (p : Int)]) W) := Lib.hid (fun W hW => run_loadVar_mid W (w.heap.size + 1) 0 88 [.int .u32 (h : Int), .int .u16 (p : Int)] _ (row_range (cs := [.int .u32 (h : Int), .int .u16 (p : Int)]) ((hW.block _ g2).trans k2)) Tryz.underlying88 rfl size53)
    have HL2 := Lib.hid (HL.out W2 (Below.refl _ _))
    have HR : Hid (∀ W, Below W2.heap.size W2 W → W.heap[w.heap.size]? = some (.cells #[.int .u32 0, .int .u16 0] 88 (0, 0))) := Lib.hid (fun W hW => (hW.block _ g1).trans k1)
    have HB2 := Lib.hid hb2
    clear k1 k2 hb2 g1 g2
    go_upto_region 8 with (first
      | ((with_reducible refine wpList_loadV (op := ⟨some 28, _, _, _, _, _⟩) rfl 88 (.tmp 8) rfl _ ?_ _ HL2.out ?_); rfl)
      | (go_at_call 86; (with_reducible refine (HG.out _).mono ?_); rintro e w3 ⟨rfl, hb3⟩))
    have HL3 := Lib.hid (HL.out w3 hb3)
    have r3 := HR.out w3 hb3
    have fr0 := frozen_of_row w3 w.heap.size 0 _ 88 r3
    have fr1 := frozen_of_row w3 w.heap.size 1 _ 88 r3
    have z0 : w3.cell? ⟨w.heap.size, 0, none⟩ = some (.int .u32 0) := by rw [cell_of_row _ _ 0 _ 88 (0, 0) r3]; rfl
    have z1 : w3.cell? ⟨w.heap.size, 1, none⟩ = some (.int .u16 0) := by rw [cell_of_row _ _ 1 _ 88 (0, 0) r3]; rfl
    have s1 := heap_setCell_same w3 w.heap.size 0 _ 88 (.int .u32 (h : Int)) r3
    have s2 := heap_setCell_same _ w.heap.size 1 _ 88 (.int .u16 (p : Int)) s1
    have HQ := Lib.hid (row_range (cs := [.int .u32 (h : Int), .int .u16 (p : Int)]) s2)
    have HF := Lib.hid (((HB2.out.trans (hb3.mono HB2.out.size)).setCell (p := ⟨w.heap.size, 0, none⟩) (by simp) (.int .u32 (h : Int))).setCell (p := ⟨w.heap.size, 1, none⟩) (by simp) (.int .u16 (p : Int)))
    clear hb3 r3 s1 s2
    go_wp2_with (((with_reducible refine wpList_loadV (op := ⟨some 32, _, _, _, _, _⟩) rfl 88 (.tmp 8) rfl _ ?_ _ HL3.out ?_); rfl))
    refine bodyPost_ret (v := .tuple #[.agg #[.int .u32 (h : Int), .int .u16 (p : Int)], .int .i64 0]) ?_ rfl ?_
    · exact results_cell_tmpS (p := 2) (ty := 88) (q := 3) rfl _ _ w.heap.size 0 [.int .u32 (h : Int), .int .u16 (p : Int)] _ (.int .i64 0) rfl rfl HQ.out Tryz.underlying88 rfl size53
    · exact ⟨rfl, HF.out⟩
  · rw [if_neg hg]
    rw [hgd, decide_eq_false hg] at HG
    clear hgd hg
    unfold adr at *
    go_enter Tryz.func95, Tryz.ntmps95
    go_upto_region 6 with (first
      | (go_at_call 73; (with_reducible refine G1.out.mono ?_); rintro e w1 ⟨rfl, rfl⟩)
      | (go_at_call 73; (with_reducible refine G2.out.mono ?_); rintro e w2 ⟨rfl, rfl⟩))
    obtain ⟨k1, k2, hb2⟩ := heap2 w (.cells #[.int .u32 0, .int .u16 0] 88) (.cells #[.int .u32 (h : Int), .int .u16 (p : Int)] 88)
    generalize (w.alloc (.cells #[.int .u32 0, .int .u16 0] 88)).alloc (.cells #[.int .u32 (h : Int), .int .u16 (p : Int)] 88) = W2 at k1 k2 hb2 ⊢
    have g1 := (Array.getElem?_eq_some_iff.1 k1).1
    have g2 := (Array.getElem?_eq_some_iff.1 k2).1
    have HL : Hid (∀ W, Below W2.heap.size W2 W → (loadVar 88 ⟨w.heap.size + 1, 0, none⟩).run Tryz.prog W = .ok (.agg #[.int .u32 (h : Int), .int .u16 (p : Int)]) W) := Lib.hid (fun W hW => run_loadVar_mid W (w.heap.size + 1) 0 88 [.int .u32 (h : Int), .int .u16 (p : Int)] _ (row_range (cs := [.int .u32 (h : Int), .int .u16 (p : Int)]) ((hW.block _ g2).trans k2)) Tryz.underlying88 rfl size53)
    have HL2 := Lib.hid (HL.out W2 (Below.refl _ _))
    have HR : Hid (∀ W, Below W2.heap.size W2 W → W.heap[w.heap.size]? = some (.cells #[.int .u32 0, .int .u16 0] 88 (0, 0))) := Lib.hid (fun W hW => (hW.block _ g1).trans k1)
    have HB2 := Lib.hid hb2
    clear k1 k2 hb2 g1 g2
    go_upto_region 7 with (first
      | ((with_reducible refine wpList_loadV (op := ⟨some 28, _, _, _, _, _⟩) rfl 88 (.tmp 8) rfl _ ?_ _ HL2.out ?_); rfl)
      | (go_at_call 86; (with_reducible refine (HG.out _).mono ?_); rintro e w3 ⟨rfl, hb3⟩))
    have HL3 := Lib.hid (HL.out w3 hb3)
    have r3 := HR.out w3 hb3
    have fr0 := frozen_of_row w3 w.heap.size 0 _ 88 r3
    have fr1 := frozen_of_row w3 w.heap.size 1 _ 88 r3
    have z0 : w3.cell? ⟨w.heap.size, 0, none⟩ = some (.int .u32 0) := by rw [cell_of_row _ _ 0 _ 88 (0, 0) r3]; rfl
    have z1 : w3.cell? ⟨w.heap.size, 1, none⟩ = some (.int .u16 0) := by rw [cell_of_row _ _ 1 _ 88 (0, 0) r3]; rfl
    have s1 := heap_setCell_same w3 w.heap.size 0 _ 88 (.int .u32 0) r3
    have s2 := heap_setCell_same _ w.heap.size 1 _ 88 (.int .u16 0) s1
    have HQ := Lib.hid (row_range (cs := [.int .u32 0, .int .u16 0]) s2)
    have HF := Lib.hid (((HB2.out.trans (hb3.mono HB2.out.size)).setCell (p := ⟨w.heap.size, 0, none⟩) (by simp) (.int .u32 0)).setCell (p := ⟨w.heap.size, 1, none⟩) (by simp) (.int .u16 0))
    clear hb3 r3 s1 s2
    go_wp2_with fail
    refine bodyPost_ret (v := .tuple #[.agg #[.int .u32 0, .int .u16 0], .int .i64 10]) ?_ rfl ?_
    · exact results_cell_tmpS (p := 2) (ty := 88) (q := 3) rfl _ _ w.heap.size 0 [.int .u32 0, .int .u16 0] _ (.int .i64 10) rfl rfl HQ.out Tryz.underlying88 rfl size53
    · exact ⟨rfl, HF.out⟩
theorem rread_any (A : Option Addr) (c : Nat) (xs : List UInt8) (w : World) (hA : BAt w w.heap.size A xs) : Calls Tryz.prog 95 #[.slice A xs.length c] w fun e w' => e = .returned (readV xs) ∧ Below w.heap.size w w' := by
  by_cases hx : xs.length = 6
  · have := rread_six A c xs hx w hA
    rwa [← hx] at this
  · refine (rread_len A xs.length c hx w).mono ?_
    rintro e w' ⟨rfl, hb⟩
    refine ⟨?_, hb⟩
    unfold readV
    rw [if_neg (fun h => hx h.1)]
end Go.Proofs.YtehgpnnfjgmiiaaGreat
end
section
namespace Go.Proofs.YtehgpnnfjgmiiaaGreat
set_option maxRecDepth 100000
set_option maxHeartbeats 1000000
open Go.RowKit Go.Lib Go.Great

theorem good_any (h p : Nat) (w : World) : Calls Tryz.prog 124 #[.agg (adr h p)] w fun e w' => e = .returned (.bool (goodB h p)) ∧ Below w.heap.size w w' := by
  unfold adr goodB
  have hb : Hid (Below w.heap.size w (w.alloc (.cells #[.int .u32 (h : Int), .int .u16 (p : Int)] 61))) := Lib.hid ((Below.refl _ w).alloc (Nat.le_refl _) _)
  by_cases h0 : h = 0
  · subst h0
    go_enter Tryz.func124, Tryz.ntmps124
    go_wp2
    go_ret
    exact ⟨by simp, hb.out⟩
  · have h0' : ¬ (h : Int) = 0 := by omega
    by_cases p0 : p = 0
    · subst p0
      go_enter Tryz.func124, Tryz.ntmps124
      go_wp2
      go_ret
      exact ⟨by simp, hb.out⟩
    · have p0' : ¬ (p : Int) = 0 := by omega
      go_enter Tryz.func124, Tryz.ntmps124
      go_wp2
      go_ret
      exact ⟨by simp [h0, p0], hb.out⟩
theorem bytes_any (h p : Nat) (hh : h < 4294967296) (hp : p < 65536) (w : World) : Calls Tryz.prog 99 #[.agg (adr h p)] w fun e w' => ∃ v, e = .returned v ∧ BsIs (adB h p) v w' ∧ Below w.heap.size w w' := by
  unfold adr
  have hb0 : Below w.heap.size w (w.alloc (.cells #[.int .u32 (h : Int), .int .u16 (p : Int)] 61)) := (Below.refl _ w).alloc (Nat.le_refl _) _
  obtain ⟨W0, hW0⟩ : ∃ W0, W0 = w.alloc (.cells #[.int .u32 (h : Int), .int .u16 (p : Int)] 61) := ⟨_, rfl⟩
  have h0 := heap_alloc_new w (.cells #[.int .u32 (h : Int), .int .u16 (p : Int)] 61)
  rw [← hW0] at hb0 h0
  have g0 := (Array.getElem?_eq_some_iff.1 h0).1
  have C0 : Hid (∀ W, Below W0.heap.size W0 W → W.cell? ⟨w.heap.size, 0, none⟩ = some (.int .u32 (h : Int))) := Lib.hid (fun W hW => by
    rw [cell_of_row W _ 0 _ 61 (0, 0) ((hW.block _ g0).trans h0)]; rfl)
  have C1 : Hid (∀ W, Below W0.heap.size W0 W → W.cell? ⟨w.heap.size, 1, none⟩ = some (.int .u16 (p : Int))) := Lib.hid (fun W hW => by
    rw [cell_of_row W _ 1 _ 61 (0, 0) ((hW.block _ g0).trans h0)]; rfl)
  have P1 : Hid (∀ W, Below W0.heap.size W0 W → Calls Tryz.prog 22 #[.slice none 0 0, .int .u64 (h : Int), .int .i64 4] W fun e w' => ∃ v, e = .returned v ∧ Below W0.heap.size W0 w' ∧ Below W.heap.size W w' ∧ BsIs (putB h 4) v w') := Lib.hid (fun W hW => by
    refine (put_yes none 0 h 4 [] W (.inl rfl) (by simp) (by omega) (by omega) (by omega)).mono ?_
    rintro e w' ⟨v, rfl, k1, k2⟩
    exact ⟨v, rfl, hW.trans (k2.mono hW.size), k2, BsIs.of_own k1⟩)
  have P2 : Hid (∀ u W, BsIs (putB h 4) u W → Below W0.heap.size W0 W → Calls Tryz.prog 22 #[u, .int .u64 (p : Int), .int .i64 2] W fun e w' => ∃ v, e = .returned v ∧ Below W0.heap.size W0 w' ∧ Below W.heap.size W w' ∧ BsIs (adB h p) v w') := Lib.hid (fun u W hu hW => by
    obtain ⟨A, c, rfl, _, hA⟩ := hu
    refine (put_yes A c p 2 (putB h 4) W hA (by rw [putB_length]; omega) (by omega) (by omega) (by omega)).mono ?_
    rintro e w' ⟨v, rfl, k1, k2⟩
    exact ⟨v, rfl, hW.trans (k2.mono hW.size), k2, BsIs.of_own k1⟩)
  have HSa : Hid (Below W0.heap.size W0 W0.drew) := Lib.hid (Below.refl _ _).drew
  have HW1 : Hid (IntKind.u64.wrap (h : Int) = (h : Int)) := Lib.hid (by simp only [IntKind.wrap, IntKind.bits, IntKind.signed]; simp; omega)
  have HW2 : Hid (IntKind.u64.wrap (p : Int) = (p : Int)) := Lib.hid (by simp only [IntKind.wrap, IntKind.bits, IntKind.signed]; simp; omega)
  have HW := Lib.hid hW0
  have HB0 := Lib.hid hb0
  clear hb0 hW0 h0 g0
  go_enter Tryz.func99, Tryz.ntmps99
  go_upto_region 1 with fail
  rw [← HW.out]
  refine wp_region_noPanic ?_
  refine wp_region_held_drew (S := fun w' => Below W0.heap.size W0 w') (by kernel_rfl) HSa.out (fun hHeld => ?_)
  refine takeH_at 0 3 (v := ?_) rfl rfl (by kernel_rfl) (by kernel_rfl) (by kernel_rfl) (fun _ _ _ h => h) (Or.inl ⟨by rfl, ?_⟩) (by assumption) ?_
  rotate_left
  · (intro wx hSw; clear hSw; go_simp) <;> with_reducible rfl
  simp only [Act.put, List.setIfInBounds_toArray, List.set_cons_zero, List.set_cons_succ]
  refine takeH_at 1 4 (v := ?_) rfl rfl (by kernel_rfl) (by kernel_rfl) (by kernel_rfl) (fun _ _ _ h => h) (Or.inl ⟨by rfl, ?_⟩) (by assumption) ?_
  rotate_left
  · (intro wx hSw; have c0 := C0.out wx hSw; clear hSw; go_simp) <;> with_reducible rfl
  simp only [Act.put, List.setIfInBounds_toArray, List.set_cons_zero, List.set_cons_succ]
  refine takeH_at 2 5 (v := ?_) rfl rfl (by kernel_rfl) (by kernel_rfl) (by kernel_rfl) (fun _ _ _ h => h) (Or.inl ⟨by rfl, ?_⟩) (by assumption) ?_
  rotate_left
  · (intro wx hSw; clear hSw; go_simp) <;> with_reducible rfl
  simp only [Act.put, List.setIfInBounds_toArray, List.set_cons_zero, List.set_cons_succ]
  rw [HW1.out]
  refine takeH_at 4 7 (v := ?_) rfl rfl (by kernel_rfl) (by kernel_rfl) (by kernel_rfl) (fun _ _ _ h => h) (Or.inl ⟨by rfl, ?_⟩) (by assumption) ?_
  rotate_left
  · (intro wx hSw; clear hSw; go_simp) <;> with_reducible rfl
  simp only [Act.put, List.setIfInBounds_toArray, List.set_cons_zero, List.set_cons_succ]
  refine takeH_at 5 8 (v := ?_) rfl rfl (by kernel_rfl) (by kernel_rfl) (by kernel_rfl) (fun _ _ _ h => h) (Or.inl ⟨by rfl, ?_⟩) (by assumption) ?_
  rotate_left
  · (intro wx hSw; have c0 := C1.out wx hSw; clear hSw; go_simp) <;> with_reducible rfl
  simp only [Act.put, List.setIfInBounds_toArray, List.set_cons_zero, List.set_cons_succ]
  refine takeH_at 6 9 (v := ?_) rfl rfl (by kernel_rfl) (by kernel_rfl) (by kernel_rfl) (fun _ _ _ h => h) (Or.inl ⟨by rfl, ?_⟩) (by assumption) ?_
  rotate_left
  · (intro wx hSw; clear hSw; go_simp) <;> with_reducible rfl
  simp only [Act.put, List.setIfInBounds_toArray, List.set_cons_zero, List.set_cons_succ]
  rw [HW2.out]
  refine single 3 6 rfl rfl (by kernel_rfl) (by rfl) (BsIs (putB h 4)) (looseR_call 22 rfl (enters_of Tryz.func22 (by kernel_rfl) rfl) _ (by simp only [List.map_toArray, List.map_cons, List.map_nil]; rfl) (P1.out _ hHeld)) ?_
  intro u wa hSa hba hu
  simp only [Act.put, List.setIfInBounds_toArray, List.set_cons_zero, List.set_cons_succ]
  refine single 7 10 rfl rfl (by kernel_rfl) (by rfl) (BsIs (adB h p)) (looseR_call 22 rfl (enters_of Tryz.func22 (by kernel_rfl) rfl) _ (by simp only [List.map_toArray, List.map_cons, List.map_nil]; rfl) (P2.out u wa hu hSa)) ?_
  intro v wb hSb hbb hv
  simp only [Act.put, List.setIfInBounds_toArray, List.set_cons_zero, List.set_cons_succ]
  refine takeH_at 8 2 (v := ?_) rfl rfl (by kernel_rfl) (by kernel_rfl) (by kernel_rfl) (fun _ _ _ h => h) (Or.inl ⟨by rfl, ?_⟩) (by assumption) ?_
  rotate_left
  · (intro wx hSw; clear hSw; go_simp) <;> with_reducible rfl
  simp only [Act.put, List.setIfInBounds_toArray, List.set_cons_zero, List.set_cons_succ]
  refine wpAnyH_done (by kernel_rfl) ?_ _
  refine NoPanic.normal ?_
  have HF := Lib.hid (HB0.out.trans (hSb.mono HB0.out.size))
  have HV := Lib.hid hv
  clear hSb hbb hv hu hSa hba P1 P2 C0 C1
  go_wp2
  go_ret
  exact ⟨_, rfl, HV.out, HF.out⟩

end Go.Proofs.YtehgpnnfjgmiiaaGreat
end
