/- Contract of Read of package addr. Conditions: fewer than 900,000 bytes. Bits, distances and prefixes of ids, as lists of bytes: plain lemmas without a program. No condition. Contracts of the small functions of package ident: places, masks, leading zeros. Conditions: numbers are ints. Contract of Bit of package ident. Conditions: an id has 20 bytes. Contract of the schedule of package sha. Conditions: a block has 64 bytes. Contracts of firstWords, New, isMade and id of package sha. No condition. -/
import Derived.Test.YtehgpnnfjgmiiaaGreatVOja
import Derived.Test.YtehgpnnfjgmiiaaGreatVObd
import Derived.Test.YtehgpnnfjgmiiaaGreatVIiv
import Derived.Test.YtehgpnnfjgmiiaaGreatVObc
import Derived.Test.YtehgpnnfjgmiiaaGreatVROcc
import Derived.Test.YtehgpnnfjgmiiaaGreatVRERefb
import Derived.Test.YtehgpnnfjgmiiaaGreatVRKCdk
import Derived.Test.YtehgpnnfjgmiiaaGreatVRIip
import Derived.Test.YtehgpnnfjgmiiaaGreatVREOctc
import Derived.Test.YtehgpnnfjgmiiaaGreatVNAPSrb
import Derived.Test.YtehgpnnfjgmiiaaGreatVNCcc
import Derived.Deep.RegionHeld3
import Derived.Test.YtehgpnnfjgmiiaaGreatVNCsa
import Derived.WalkKit
import Derived.Deep.AppendSrc
import Derived.Laws.BytesString
import Derived.Laws.CopyOwn
import Derived.Deep.AppendLies
import Derived.Deep.Draws
import Derived.WalkSpells
import Derived.Test.YtehgpnnfjgmiiaaGreatRows
import Derived.WalkLawsBesides
import Derived.Lib.Hide
import Derived.Outline
import Derived.Laws.BitsAllLaws
import Derived.Laws.BitsLemmas
import Derived.Laws.Bits64
import Derived.LoopTactic
import Derived.Deep.MidRow
import Derived.BigQuiet
import Derived.RegionTactic
import Derived.RegionCalls
import Derived.Deep.QuietTactic
import Derived.Deep.DeepCutAuto
import Derived.Great.BuildSlice
section
namespace Go.Proofs.YtehgpnnfjgmiiaaGreat
set_option maxRecDepth 100000
set_option maxHeartbeats 1000000
open Go.RowKit Go.Lib Go.Great

theorem size25 : (Tryz.prog.info? 61).map (·.size) = some 2 := by kernel_rfl
/-- What is read of bytes, number by number. -/
theorem read_facts (xs : List UInt8) : ∃ a b : Nat, a < 4294967296 ∧ b < 65536 ∧ numV ⟨xs, false⟩ 4 = a ∧ numV (numS ⟨xs, false⟩ 4) 2 = b ∧
    ((doneE (numS (numS ⟨xs, false⟩ 4) 2) = 10 ∧ readV xs = .tuple #[.agg (adr 0 0), .int .i64 10]) ∨ (doneE (numS (numS ⟨xs, false⟩ 4) 2) = 0 ∧ readV xs = if a ≠ 0 ∧ b ≠ 0 then .tuple #[.agg (adr a b), .int .i64 0] else .tuple #[.agg (adr 0 0), .int .i64 10])) := by
  have hlt4 : ∀ ys : List UInt8, getN (ys.take 4) < 4294967296 := fun ys => by
    have := getN_lt (ys.take 4)
    have hl : (ys.take 4).length ≤ 4 := by rw [List.length_take]; omega
    exact Nat.lt_of_lt_of_le this (Nat.pow_le_pow_right (by omega) hl)
  have hlt2 : ∀ ys : List UInt8, getN (ys.take 2) < 65536 := fun ys => by
    have := getN_lt (ys.take 2)
    have hl : (ys.take 2).length ≤ 2 := by rw [List.length_take]; omega
    exact Nat.lt_of_lt_of_le this (Nat.pow_le_pow_right (by omega) hl)
  have l4 : ((4 : Int)).toNat = 4 := rfl
  have l2 : ((2 : Int)).toNat = 2 := rfl
  refine ⟨_, _, ?_, ?_, rfl, rfl, ?_⟩
  · unfold numV
    split
    · rw [l4]; exact hlt4 _
    · omega
  · unfold numV
    split
    · rw [l2]; exact hlt2 _
    · omega
  · by_cases h4 : 4 ≤ xs.length
    · have o1 : numOk ⟨xs, false⟩ 4 := ⟨rfl, by omega, by omega, by simp; omega⟩
      have s1 : numS ⟨xs, false⟩ 4 = ⟨xs.drop 4, false⟩ := by simp only [numS, if_pos o1, l4]
      have v1 : numV ⟨xs, false⟩ 4 = getN (xs.take 4) := by simp only [numV, if_pos o1, l4]
      rw [s1, v1]
      by_cases h6 : 6 ≤ xs.length
      · have o2 : numOk ⟨xs.drop 4, false⟩ 2 := ⟨rfl, by omega, by omega, by simp; omega⟩
        have s2 : numS ⟨xs.drop 4, false⟩ 2 = ⟨(xs.drop 4).drop 2, false⟩ := by simp only [numS, if_pos o2, l2]
        have v2 : numV ⟨xs.drop 4, false⟩ 2 = getN ((xs.drop 4).take 2) := by simp only [numV, if_pos o2, l2]
        rw [s2, v2]
        by_cases he : xs.length = 6
        · right
          refine ⟨?_, ?_⟩
          · unfold doneE
            rw [if_neg]
            simp
            omega
          · unfold readV
            by_cases hg : getN (xs.take 4) ≠ 0 ∧ getN ((xs.drop 4).take 2) ≠ 0
            · rw [if_pos ⟨he, hg⟩, if_pos hg]
            · rw [if_neg (fun h => hg h.2), if_neg hg]
        · left
          refine ⟨?_, ?_⟩
          · unfold doneE
            rw [if_pos]
            right
            simp
            omega
          · unfold readV
            rw [if_neg (fun h => he h.1)]
      · left
        have o2 : ¬ numOk ⟨xs.drop 4, false⟩ 2 := fun h => by have := h.2.2.2; simp at this; omega
        have s2 : numS ⟨xs.drop 4, false⟩ 2 = ⟨[], true⟩ := by simp only [numS, if_neg o2]
        rw [s2]
        refine ⟨by simp [doneE], ?_⟩
        unfold readV
        rw [if_neg (fun h => by omega)]
    · left
      have o1 : ¬ numOk ⟨xs, false⟩ 4 := fun h => by have := h.2.2.2; simp at this; omega
      have s1 : numS ⟨xs, false⟩ 4 = ⟨[], true⟩ := by simp only [numS, if_neg o1]
      have o2 : ¬ numOk ⟨[], true⟩ 2 := fun h => by have := h.1; cases this
      have s2 : numS ⟨[], true⟩ 2 = ⟨[], true⟩ := by simp only [numS, if_neg o2]
      rw [s1, s2]
      refine ⟨by simp [doneE], ?_⟩
      unfold readV
      rw [if_neg (fun h => by omega)]

theorem read_any (A : Option Addr) (c : Nat) (xs : List UInt8) (hl : xs.length ≤ 900000) (w : World) (hA : BAt w w.heap.size A xs) : Calls Tryz.prog 108 #[.slice A xs.length c] w fun e w' => e = .returned (readV xs) ∧ Below w.heap.size w w' := by
  obtain ⟨a, b, ha, hb, e1, e2, hc⟩ := read_facts xs
  have h0 := heap_alloc_new w (.cells #[.int .u32 0, .int .u16 0] 61)
  have hb0 : Below w.heap.size w (w.alloc (.cells #[.int .u32 0, .int .u16 0] 61)) := (Below.refl _ w).alloc (Nat.le_refl _) _
  have hA0 : BAt (w.alloc (.cells #[.int .u32 0, .int .u16 0] 61)) (w.alloc (.cells #[.int .u32 0, .int .u16 0] 61)).heap.size A xs := (hA.below hb0).more hb0.size
  obtain ⟨W0, hW0⟩ : ∃ W0, W0 = w.alloc (.cells #[.int .u32 0, .int .u16 0] 61) := ⟨_, rfl⟩
  rw [← hW0] at h0 hb0 hA0
  have hs0 : W0.heap.size = w.heap.size + 1 := by rw [hW0]; simp
  have O1 := Lib.hid (open_any A c xs W0 hA0 hl)
  have HW := Lib.hid hW0
  have HG : Hid (∀ W, Calls Tryz.prog 124 #[.agg (adr a b)] W fun e w' => e = .returned (.bool (goodB a b)) ∧ Below W.heap.size W w') := Lib.hid (fun W => good_any a b W)
  have hwa : IntKind.u32.wrap (a : Int) = (a : Int) := by rw [IntKind.wrap_u32]; omega
  have hwb : IntKind.u16.wrap (b : Int) = (b : Int) := by rw [IntKind.wrap_u16]; omega
  have HA1 := Lib.hid ha
  have HC := Lib.hid hc
  have HE1 := Lib.hid e1
  have HE2 := Lib.hid e2
  have HB0 := Lib.hid hb0
  have HH0 := Lib.hid h0
  have hgd : goodB a b = decide (a ≠ 0 ∧ b ≠ 0) := rfl
  generalize xs.length = n at O1 ⊢
  clear hA hA0 hb0 hW0 h0 hc e1 e2 ha hb hl
  unfold adr at *
  go_enter Tryz.func108, Tryz.ntmps108
  go_upto_region 1 with fail
  rw [← HW.out]
  go_upto_region 2 with (go_at_call 39; (with_reducible refine O1.out.mono ?_); rintro e w1 ⟨g, rfl, hg, hr, hb1⟩)
  have hne : g ≠ w.heap.size := by omega
  have r1 := (hb1.block w.heap.size (by omega)).trans HH0.out
  have HN1 := Lib.hid (num_any hr 4 (by omega))
  rw [show NumP w1 g ⟨xs, false⟩ 4 = fun e w' => e = .returned (.int .u64 (a : Int)) ∧ RdrS w' g (numS ⟨xs, false⟩ 4) ∧ w1.grownBy w' (some g) by unfold NumP; rw [HE1.out]] at HN1
  have HN2 : Hid (∀ W, RdrS W g (numS ⟨xs, false⟩ 4) → Calls Tryz.prog 40 #[.pointer (some ⟨g, 0, none⟩), .int .i64 2] W fun e w' => e = .returned (.int .u64 (b : Int)) ∧ RdrS w' g (numS (numS ⟨xs, false⟩ 4) 2) ∧ W.grownBy w' (some g)) := Lib.hid (fun W h => by
    have := num_any h 2 (by omega)
    rwa [show NumP W g (numS ⟨xs, false⟩ 4) 2 = fun e w' => e = .returned (.int .u64 (b : Int)) ∧ RdrS w' g (numS (numS ⟨xs, false⟩ 4) 2) ∧ W.grownBy w' (some g) by unfold NumP; rw [HE2.out]] at this)
  generalize hS2 : numS (numS ⟨xs, false⟩ 4) 2 = S2 at HN2 HC
  generalize numS ⟨xs, false⟩ 4 = S1 at HN1 HN2
  have HB1 := Lib.hid (HB0.out.trans (hb1.mono HB0.out.size))
  have HR1 := Lib.hid r1
  clear hS2 hr hb1 r1
  go_upto_region 3 with (first
    | (go_at_call 40; (with_reducible refine HN1.out.mono ?_); rintro e w2 ⟨rfl, hr2, hg2⟩)
    | (go_at_call 40; (with_reducible refine (HN2.out _ hr2).mono ?_); rintro e w3 ⟨rfl, hr3, hg3⟩))
  have q2 := (hg2.block w.heap.size (Array.getElem?_eq_some_iff.1 HR1.out).1 (by simpa using fun e => hne e.symm)).trans HR1.out
  have q3 := (hg3.block w.heap.size (Array.getElem?_eq_some_iff.1 q2).1 (by simpa using fun e => hne e.symm)).trans q2
  have b2 : Below w.heap.size w w2 := HB1.out.grown hg2 HB1.out.size (fun k hk => by simp at hk; omega)
  have b3 : Below w.heap.size w w3 := b2.grown hg3 b2.size (fun k hk => by simp at hk; omega)
  have n4 := heap_alloc_new w3 (.cells #[.int .u32 (a : Int), .int .u16 (b : Int)] 61)
  have c4 : Below w3.heap.size w3 (w3.alloc (.cells #[.int .u32 (a : Int), .int .u16 (b : Int)] 61)) := (Below.refl _ w3).alloc (Nat.le_refl _) _
  have z4 := (c4.block w.heap.size (Array.getElem?_eq_some_iff.1 q3).1).trans q3
  have b4 := b3.trans (c4.mono b3.size)
  have r4 := hr3.below c4 (Nat.le_refl _)
  generalize w3.alloc (.cells #[.int .u32 (a : Int), .int .u16 (b : Int)] 61) = W4 at n4 z4 b4 r4 ⊢
  generalize w3.heap.size = g5 at n4 ⊢
  have HD := Lib.hid (done_any r4)
  have HL : Hid (∀ W, Below W4.heap.size W4 W → (loadVar 61 ⟨g5, 0, none⟩).run Tryz.prog W = .ok (.agg #[.int .u32 (a : Int), .int .u16 (b : Int)]) W) := Lib.hid (fun W hW => run_loadVar_mid W g5 0 61 [.int .u32 (a : Int), .int .u16 (b : Int)] _ (row_range (cs := [.int .u32 (a : Int), .int .u16 (b : Int)]) ((hW.block _ (Array.getElem?_eq_some_iff.1 n4).1).trans n4)) Tryz.underlying61 rfl size25)
  have HL4 := Lib.hid (HL.out W4 (Below.refl _ _))
  have HZ : Hid (∀ W, Below W4.heap.size W4 W → W.heap[w.heap.size]? = some (.cells #[.int .u32 0, .int .u16 0] 61 (0, 0))) := Lib.hid (fun W hW => (hW.block _ (Array.getElem?_eq_some_iff.1 z4).1).trans z4)
  have HB4 := Lib.hid b4
  clear q2 q3 b2 b3 n4 c4 z4 b4 r4 hr2 hg2 hr3 hg3 hne hg HN1 HN2 HR1 HB1 O1
  have hdone : (doneE S2 = 10 ∧ readV xs = .tuple #[.agg #[.int .u32 0, .int .u16 0], .int .i64 10]) ∨ (doneE S2 = 0 ∧ goodB a b = true ∧ readV xs = .tuple #[.agg #[.int .u32 (a : Int), .int .u16 (b : Int)], .int .i64 0]) ∨ (doneE S2 = 0 ∧ goodB a b = false ∧ readV xs = .tuple #[.agg #[.int .u32 0, .int .u16 0], .int .i64 10]) := by
    rcases HC.out with h | ⟨h1, h2⟩
    · exact .inl h
    · right
      by_cases hq : a ≠ 0 ∧ b ≠ 0
      · left
        rw [if_pos hq] at h2
        exact ⟨h1, by rw [hgd, decide_eq_true hq], h2⟩
      · right
        rw [if_neg hq] at h2
        exact ⟨h1, by rw [hgd, decide_eq_false hq], h2⟩
  clear hgd HC
  rcases hdone with ⟨hd, hr⟩ | ⟨hd, hgo, hr⟩ | ⟨hd, hgo, hr⟩
  all_goals
    have HRV := Lib.hid hr
    rw [hd] at HD
    try rw [hgo] at HG
    clear hr hd
  · have r3 := HZ.out W4 (Below.refl _ _)
    have fr0 := frozen_of_row W4 w.heap.size 0 _ 61 r3
    have fr1 := frozen_of_row W4 w.heap.size 1 _ 61 r3
    have z0 : W4.cell? ⟨w.heap.size, 0, none⟩ = some (.int .u32 0) := by rw [cell_of_row _ _ 0 _ 61 (0, 0) r3]; rfl
    have z1 : W4.cell? ⟨w.heap.size, 1, none⟩ = some (.int .u16 0) := by rw [cell_of_row _ _ 1 _ 61 (0, 0) r3]; rfl
    have s1 := heap_setCell_same W4 w.heap.size 0 _ 61 (.int .u32 0) r3
    have s2 := heap_setCell_same _ w.heap.size 1 _ 61 (.int .u16 0) s1
    have HQ := Lib.hid (row_range (cs := [.int .u32 0, .int .u16 0]) s2)
    have HF := Lib.hid ((HB4.out.setCell (p := ⟨w.heap.size, 0, none⟩) (by simp) (.int .u32 0)).setCell (p := ⟨w.heap.size, 1, none⟩) (by simp) (.int .u16 0))
    clear r3 s1 s2
    go_wp2_with (go_at_call 42; (with_reducible refine HD.out.mono ?_); rintro e w5 ⟨rfl, rfl⟩)
    refine bodyPost_ret (v := .tuple #[.agg #[.int .u32 0, .int .u16 0], .int .i64 10]) ?_ rfl ?_
    · exact results_cell_tmpS (p := 2) (ty := 61) (q := 3) rfl _ _ w.heap.size 0 [.int .u32 0, .int .u16 0] _ (.int .i64 10) rfl rfl HQ.out Tryz.underlying61 rfl size25
    · exact ⟨by rw [HRV.out], HF.out⟩
  · go_upto_region 5 with (first
      | ((with_reducible refine wpList_loadGN (op := ⟨some 19, _, _, _, _, _⟩) rfl 61 (.tmp 5) rfl _ ?_ _ HL4.out ?_); rfl)
      | (go_at_call 42; (with_reducible refine HD.out.mono ?_); rintro e w5 ⟨rfl, rfl⟩)
      | (go_at_call 124; (with_reducible refine (HG.out _).mono ?_); rintro e w6 ⟨rfl, hb6⟩))
    have HL6 := Lib.hid (HL.out w6 hb6)
    have r3 := HZ.out w6 hb6
    have fr0 := frozen_of_row w6 w.heap.size 0 _ 61 r3
    have fr1 := frozen_of_row w6 w.heap.size 1 _ 61 r3
    have z0 : w6.cell? ⟨w.heap.size, 0, none⟩ = some (.int .u32 0) := by rw [cell_of_row _ _ 0 _ 61 (0, 0) r3]; rfl
    have z1 : w6.cell? ⟨w.heap.size, 1, none⟩ = some (.int .u16 0) := by rw [cell_of_row _ _ 1 _ 61 (0, 0) r3]; rfl
    have s1 := heap_setCell_same w6 w.heap.size 0 _ 61 (.int .u32 (a : Int)) r3
    have s2 := heap_setCell_same _ w.heap.size 1 _ 61 (.int .u16 (b : Int)) s1
    have HQ := Lib.hid (row_range (cs := [.int .u32 (a : Int), .int .u16 (b : Int)]) s2)
    have HF := Lib.hid (((HB4.out.trans (hb6.mono HB4.out.size)).setCell (p := ⟨w.heap.size, 0, none⟩) (by simp) (.int .u32 (a : Int))).setCell (p := ⟨w.heap.size, 1, none⟩) (by simp) (.int .u16 (b : Int)))
    clear hb6 r3 s1 s2
    go_wp2_with ((with_reducible refine wpList_loadV (op := ⟨some 24, _, _, _, _, _⟩) rfl 61 (.tmp 5) rfl _ ?_ _ HL6.out ?_); rfl)
    refine bodyPost_ret (v := .tuple #[.agg #[.int .u32 (a : Int), .int .u16 (b : Int)], .int .i64 0]) ?_ rfl ?_
    · exact results_cell_tmpS (p := 2) (ty := 61) (q := 3) rfl _ _ w.heap.size 0 [.int .u32 (a : Int), .int .u16 (b : Int)] _ (.int .i64 0) rfl rfl HQ.out Tryz.underlying61 rfl size25
    · exact ⟨by rw [HRV.out], HF.out⟩
  · go_upto_region 4 with (first
      | ((with_reducible refine wpList_loadGN (op := ⟨some 19, _, _, _, _, _⟩) rfl 61 (.tmp 5) rfl _ ?_ _ HL4.out ?_); rfl)
      | (go_at_call 42; (with_reducible refine HD.out.mono ?_); rintro e w5 ⟨rfl, rfl⟩)
      | (go_at_call 124; (with_reducible refine (HG.out _).mono ?_); rintro e w6 ⟨rfl, hb6⟩))
    have r3 := HZ.out w6 hb6
    have fr0 := frozen_of_row w6 w.heap.size 0 _ 61 r3
    have fr1 := frozen_of_row w6 w.heap.size 1 _ 61 r3
    have z0 : w6.cell? ⟨w.heap.size, 0, none⟩ = some (.int .u32 0) := by rw [cell_of_row _ _ 0 _ 61 (0, 0) r3]; rfl
    have z1 : w6.cell? ⟨w.heap.size, 1, none⟩ = some (.int .u16 0) := by rw [cell_of_row _ _ 1 _ 61 (0, 0) r3]; rfl
    have s1 := heap_setCell_same w6 w.heap.size 0 _ 61 (.int .u32 0) r3
    have s2 := heap_setCell_same _ w.heap.size 1 _ 61 (.int .u16 0) s1
    have HQ := Lib.hid (row_range (cs := [.int .u32 0, .int .u16 0]) s2)
    have HF := Lib.hid (((HB4.out.trans (hb6.mono HB4.out.size)).setCell (p := ⟨w.heap.size, 0, none⟩) (by simp) (.int .u32 0)).setCell (p := ⟨w.heap.size, 1, none⟩) (by simp) (.int .u16 0))
    clear hb6 r3 s1 s2
    go_wp2_with fail
    refine bodyPost_ret (v := .tuple #[.agg #[.int .u32 0, .int .u16 0], .int .i64 10]) ?_ rfl ?_
    · exact results_cell_tmpS (p := 2) (ty := 61) (q := 3) rfl _ _ w.heap.size 0 [.int .u32 0, .int .u16 0] _ (.int .i64 10) rfl rfl HQ.out Tryz.underlying61 rfl size25
    · exact ⟨by rw [HRV.out], HF.out⟩
end Go.Proofs.YtehgpnnfjgmiiaaGreat
end
section
namespace Go.Proofs.YtehgpnnfjgmiiaaGreat
set_option maxRecDepth 100000
open Go.RowKit

/-- Bit i of an id, the most significant one of its first byte being 0. -/
def bitL (xs : List UInt8) (i : Nat) : Bool := (xs.getD (i / 8) 0).toNat.testBit (7 - i % 8)
def xorL (xs ys : List UInt8) : List UInt8 := List.zipWith (· ^^^ ·) xs ys
/-- The zeros ahead of a byte's first one. -/
def lz8 (z : UInt8) : Nat :=
  if 128 ≤ z.toNat then 0 else if 64 ≤ z.toNat then 1 else if 32 ≤ z.toNat then 2 else if 16 ≤ z.toNat then 3
  else if 8 ≤ z.toNat then 4 else if 4 ≤ z.toNat then 5 else if 2 ≤ z.toNat then 6 else if 1 ≤ z.toNat then 7 else 8
/-- The bits that two ids have in common. -/
def pfxN : List UInt8 → List UInt8 → Nat
  | x :: xs, y :: ys => if x = y then 8 + pfxN xs ys else lz8 (x ^^^ y)
  | _, _ => 0

theorem lz8_fin : ∀ z : Fin 256, z.val ≠ 0 → lz8 (UInt8.ofNat z.val) < 8 ∧ (∀ i : Fin 8, i.val < lz8 (UInt8.ofNat z.val) → z.val.testBit (7 - i.val) = false) ∧ z.val.testBit (7 - lz8 (UInt8.ofNat z.val)) = true := by decide +kernel
theorem lz8_spec (z : UInt8) (h : z ≠ 0) : lz8 z < 8 ∧ (∀ i, i < lz8 z → z.toNat.testBit (7 - i) = false) ∧ z.toNat.testBit (7 - lz8 z) = true := by
  have hz : z.toNat ≠ 0 := fun e => h (UInt8.toNat.inj (by simpa using e))
  have hl := z.toNat_lt
  obtain ⟨h1, h2, h3⟩ := lz8_fin ⟨z.toNat, hl⟩ hz
  simp only [UInt8.ofNat_toNat] at h1 h2 h3
  exact ⟨h1, fun i hi => h2 ⟨i, by omega⟩ hi, h3⟩

theorem xor_eq_zero {x y : UInt8} (h : x ^^^ y = 0) : x = y := UInt8.xor_eq_zero_iff.1 h

theorem byte_diff {x y : UInt8} (h : x ≠ y) : lz8 (x ^^^ y) < 8 ∧ (∀ i, i < lz8 (x ^^^ y) → x.toNat.testBit (7 - i) = y.toNat.testBit (7 - i)) ∧ x.toNat.testBit (7 - lz8 (x ^^^ y)) ≠ y.toNat.testBit (7 - lz8 (x ^^^ y)) := by
  obtain ⟨h1, h2, h3⟩ := lz8_spec (x ^^^ y) (fun e => h (xor_eq_zero e))
  refine ⟨h1, fun i hi => ?_, ?_⟩
  · have := h2 i hi
    rw [UInt8.toNat_xor, Nat.testBit_xor] at this
    simpa using this
  · rw [UInt8.toNat_xor, Nat.testBit_xor] at h3
    simpa using h3

theorem bitL_head (x : UInt8) (xs : List UInt8) (i : Nat) (h : i < 8) : bitL (x :: xs) i = x.toNat.testBit (7 - i) := by
  unfold bitL
  rw [Nat.div_eq_of_lt h, Nat.mod_eq_of_lt h]
  rfl
theorem bitL_tail (x : UInt8) (xs : List UInt8) (i : Nat) : bitL (x :: xs) (8 + i) = bitL xs i := by
  unfold bitL
  have e1 : (8 + i) / 8 = i / 8 + 1 := by omega
  have e2 : (8 + i) % 8 = i % 8 := by omega
  rw [e1, e2]
  rfl

theorem pfxN_spec : ∀ (xs ys : List UInt8), xs.length = ys.length →
    pfxN xs ys ≤ 8 * xs.length ∧ (∀ i, i < pfxN xs ys → bitL xs i = bitL ys i) ∧ (xs ≠ ys → pfxN xs ys < 8 * xs.length ∧ bitL xs (pfxN xs ys) ≠ bitL ys (pfxN xs ys)) ∧ (xs = ys → pfxN xs ys = 8 * xs.length)
  | [], [], _ => ⟨by simp [pfxN], fun i hi => by simp [pfxN] at hi, fun h => absurd rfl h, fun _ => rfl⟩
  | x :: xs, y :: ys, h => by
    have hl : xs.length = ys.length := by simpa using h
    obtain ⟨i1, i2, i3, i4⟩ := pfxN_spec xs ys hl
    unfold pfxN
    by_cases hxy : x = y
    · subst hxy
      rw [if_pos rfl]
      refine ⟨by rw [List.length_cons]; omega, fun i hi => ?_, fun hne => ?_, fun he => ?_⟩
      · by_cases h8 : i < 8
        · rw [bitL_head _ _ _ h8, bitL_head _ _ _ h8]
        · have e : i = 8 + (i - 8) := by omega
          rw [e, bitL_tail, bitL_tail]
          exact i2 _ (by omega)
      · obtain ⟨j1, j2⟩ := i3 (fun e => hne (by rw [e]))
        refine ⟨by rw [List.length_cons]; omega, ?_⟩
        rw [bitL_tail, bitL_tail]
        exact j2
      · rw [List.length_cons, i4 (by injection he)]
        omega
    · rw [if_neg hxy]
      obtain ⟨j1, j2, j3⟩ := byte_diff hxy
      refine ⟨by rw [List.length_cons]; omega, fun i hi => ?_, fun _ => ⟨by rw [List.length_cons]; omega, ?_⟩, fun he => absurd (by injection he) hxy⟩
      · rw [bitL_head _ _ _ (by omega), bitL_head _ _ _ (by omega)]
        exact j2 i hi
      · rw [bitL_head _ _ _ j1, bitL_head _ _ _ j1]
        exact j3

/-- A prefix is told by where the bits are the same. -/
theorem pfxN_unique {xs ys : List UInt8} (h : xs.length = ys.length) (n : Nat) (h1 : n ≤ 8 * xs.length) (h2 : ∀ i, i < n → bitL xs i = bitL ys i) (h3 : n < 8 * xs.length → bitL xs n ≠ bitL ys n) : pfxN xs ys = n := by
  obtain ⟨i1, i2, i3, i4⟩ := pfxN_spec xs ys h
  by_cases he : xs = ys
  · have := i4 he
    by_cases hn : n < 8 * xs.length
    · exact absurd (by rw [he]) (h3 hn)
    · omega
  · obtain ⟨j1, j2⟩ := i3 he
    by_cases hlt : n < pfxN xs ys
    · exact absurd (i2 n hlt) (h3 (by omega))
    · by_cases hgt : pfxN xs ys < n
      · exact absurd (h2 _ hgt) j2
      · omega
theorem pfxN_comm (xs ys : List UInt8) (h : xs.length = ys.length) : pfxN xs ys = pfxN ys xs := by
  obtain ⟨i1, i2, i3, i4⟩ := pfxN_spec ys xs h.symm
  refine pfxN_unique h _ (by omega) (fun i hi => (i2 i hi).symm) (fun hlt => ?_)
  by_cases he : xs = ys
  · have := i4 he.symm
    omega
  · exact (i3 (Ne.symm he)).2.symm

theorem xorL_length {xs ys : List UInt8} (h : xs.length = ys.length) : (xorL xs ys).length = xs.length := by simp [xorL, h]
/-- Which one of two ids is below. -/
def cmpL (xs ys : List UInt8) : Int := if xs = ys then 0 else if bitL xs (pfxN xs ys) then 1 else -1
theorem cmpL_neg (xs ys : List UInt8) (h : xs.length = ys.length) : cmpL xs ys = -cmpL ys xs := by
  unfold cmpL
  by_cases he : xs = ys
  · rw [if_pos he, if_pos he.symm]
    rfl
  · rw [if_neg he, if_neg (Ne.symm he), pfxN_comm ys xs h.symm]
    have := ((pfxN_spec xs ys h).2.2.1 he).2
    cases e1 : bitL xs (pfxN xs ys) <;> cases e2 : bitL ys (pfxN xs ys) <;> simp_all
end Go.Proofs.YtehgpnnfjgmiiaaGreat
end
section
namespace Go.Proofs.YtehgpnnfjgmiiaaGreat
set_option maxRecDepth 100000
open Go.RowKit

theorem isPlace_yes (i : Int) (w : World) (h1 : 0 ≤ i) (h2 : i < 160) : Calls Tryz.prog 142 #[.int .i64 i] w fun e w' => e = .returned (.bool true) ∧ w = w' := by
  go_enter Tryz.func142, Tryz.ntmps142
  go_wp2
  go_ret
  exact ⟨rfl, rfl⟩
theorem pow_mask (j : Nat) : ((2 : Int) ^ (7 - j % 8) % 256) = ((2 ^ (7 - j % 8) : Nat) : Int) := by
  have h : j % 8 = 0 ∨ j % 8 = 1 ∨ j % 8 = 2 ∨ j % 8 = 3 ∨ j % 8 = 4 ∨ j % 8 = 5 ∨ j % 8 = 6 ∨ j % 8 = 7 := by omega
  rcases h with h | h | h | h | h | h | h | h <;> rw [h] <;> rfl
theorem mask_any (j : Nat) (w : World) (h : j < 160) : Calls Tryz.prog 143 #[.int .i64 (j : Int)] w fun e w' => e = .returned (.int .u8 ((2 ^ (7 - j % 8) : Nat) : Int)) ∧ w = w' := by
  go_enter Tryz.func143, Tryz.ntmps143
  go_wp2
  go_ret
  exact ⟨congrArg (fun x => Ending.returned (.int .u8 x)) (pow_mask j), rfl⟩
theorem ba_get (t : ByteArray) (n : Nat) (h : n < t.size) : t[n] = t.data.toList.getD n 0 := by
  have h' : n < t.data.toList.length := h
  rw [List.getD_eq_getElem?_getD, List.getElem?_eq_getElem h']
  rfl
theorem len8_any (z : UInt8) (w : World) : Calls Tryz.prog 147 #[.int .u8 (z.toNat : Int)] w fun e w' => e = .returned (.int .i64 ((8 - lz8 z : Nat) : Int)) ∧ w = w' := by
  have hz : (z.toNat : Int) < 256 := by have := z.toNat_lt; omega
  have hsz : Lib.len8tab.size = 256 := by decide +kernel
  go_enter Tryz.func147, Tryz.ntmps147
  go_wp2
  go_ret
  refine ⟨congrArg (fun x => Ending.returned (.int .i64 x)) ?_, rfl⟩
  rw [ba_get]
  clear hz hsz
  obtain ⟨⟨⟨n, hn⟩⟩⟩ := z
  revert n
  decide +kernel
theorem lz_any (z : UInt8) (w : World) : Calls Tryz.prog 144 #[.int .u8 (z.toNat : Int)] w fun e w' => e = .returned (.int .i64 (lz8 z : Int)) ∧ w = w' := by
  have h8 : lz8 z ≤ 8 := by unfold lz8; repeat (first | omega | split)
  have HL := Lib.hid (len8_any z)
  have e1 : ((8 - lz8 z : Nat) : Int) = 8 - (lz8 z : Int) := by omega
  rw [e1] at HL
  generalize hn : (lz8 z : Int) = n at HL ⊢
  have h0 : 0 ≤ n ∧ n ≤ 8 := by omega
  clear hn e1 h8
  go_enter Tryz.func144, Tryz.ntmps144
  go_wp2_with (go_at_call 147; refine (HL.out _).mono ?_; rintro e w1 ⟨rfl, rfl⟩)
  go_ret
  refine ⟨congrArg (fun x => Ending.returned (.int .i64 x)) ?_, rfl⟩
  omega
end Go.Proofs.YtehgpnnfjgmiiaaGreat
end
section
namespace Go.Proofs.YtehgpnnfjgmiiaaGreat
set_option maxRecDepth 100000
set_option maxHeartbeats 1000000
open Go.RowKit

theorem and_mask : ∀ (z : Fin 256) (k : Fin 8), bits .and .u8 (z.val : Int) ((2 ^ k.val : Nat) : Int) = if z.val.testBit k.val then ((2 ^ k.val : Nat) : Int) else 0 := by decide +kernel
theorem and_mask' (z : UInt8) (k : Nat) (h : k < 8) : bits .and .u8 (z.toNat : Int) ((2 ^ k : Nat) : Int) = if z.toNat.testBit k then ((2 ^ k : Nat) : Int) else 0 := and_mask ⟨z.toNat, z.toNat_lt⟩ ⟨k, h⟩

theorem quiet_l {P : Program} {f : FuncId} {args : Array Value} {w : World} {n : Nat} {v : Value} (h : ∀ W, Calls P f args W fun e w' => e = .returned v ∧ W = w') : Calls P f args (w.drewN n) fun e w' => e = .returned v ∧ ∃ m, w' = w.drewN m :=
  (h _).mono (by rintro e w' ⟨rfl, rfl⟩; exact ⟨rfl, n, rfl⟩)
end Go.Proofs.YtehgpnnfjgmiiaaGreat
end
section
namespace Go.Proofs.YtehgpnnfjgmiiaaGreat
set_option maxRecDepth 100000
open Go.RowKit
set_option linter.unusedVariables false

theorem below_cells {B b : Nat} {a : World} (hb : B ≤ b) : ∀ (vs : List Value) (o : Nat) (w : World), Below B a w → Below B a (w.setCells b o vs)
  | [], _, _, h => h
  | _ :: vs, o, w, h => below_cells hb vs (o + 1) _ (h.setCell (p := ⟨b, o, none⟩) hb _)
end Go.Proofs.YtehgpnnfjgmiiaaGreat
end
section
namespace Go.Proofs.YtehgpnnfjgmiiaaGreat
set_option maxRecDepth 100000
open Go.RowKit Go.Great
set_option linter.unusedVariables false
set_option linter.unusedSimpArgs false

theorem size61 : (Tryz.prog.info? 24).map (·.size) = some 20 := by kernel_rfl
set_option maxRecDepth 100000 in
theorem zero61 (W : World) : (zeroValue 24).run Tryz.prog W = .ok (.agg (bcells (List.replicate 20 0)).toArray) W := by
  have hi : (Tryz.prog.info? 24).bind (·.zero) = some (.agg (bcells (List.replicate 20 0)).toArray) := by kernel_rfl
  cases h : Tryz.prog.info? 24 with
  | none => simp [h] at hi
  | some i =>
    rw [h] at hi
    simp only [Option.bind_some] at hi
    simp [zeroValue, typeInfo, h, hi]
end Go.Proofs.YtehgpnnfjgmiiaaGreat
end
