/- Contract of the schedule of package sha. Conditions: a block has 64 bytes. Contracts of firstWords, New, isMade and id of package sha. No condition. Contracts of the hash's Sum and of Sum of package sha. Conditions: at most 900,000 bytes. Contract of Xor of package ident. Conditions: an id has 20 bytes. Contract of Prefix of package ident. Conditions: an id has 20 bytes. -/
import Derived.Test.YtbfhfnbhfeedbaaXMIda
import Derived.WalkKit
import Derived.Deep.AppendSrc
import Derived.Laws.BytesString
import Derived.Laws.CopyOwn
import Derived.Deep.AppendLies
import Derived.Deep.Draws
import Derived.WalkSpells
import Derived.Test.YtbfhfnbhfeedbaaRows
import Derived.WalkLawsBesides
import Derived.Lib.Hide
import Derived.Outline
import Derived.Laws.BitsAllLaws
import Derived.Laws.BitsLemmas
import Derived.Laws.Bits64
import Derived.LoopTactic
import Derived.RegionTactic
import Derived.RegionCalls
import Derived.Deep.RegionHeld3
import Derived.Deep.QuietTactic
import Derived.BigQuiet
import Derived.Deep.MidRow
import Derived.Deep.DeepCutAuto
import Derived.Great.BuildSlice
section
namespace Go.Proofs.Ytbfhfnbhfeedbaa
set_option maxRecDepth 100000
open Go.RowKit
set_option linter.unusedVariables false

theorem below_cells {B b : Nat} {a : World} (hb : B ≤ b) : ∀ (vs : List Value) (o : Nat) (w : World), Below B a w → Below B a (w.setCells b o vs)
  | [], _, _, h => h
  | _ :: vs, o, w, h => below_cells hb vs (o + 1) _ (h.setCell (p := ⟨b, o, none⟩) hb _)
end Go.Proofs.Ytbfhfnbhfeedbaa
end
section
namespace Go.Proofs.Ytbfhfnbhfeedbaa
set_option maxRecDepth 100000
open Go.RowKit Go.Great
set_option linter.unusedVariables false
set_option linter.unusedSimpArgs false

theorem size61 : (Try.prog.info? 55).map (·.size) = some 20 := by kernel_rfl
set_option maxRecDepth 100000 in
theorem zero61 (W : World) : (zeroValue 55).run Try.prog W = .ok (.agg (bcells (List.replicate 20 0)).toArray) W := by
  have hi : (Try.prog.info? 55).bind (·.zero) = some (.agg (bcells (List.replicate 20 0)).toArray) := by kernel_rfl
  cases h : Try.prog.info? 55 with
  | none => simp [h] at hi
  | some i =>
    rw [h] at hi
    simp only [Option.bind_some] at hi
    simp [zeroValue, typeInfo, h, hi]
end Go.Proofs.Ytbfhfnbhfeedbaa
end
section
namespace Go.Proofs.Ytbfhfnbhfeedbaa
set_option maxRecDepth 100000
open Go.RowKit Go.Great
set_option linter.unusedVariables false
set_option linter.unusedSimpArgs false

theorem below_setRow {a w : World} {B g : Nat} (h : Below B a w) (hg : B ≤ g) (cs : Array Value) : Below B a (w.setRow g cs) :=
  ⟨h.os, h.tape, h.output, by have := h.size; simpa [World.setRow] using this, fun k hk => (setRow_other w g k cs (by omega)).trans (h.block k hk)⟩

end Go.Proofs.Ytbfhfnbhfeedbaa
end
section
namespace Go.Proofs.Ytbfhfnbhfeedbaa
set_option maxRecDepth 100000
set_option maxHeartbeats 1000000
open Go.RowKit

/-- Two ids, the first j bytes mixed. -/
def mixL (xs ys : List UInt8) (j : Nat) : List UInt8 := (List.range 20).map fun i => if i < j then xs.getD i 0 ^^^ ys.getD i 0 else xs.getD i 0
theorem mixL_length (xs ys : List UInt8) (j : Nat) : (mixL xs ys j).length = 20 := by simp [mixL]
theorem mixL_zero (xs ys : List UInt8) (hx : xs.length = 20) : mixL xs ys 0 = xs := by
  apply List.ext_getElem
  · rw [mixL_length, hx]
  · intro i h1 h2
    simp [mixL, List.getElem?_eq_getElem h2]
theorem mixL_full (xs ys : List UInt8) (hx : xs.length = 20) (hy : ys.length = 20) : mixL xs ys 20 = xorL xs ys := by
  apply List.ext_getElem
  · rw [mixL_length, xorL_length (hx.trans hy.symm), hx]
  · intro i h1 h2
    have h3 : i < 20 := by rwa [mixL_length] at h1
    simp [mixL, xorL, h3, List.getElem?_eq_getElem (show i < xs.length by omega), List.getElem?_eq_getElem (show i < ys.length by omega)]
theorem mixL_get (xs ys : List UInt8) (j : Nat) (hj : j < 20) : (bcells (mixL xs ys j))[j]? = some (.int .u8 ((xs.getD j 0).toNat : Int)) := by
  simp [bcells, mixL, hj]
theorem mixL_succ (xs ys : List UInt8) (j : Nat) (hj : j < 20) : (bcells (mixL xs ys j)).toArray.setIfInBounds j (.int .u8 ((xs.getD j 0 ^^^ ys.getD j 0).toNat : Int)) = (bcells (mixL xs ys (j + 1))).toArray := by
  rw [List.setIfInBounds_toArray]
  congr 1
  apply List.ext_getElem
  · simp [bcells, mixL]
  · intro i h1 h2
    have h3 : i < 20 := by simpa [bcells, mixL] using h2
    rw [List.getElem_set]
    by_cases hij : j = i
    · subst hij
      simp [bcells, mixL]
    · rw [if_neg hij]
      simp only [bcells, mixL, List.getElem_map, List.getElem_range]
      by_cases hlt : i < j
      · rw [if_pos hlt, if_pos (by omega)]
      · rw [if_neg hlt, if_neg (by omega)]

theorem zero26 (W : World) : (zeroValue 55).run Try.prog W = .ok (.agg (bcells (List.replicate 20 0)).toArray) W := zero61 W
theorem size26 : (Try.prog.info? 55).map (·.size) = some 20 := size61

theorem row_there {w : World} {g : Nat} {cs : List Value} {ty : TypeId} (h : w.heap[g]? = some (.cells cs.toArray ty (0, 0))) : w.there g 0 cs.length := fun i hi => by
  rw [Nat.zero_add, cell_of_row w _ i _ ty (0, 0) h, frozen_of_row w _ i _ ty h]
  exact ⟨by simp; omega, rfl⟩

def XorRel (w : World) (xs ys : List UInt8) (i : Value) (wr : World) : Prop :=
  ∃ j : Nat, j ≤ 20 ∧ i = .int .i64 (j : Int) ∧ wr.heap[w.heap.size]? = some (.cells (bcells (mixL xs ys j)).toArray 55 (0, 0)) ∧ wr.heap[w.heap.size + 1]? = some (.cells (bcells ys).toArray 55 (0, 0)) ∧ wr.heap[w.heap.size + 1 + 1]? = some (.cells (bcells (List.replicate 20 0)).toArray 55 (0, 0)) ∧ Below w.heap.size w wr

theorem heap3 (w : World) (a b x : Obj) :
    (((w.alloc a).alloc b).alloc x).heap[w.heap.size]? = some a ∧ (((w.alloc a).alloc b).alloc x).heap[w.heap.size + 1]? = some b ∧ (((w.alloc a).alloc b).alloc x).heap[w.heap.size + 1 + 1]? = some x ∧ Below w.heap.size w (((w.alloc a).alloc b).alloc x) := by
  refine ⟨?_, ?_, ?_, ((((Below.refl _ w).alloc (Nat.le_refl _) _).alloc (by simp) _).alloc (by simp; omega) _)⟩
  all_goals
    show (((w.heap.push a).push b).push x)[_]? = _
    simp only [Array.getElem?_push, Array.size_push]
    repeat (first | rw [if_pos trivial] | rw [if_pos (by omega)] | rw [if_neg (by omega)])

end Go.Proofs.Ytbfhfnbhfeedbaa
end
section
namespace Go.Proofs.Ytbfhfnbhfeedbaa
set_option maxRecDepth 100000
set_option maxHeartbeats 1000000
open Go.RowKit

theorem pfxN_at : ∀ (j : Nat) (xs ys : List UInt8), (∀ k, k < j → xs.getD k 0 = ys.getD k 0) → j < xs.length → j < ys.length → xs.getD j 0 ≠ ys.getD j 0 → pfxN xs ys = 8 * j + lz8 (xs.getD j 0 ^^^ ys.getD j 0)
  | 0, x :: xs, y :: ys, _, _, _, h => by
    have h : x ≠ y := h
    unfold pfxN
    rw [if_neg h]
    show _ = 8 * 0 + lz8 (x ^^^ y)
    omega
  | j + 1, x :: xs, y :: ys, hk, hx, hy, h => by
    have h0 : x = y := hk 0 (by omega)
    have ih := pfxN_at j xs ys (fun k hkj => hk (k + 1) (by omega)) (by simpa using hx) (by simpa using hy) h
    unfold pfxN
    rw [if_pos h0, ih]
    show _ = 8 * (j + 1) + lz8 (xs.getD j 0 ^^^ ys.getD j 0)
    omega
theorem eq_of_getD {xs ys : List UInt8} (h : xs.length = ys.length) (hk : ∀ k, k < xs.length → xs.getD k 0 = ys.getD k 0) : xs = ys := by
  apply List.ext_getElem h
  intro i h1 h2
  have := hk i h1
  simpa [List.getElem?_eq_getElem h1, List.getElem?_eq_getElem h2] using this
theorem quiet_l2 {P : Program} {f : FuncId} {args : Array Value} {w : World} {a n : Nat} {v : Value} (h : ∀ W, Calls P f args W fun e w' => e = .returned v ∧ W = w') : Calls P f args (w.drewN (a + n)) fun e w' => e = .returned v ∧ ∃ m, w' = w.drewN (a + m) :=
  (h _).mono (by rintro e w' ⟨rfl, rfl⟩; exact ⟨rfl, n, rfl⟩)

def PfxRel (w : World) (xs ys : List UInt8) (i : Value) (wr : World) : Prop :=
  ∃ j : Nat, j ≤ 20 ∧ i = .int .i64 (j : Int) ∧ (∀ k, k < j → xs.getD k 0 = ys.getD k 0) ∧ wr.heap[w.heap.size]? = some (.cells (bcells xs).toArray 55 (0, 0)) ∧ wr.heap[w.heap.size + 1]? = some (.cells (bcells ys).toArray 55 (0, 0)) ∧ Below w.heap.size w wr
theorem row_byte {w : World} {g : Nat} {xs : List UInt8} {ty : TypeId} (h : w.heap[g]? = some (.cells (bcells xs).toArray ty (0, 0))) (j : Nat) (hj : j < xs.length) : w.cell? ⟨g, j, none⟩ = some (.int .u8 ((xs.getD j 0).toNat : Int)) := by
  rw [cell_of_row w _ j _ ty (0, 0) h, List.getElem?_toArray, bcells_get xs j hj, List.getD_eq_getElem?_getD, List.getElem?_eq_getElem hj]
  rfl

end Go.Proofs.Ytbfhfnbhfeedbaa
end
