/- The walk of the law OctetBack: its pieces. Conditions: the arguments are values of their types. -/
import Derived.Test.YtcoiaddjfeaciaaMathc
import Derived.LoopTactic
namespace Go.Proofs.Ytcoiaddjfeaciaa
set_option maxRecDepth 100000
open Go.RowKit
set_option linter.unusedVariables false

/-- The address leads to the values f 0, f 1, .. (n of them), in a block below B. -/
def ValsAt (w : World) (B : Nat) (A : Option Addr) (n : Nat) (f : Nat → Value) : Prop :=
  n = 0 ∨ ∃ b off, A = some ⟨b, off, none⟩ ∧ b < B ∧ ∀ j, j < n → w.cell? ⟨b, off + j, none⟩ = some (f j)
theorem ValsAt.below {w w' : World} {B n : Nat} {A : Option Addr} {f : Nat → Value} (h : ValsAt w B A n f) (hb : Below B w w') : ValsAt w' B A n f := by
  rcases h with h | ⟨b, off, ha, hB, hc⟩
  · exact .inl h
  · exact .inr ⟨b, off, ha, hB, fun j hj => (hb.cell (p := ⟨b, off + j, none⟩) hB).trans (hc j hj)⟩

/-- A slice of bytes of the call's own, written out. -/
def OwnS (w W : World) (A : Option Addr) (c : Nat) (ys : List UInt8) : Prop := W.ownsRow w.heap.size 5 1 (.slice A ys.length c) ys.length (bcells ys)
theorem OwnS.below {w W W' : World} {A : Option Addr} {c B : Nat} {ys : List UInt8} (h : OwnS w W A c ys) (hb : Below B W W') (hB : W.heap.size ≤ B) : OwnS w W' A c ys := own_below h hb hB
theorem OwnS.bat {w W : World} {A : Option Addr} {c : Nat} {ys : List UInt8} (h : OwnS w W A c ys) : BAt W W.heap.size A ys := BAt.of_own h (Nat.le_refl _)
def PutS (w W : World) (zs : List UInt8) (e : Ending) (w' : World) : Prop :=
  ∃ A1 c1 ys', e = .returned (.slice A1 (ys' : List UInt8).length c1) ∧ Hid (ys' = zs) ∧ OwnS w w' A1 c1 ys' ∧ Below W.heap.size W w'
theorem put_sl {w W : World} {A : Option Addr} {c : Nat} {ys : List UInt8} (h : OwnS w W A c ys) (hw : w.heap.size ≤ W.heap.size) (N k : Nat) (hl : ys.length ≤ 900000) (hN : N < 18446744073709551616) (h1 : 1 ≤ k) (h8 : k ≤ 8) :
    Calls Try.prog 58 #[.slice A ys.length c, .int .u64 (N : Int), .int .i64 (k : Int)] W (PutS w W (ys ++ putB N k)) :=
  (put_yes A c N k ys W h.bat (by omega) hN h1 h8).mono fun e w' ⟨v, he, ho, hb⟩ => by
    obtain ⟨A1, c1, rfl⟩ := slice_of_own ho
    exact ⟨A1, c1, _, he, rfl, own_base ho hw, hb⟩
section
variable {w W W' : World} {g1 g2 : Nat}
variable {A : Option Addr} {c : Nat} {o : List UInt8}
end
end Go.Proofs.Ytcoiaddjfeaciaa
