/- A reader of package octet in memory, and contracts of the calls that read: Num, Take, Text, Left, Bad, Done. Conditions: the bytes that are left are fewer than 900,000. -/
import Derived.Test.YtjiiignbejbiiaaPTake
namespace Go.Proofs.Ytjiiignbejbiiaa
set_option maxRecDepth 100000
open Go.RowKit
set_option linter.unusedVariables false

/-- Where a slice lies from place k on, and up to a place. -/
def cutA (A : Option Addr) (c k : Nat) : Option Addr := if c = k then A else A.map (·.add k)
def headA (A : Option Addr) (c : Nat) : Option Addr := if c = 0 then A else A.map (·.add 0)

theorem addr_add (g off k : Nat) : (⟨g, off, none⟩ : Addr).add k = ⟨g, off + k, none⟩ := by
  unfold Addr.add
  split <;> simp_all

theorem BAt.cut {w : World} {B c k : Nat} {A : Option Addr} {ys : List UInt8} (h : BAt w B A ys) (hk : k ≤ ys.length) (hc : ys.length ≤ c) : BAt w B (cutA A c k) (ys.drop k) := by
  by_cases hn : ys.length = k
  · left
    exact List.drop_eq_nil_of_le (by omega)
  · obtain ⟨g, off, rfl, hg, hcell⟩ := h.some_ (by omega)
    right
    refine ⟨g, off + k, by unfold cutA; rw [if_neg (by omega), Option.map_some, addr_add], hg, fun j hj => ?_⟩
    rw [List.length_drop] at hj
    rw [Nat.add_assoc, hcell (k + j) (by omega), List.getElem_drop]
theorem BAt.head {w : World} {B c k : Nat} {A : Option Addr} {ys : List UInt8} (h : BAt w B A ys) (hc : ys.length ≤ c) : BAt w B (headA A c) (ys.take k) := by
  by_cases hn : (ys.take k).length = 0
  · left
    exact List.eq_nil_of_length_eq_zero hn
  · rw [List.length_take] at hn
    obtain ⟨g, off, rfl, hg, hcell⟩ := h.some_ (by omega)
    right
    refine ⟨g, off, by unfold headA; rw [if_neg (by omega), Option.map_some, addr_add, Nat.add_zero], hg, fun j hj => ?_⟩
    rw [List.length_take] at hj
    rw [hcell j (by omega), List.getElem_take]

theorem size5 (W : World) : (sizeOf (Try.prog.elem 29)).run Try.prog W = .ok 1 W := by
  obtain ⟨i0, hi, hz0, hz1, hz2⟩ := info_parts info5
  have : Try.prog.elem 29 = 5 := by kernel_rfl
  rw [this]
  simp [sizeOf, typeInfo, hi, hz1]
theorem under22 : Try.prog.underlying 29 = some (.slice (Try.prog.elem 29)) := by kernel_rfl

theorem run_cut (A : Option Addr) (n c k : Nat) (hk : k ≤ n) (W : World) :
    (Instr.slice 29 (.slice A n c) (some (.int .i64 (k : Int))) none none).run Try.prog W = .ok (.slice (cutA A c k) (n - k) (c - k)) W := by
  rw [run_slice_l W 29 A n c under22 .i64 k (by omega) (by omega), size5]
  simp [Result.andThen, sliced, cutA]
theorem run_head (A : Option Addr) (n c k : Nat) (hk : k ≤ c) (W : World) :
    (Instr.slice 29 (.slice A n c) none (some (.int .i64 (k : Int))) none).run Try.prog W = .ok (.slice (headA A c) k c) W := by
  rw [run_slice_h W 29 A n c under22 .i64 k (by omega) (by omega), size5]
  simp [Result.andThen, sliced, headA]

theorem grownBy_setCell {w w1 : World} {g : Nat} (h : w.grownBy w1 (some g)) (j : Nat) (u : Value) : w.grownBy (w1.setCell ⟨g, j, none⟩ u) (some g) :=
  ⟨h.os, h.tape, h.output, by simpa [World.setCell] using h.size, fun i hi hne => (Below.heap_setCell w1 ⟨g, j, none⟩ u i (by rintro rfl; exact hne rfl)).trans (h.block i hi hne)⟩

theorem BAt.set {w : World} {B g j : Nat} {A : Option Addr} {ys : List UInt8} (h : BAt w B A ys) (u : Value) (hne : ∀ g' off, A = some ⟨g', off, none⟩ → ys ≠ [] → g' ≠ g) : BAt (w.setCell ⟨g, j, none⟩ u) B A ys := by
  rcases h with rfl | ⟨g', off, rfl, hg, hc⟩
  · exact .inl rfl
  · by_cases hy : ys = []
    · exact .inl hy
    · exact .inr ⟨g', off, rfl, hg, fun i hi => (World.cell?_setCell_other w _ _ u (fun e => by
        have := hne g' off rfl hy
        simp only [Addr.mk.injEq] at e
        exact this e.1.symm)).trans (hc i hi)⟩

end Go.Proofs.Ytjiiignbejbiiaa
