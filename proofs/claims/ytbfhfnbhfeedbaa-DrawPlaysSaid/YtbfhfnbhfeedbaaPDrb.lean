/- Contracts of the source of the reference (layer 7): Left, Byte, Word. Conditions: the bytes are at most 900,000. -/
import Derived.Test.YtbfhfnbhfeedbaaPPSci
import Derived.Deep.QuietTactic
import Derived.BigQuiet
namespace Go.Proofs.Ytbfhfnbhfeedbaa
set_option maxRecDepth 100000
open Go.RowKit

theorem grownBy_setCell {w w1 : World} {g : Nat} (h : w.grownBy w1 (some g)) (j : Nat) (u : Value) : w.grownBy (w1.setCell ⟨g, j, none⟩ u) (some g) :=
  ⟨h.os, h.tape, h.output, by simpa [World.setCell] using h.size, fun i hi hne => (Below.heap_setCell w1 ⟨g, j, none⟩ u i (by rintro rfl; exact hne rfl)).trans (h.block i hi hne)⟩
theorem grownBy_trans {a b c : World} {row : Option Nat} (h : a.grownBy b row) (k : b.grownBy c row) : a.grownBy c row :=
  ⟨k.os.trans h.os, k.tape.trans h.tape, k.output.trans h.output, Nat.le_trans h.size k.size, fun i hi hn => (k.block i (Nat.lt_of_lt_of_le hi h.size) hn).trans (h.block i hi hn)⟩
theorem grownBy_drewN {w : World} (n : Nat) (row : Option Nat) : w.grownBy (w.drewN n) row := ⟨rfl, rfl, rfl, Nat.le_refl _, fun _ _ _ => rfl⟩
/-- What lies in bytes lies in no block of a source. -/
theorem BAt.ne2 {w : World} {B g : Nat} {A : Option Addr} {ys : List UInt8} {a b : Value} {t : TypeId} (h : BAt w B A ys) (hg : w.heap[g]? = some (.cells #[a, b] t (0, 0)))
    (ha : ∀ n, a ≠ .int .u8 n) (hb : ∀ n, b ≠ .int .u8 n) : ∀ g' off, A = some ⟨g', off, none⟩ → ys ≠ [] → g' ≠ g := by
  rintro g' off rfl hy rfl
  rcases h with e | ⟨g2, off2, he, _, hcell⟩
  · exact hy e
  injection he with he
  injection he with h1 h2
  subst h1 h2
  have hp : 0 < ys.length := List.length_pos_iff.2 hy
  have := hcell 0 hp
  rw [cell_of_row w g' _ _ t (0, 0) hg, Nat.add_zero] at this
  match off, this with
  | 0, this => simp at this; exact ha _ this
  | 1, this => simp at this; exact hb _ this
  | n + 2, this => simp at this

/-- The reference's source in block h: its bytes, and where one is. -/
def RSrc (w : World) (h : Nat) (A : Option Addr) (c : Nat) (xs : List UInt8) (k : Nat) : Prop :=
  w.heap[h]? = some (.cells #[.slice A xs.length c, .int .i64 (k : Int)] 29 (0, 0)) ∧ BAt w w.heap.size A xs ∧ k ≤ xs.length ∧ xs.length ≤ 900000

section
variable {w w' : World} {h : Nat} {A : Option Addr} {c : Nat} {xs : List UInt8} {k : Nat}
theorem RSrc.cells (r : RSrc w h A c xs k) : w.cell? ⟨h, 0, none⟩ = some (.slice A xs.length c) ∧ w.cell? ⟨h, 1, none⟩ = some (.int .i64 (k : Int)) ∧ (∀ i, w.frozen? ⟨h, i, none⟩ = false) := by
  have c0 := cell_of_row w h 0 _ 29 (0, 0) r.1
  have c1 := cell_of_row w h 1 _ 29 (0, 0) r.1
  simp at c0 c1
  exact ⟨c0, c1, fun i => frozen_of_row w h i _ 29 r.1⟩
theorem RSrc.drewN (r : RSrc w h A c xs k) (n : Nat) : RSrc (w.drewN n) h A c xs k := r
theorem RSrc.lt (r : RSrc w h A c xs k) : h < w.heap.size := (Array.getElem?_eq_some_iff.1 r.1).1
theorem RSrc.below {B : Nat} (r : RSrc w h A c xs k) (hb : Below B w w') (hB : w.heap.size ≤ B) : RSrc w' h A c xs k :=
  ⟨(hb.block h (Nat.lt_of_lt_of_le r.lt hB)).trans r.1, (r.2.1.below (hb.mono hB)).more hb.size, r.2.2⟩
theorem RSrc.moved (r : RSrc w h A c xs k) {m : Nat} (hm : m ≤ xs.length) : RSrc (w.setCell ⟨h, 1, none⟩ (.int .i64 (m : Int))) h A c xs m := by
  obtain ⟨hh, hx, hk, hl⟩ := r
  have s1 := heap_setCell_same w h 1 _ 29 (.int .i64 (m : Int)) hh
  refine ⟨by simpa using s1, ?_, hm, hl⟩
  have hne := hx.ne2 hh (by simp) (by simp)
  have := hx.set (j := 1) (.int .i64 (m : Int)) hne
  simpa [World.setCell] using this

theorem rleft_any (r : RSrc w h A c xs k) : Calls Try.prog 24 #[.pointer (some ⟨h, 0, none⟩)] w fun e w' => e = .returned (.int .i64 ((xs.length - k : Nat) : Int)) ∧ ∃ n, w' = w.drewN n := by
  obtain ⟨c0, c1, f⟩ := r.cells
  obtain ⟨_, _, hk, hl⟩ := r
  have e1 : ((xs.length - k : Nat) : Int) = (xs.length : Int) - (k : Int) := by omega
  rw [e1]
  have hk' : (k : Int) ≤ (xs.length : Int) := by omega
  clear e1
  go_enter Try.func24, Try.ntmps24
  go_wp2
  go_quiet (fail)
  go_wp2
  go_ret
  exact ⟨rfl, nq, rfl⟩

/-- What Byte tells, and leaves. -/
def RByteP (w : World) (h : Nat) (A : Option Addr) (c : Nat) (xs : List UInt8) (k : Nat) (e : Ending) (w' : World) : Prop :=
  e = .returned (.int .u8 (((xs.drop k).headD 0).toNat : Int)) ∧ RSrc w' h A c xs (min (k + 1) xs.length) ∧ w.grownBy w' (some h)
theorem rbyte_end (r : RSrc w h A c xs xs.length) : Calls Try.prog 13 #[.pointer (some ⟨h, 0, none⟩)] w (RByteP w h A c xs xs.length) := by
  obtain ⟨c0, c1, f⟩ := r.cells
  have hl := r.2.2.2
  have R : ∀ n, RByteP w h A c xs xs.length (.returned (.int .u8 0)) (w.drewN n) := fun n => ⟨by simp, by rw [Nat.min_eq_right (by omega)]; exact r.drewN n, grownBy_drewN n _⟩
  have HR := Lib.hid R
  clear r R
  go_enter Try.func13, Try.ntmps13
  go_wp2
  go_quiet (fail)
  go_wp2
  go_ret
  exact HR.out nq
theorem rbyte_more (r : RSrc w h A c xs k) (hk : k < xs.length) : Calls Try.prog 13 #[.pointer (some ⟨h, 0, none⟩)] w (RByteP w h A c xs k) := by
  obtain ⟨c0, c1, f⟩ := r.cells
  have hl := r.2.2.2
  have hne := r.2.1.ne2 r.1 (by simp) (by simp)
  obtain ⟨g', off, rfl, hg, hcell⟩ : ∃ g off, A = some ⟨g, off, none⟩ ∧ g < w.heap.size ∧ ∀ j (h : j < xs.length), w.cell? ⟨g, off + j, none⟩ = some (.int .u8 (xs[j].toNat : Int)) := by
    rcases r.2.1 with e | x
    · subst e; simp at hk
    · exact x
  have hgh : g' ≠ h := hne g' off rfl (by intro e; subst e; simp at hk)
  have hc := hcell k hk
  have hd : ((xs.drop k).headD 0) = xs[k] := by rw [List.drop_eq_getElem_cons hk]; rfl
  have hk' : ¬ (xs.length : Int) ≤ (k : Int) := by omega
  have R : ∀ n m w', ((w.drewN n).setCell ⟨h, 1, none⟩ (.int .i64 ((k : Int) + 1))).drewN m = w' → RByteP w h (some ⟨g', off, none⟩) c xs k (.returned (.int .u8 (xs[k].toNat : Int))) w' := by
    rintro n m w' rfl
    have e : ((k : Int) + 1) = ((k + 1 : Nat) : Int) := by omega
    rw [e]
    exact ⟨by rw [hd], by rw [Nat.min_eq_left (by omega)]; exact ((r.drewN n).moved (by omega)).drewN m, grownBy_trans (grownBy_setCell (grownBy_drewN n _) _ _) (grownBy_drewN m _)⟩
  have HR := Lib.hid R
  have hc2 : ∀ n, ((w.drewN n).setCell ⟨h, 1, none⟩ (.int .i64 ((k : Int) + 1))).cell? ⟨g', off + k, none⟩ = some (.int .u8 (xs[k].toNat : Int)) := fun n => (World.cell?_setCell_other (w.drewN n) _ _ _ (by intro e; simp only [Addr.mk.injEq] at e; exact hgh e.1.symm)).trans hc
  have HS : Hid (∀ n, ((w.drewN n).setCell ⟨h, 1, none⟩ (.int .i64 ((k : Int) + 1))).cell? ⟨h, 0, none⟩ = some (.slice (some ⟨g', off, none⟩) xs.length c) ∧ ((w.drewN n).setCell ⟨h, 1, none⟩ (.int .i64 ((k : Int) + 1))).cell? ⟨h, 1, none⟩ = some (.int .i64 ((k : Int) + 1))) := Lib.hid (fun n => by
    have e : ((k : Int) + 1) = ((k + 1 : Nat) : Int) := by omega
    rw [e]
    have := ((r.drewN n).moved (m := k + 1) (by omega)).cells
    exact ⟨this.1, this.2.1⟩)
  clear hne hcell hd R r hg
  generalize xs[k].toNat = x at *
  go_enter Try.func13, Try.ntmps13
  go_wp2
  go_quiet (fail)
  go_wp2
  have d0 : ((w.drewN nq).setCell ⟨h, 1, none⟩ (.int .i64 ((k : Int) + 1))).cell? ⟨h, 0, none⟩ = some (.slice (some ⟨g', off, none⟩) xs.length c) := (HS.out nq).1
  have d1 : ((w.drewN nq).setCell ⟨h, 1, none⟩ (.int .i64 ((k : Int) + 1))).cell? ⟨h, 1, none⟩ = some (.int .i64 ((k : Int) + 1)) := (HS.out nq).2
  have d2 := hc2 nq
  replace HR := Lib.hid (HR.out nq)
  generalize (w.drewN nq).setCell ⟨h, 1, none⟩ (.int .i64 ((k : Int) + 1)) = W1 at d0 d1 d2 HR ⊢
  clear hc2 hc c0 c1 f HS
  go_quiet (fail)
  go_wp2
  go_ret
  exact HR.out _ _ rfl
end
end Go.Proofs.Ytbfhfnbhfeedbaa
