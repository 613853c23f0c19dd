/- Contracts of the reader of the reference: Left, fail, Done, Num. Conditions: the bytes are fewer than 900,000; a number that comes in is an int. -/
import Derived.Test.YteglihgoccemmaaRdrd
import Derived.Test.YteglihgoccemmaaTakeh
import Derived.Deep.QuietTactic
import Derived.BigQuiet
namespace Go.Proofs.Yteglihgoccemmaa
open Go.RowKit
set_option linter.unusedVariables false

/-- The reference's reader in block h: where one is, and whether it is bad. -/
def RRd (w : World) (h : Nat) (A : Option Addr) (c : Nat) (xs : List UInt8) (k : Nat) (bad : Bool) : Prop :=
  w.heap[h]? = some (.cells #[.slice A xs.length c, .int .i64 (k : Int), .bool bad] 39 (0, 0)) ∧ BAt w w.heap.size A xs ∧ k ≤ xs.length ∧ xs.length ≤ c ∧ xs.length ≤ 900000 ∧ (bad = true → k = xs.length)

section
variable {w w' : World} {h : Nat} {A : Option Addr} {c : Nat} {xs : List UInt8} {k : Nat} {bad : Bool}
theorem RRd.cells (r : RRd w h A c xs k bad) : w.cell? ⟨h, 0, none⟩ = some (.slice A xs.length c) ∧ w.cell? ⟨h, 1, none⟩ = some (.int .i64 (k : Int)) ∧ w.cell? ⟨h, 2, none⟩ = some (.bool bad) ∧ (∀ i, w.frozen? ⟨h, i, none⟩ = false) := by
  have c0 := cell_of_row w h 0 _ 39 (0, 0) r.1
  have c1 := cell_of_row w h 1 _ 39 (0, 0) r.1
  have c2 := cell_of_row w h 2 _ 39 (0, 0) r.1
  simp at c0 c1 c2
  exact ⟨c0, c1, c2, fun i => frozen_of_row w h i _ 39 r.1⟩
theorem RRd.drewN (r : RRd w h A c xs k bad) (n : Nat) : RRd (w.drewN n) h A c xs k bad := r
theorem RRd.lt (r : RRd w h A c xs k bad) : h < w.heap.size := (Array.getElem?_eq_some_iff.1 r.1).1
theorem RRd.below {B : Nat} (r : RRd w h A c xs k bad) (hb : Below B w w') (hB : w.heap.size ≤ B) : RRd w' h A c xs k bad :=
  ⟨(hb.block h (Nat.lt_of_lt_of_le r.lt hB)).trans r.1, (r.2.1.below (hb.mono hB)).more hb.size, r.2.2⟩
theorem grownBy_drewN (n : Nat) (row : Option Nat) : w.grownBy (w.drewN n) row := ⟨rfl, rfl, rfl, Nat.le_refl _, fun _ _ _ => rfl⟩

theorem rleft_any (r : RRd w h A c xs k bad) : Calls Try.prog 26 #[.pointer (some ⟨h, 0, none⟩)] w fun e w' => e = .returned (.int .i64 ((xs.length - k : Nat) : Int)) ∧ ∃ n, w' = w.drewN n := by
  obtain ⟨c0, c1, c2, f⟩ := r.cells
  obtain ⟨_, _, hk, hc, hl, _⟩ := r
  have e1 : ((xs.length - k : Nat) : Int) = (xs.length : Int) - (k : Int) := by omega
  rw [e1]
  have hk' : (k : Int) ≤ (xs.length : Int) := by omega
  clear e1
  go_enter Try.func26, Try.ntmps26
  go_wp2
  go_quiet (fail)
  go_wp2
  go_ret
  exact ⟨rfl, nq, rfl⟩

theorem rfail_any (r : RRd w h A c xs k bad) : Calls Try.prog 46 #[.pointer (some ⟨h, 0, none⟩)] w fun e w' => e = .returned (.tuple #[]) ∧ RRd w' h A c xs xs.length true ∧ w.grownBy w' (some h) := by
  obtain ⟨c0, c1, c2, f⟩ := r.cells
  have R : RRd ((w.setCell ⟨h, 2, none⟩ (.bool true)).setCell ⟨h, 1, none⟩ (.int .i64 (xs.length : Int))) h A c xs xs.length true := by
    obtain ⟨hh, hx, hk, hc, hl, _⟩ := r
    have s0 := heap_setCell_same w h 2 _ 39 (.bool true) hh
    have s1 := heap_setCell_same _ h 1 _ 39 (.int .i64 (xs.length : Int)) s0
    refine ⟨by simpa using s1, ?_, Nat.le_refl _, hc, hl, fun _ => rfl⟩
    have hne := hx.ne hh (by simp) (by simp) (by simp)
    have := (hx.set (j := 2) (.bool true) hne).set (j := 1) (.int .i64 (xs.length : Int)) hne
    simpa [World.setCell] using this
  have HR := Lib.hid R
  have hl : xs.length ≤ 900000 := r.2.2.2.2.1
  clear r R
  go_enter Try.func46, Try.ntmps46
  go_wp2
  go_end0
  exact ⟨rfl, HR.out, grownBy_setCell (grownBy_setCell (World.grownBy.refl w _) _ _) _ _⟩

theorem rdone_any (r : RRd w h A c xs k bad) : Calls Try.prog 29 #[.pointer (some ⟨h, 0, none⟩)] w fun e w' => e = .returned (.int .i64 (doneE ⟨xs.drop k, bad⟩)) ∧ ∃ n, w' = w.drewN n := by
  obtain ⟨c0, c1, c2, f⟩ := r.cells
  have HL := Lib.hid (rleft_any r)
  have hl : xs.length ≤ 900000 := r.2.2.2.2.1
  have e1 : (xs.drop k).length = xs.length - k := by rw [List.length_drop]
  unfold doneE
  simp only [e1]
  generalize hm : xs.length - k = m at HL ⊢
  have hm' : m ≤ 900000 := by omega
  clear r e1 hm hl
  by_cases hb : bad = true
  · subst hb
    rw [if_pos (.inl rfl)]
    go_enter Try.func29, Try.ntmps29
    go_wp2_with (go_at_call 26; refine (HL.out).mono ?_; rintro e w1 ⟨rfl, n1, rfl⟩)
    go_ret
    exact ⟨rfl, 0, rfl⟩
  · have hb' : bad = false := by simpa using hb
    subst hb'
    by_cases hp : 0 < m
    · rw [if_pos (.inr hp)]
      clear hb
      have d : decide ((0 : Int) < (m : Int)) = true := by simpa using hp
      go_enter Try.func29, Try.ntmps29
      go_wp2_with (go_at_call 26; refine (HL.out).mono ?_; rintro e w1 ⟨rfl, n1, rfl⟩)
      go_ret
      exact ⟨rfl, n1, rfl⟩
    · rw [if_neg (fun h => h.elim hb hp)]
      clear hb
      have d : decide ((0 : Int) < (m : Int)) = false := by simpa using hp
      go_enter Try.func29, Try.ntmps29
      go_wp2_with (go_at_call 26; refine (HL.out).mono ?_; rintro e w1 ⟨rfl, n1, rfl⟩)
      go_ret
      exact ⟨rfl, n1, rfl⟩

/-- The reference's reader as s says, over the bytes xs. -/
def RRS (w : World) (h : Nat) (A : Option Addr) (c : Nat) (xs : List UInt8) (s : St) : Prop := ∃ k, RRd w h A c xs k s.bad ∧ s.ys = xs.drop k
def RNumP (w : World) (h : Nat) (A : Option Addr) (c : Nat) (xs : List UInt8) (s : St) (wd : Int) (e : Ending) (w' : World) : Prop := e = .returned (.int .u64 (numV s wd : Int)) ∧ RRS w' h A c xs (numS s wd) ∧ w.grownBy w' (some h)

theorem RRS.failed (r : RRd w h A c xs xs.length true) : RRS w h A c xs ⟨[], true⟩ := ⟨xs.length, r, by simp⟩

theorem rrnum_any (r : RRd w h A c xs k bad) (wd : Int) (hw : wd ≤ 9223372036854775807) : Calls Try.prog 20 #[.pointer (some ⟨h, 0, none⟩), .int .i64 wd] w (RNumP w h A c xs ⟨xs.drop k, bad⟩ wd) := by
  obtain ⟨c0, c1, c2, f⟩ := r.cells
  have hx := r.2.1
  have hl : xs.length ≤ 900000 := r.2.2.2.2.1
  have hk : k ≤ xs.length := r.2.2.1
  have HF := Lib.hid (fun n => rfail_any (r.drewN n))
  have HG := Lib.hid (fun n => (rget_any A c xs (k : Int) wd (w.drewN n) hx hl (by omega) hw).mono (fun _ _ hh => And.intro hh.1 hh.2.symm))
  by_cases hok : numOk ⟨xs.drop k, bad⟩ wd
  · obtain ⟨hb, h1, h8, hle⟩ := id hok
    simp only [List.length_drop] at hb hle
    subst hb
    obtain ⟨d, rfl⟩ : ∃ d : Nat, wd = d := ⟨wd.toNat, by omega⟩
    have e1 : getI xs (k : Int) (d : Int) = (getN ((xs.drop k).take d), true) := by
      unfold getI
      rw [if_pos (by omega)]
      simp
    rw [e1] at HG
    have R : ∀ n w', (w.drewN n).setCell ⟨h, 1, none⟩ (.int .i64 ((k : Int) + (d : Int))) = w' → RNumP w h A c xs ⟨xs.drop k, false⟩ d (.returned (.int .u64 (getN ((xs.drop k).take d) : Int))) w' := by
      rintro n w' rfl
      refine ⟨by simp [numV, hok], ?_, grownBy_setCell (grownBy_drewN n _) _ _⟩
      simp only [numS, if_pos hok, Int.toNat_natCast]
      obtain ⟨hh, hx, hk, hc, hl, hbk⟩ := r
      refine ⟨k + d, ⟨?_, ?_, by omega, hc, hl, by simp⟩, by rw [List.drop_drop]⟩
      · have s1 := heap_setCell_same (w.drewN n) h 1 _ 39 (.int .i64 ((k : Int) + (d : Int))) hh
        have e2 : ((k + d : Nat) : Int) = (k : Int) + (d : Int) := by omega
        rw [e2]
        simpa using s1
      · have hne := hx.ne hh (by simp) (by simp) (by simp)
        have := (hx.drewN n).set (j := 1) (.int .i64 ((k : Int) + (d : Int))) hne
        simpa [World.setCell] using this
    have HR := Lib.hid R
    have dle : (k : Int) + (d : Int) ≤ (xs.length : Int) := by omega
    clear r hx HF hok h1 h8 e1 R hle
    go_enter Try.func20, Try.ntmps20
    go_wp2
    go_quiet ((go_at_call 13; exact Calls.quiet_of_same (HG.out _)))
    go_wp2
    go_ret
    exact HR.out _ _ rfl
  · have e1 : getI xs (k : Int) wd = (0, false) := by
      unfold getI
      rw [if_neg]
      rintro ⟨q1, q2, q3, q4⟩
      by_cases hb : bad = true
      · have := r.2.2.2.2.2 hb
        omega
      · exact hok ⟨by simpa using hb, q1, q2, by simp only [List.length_drop]; omega⟩
    rw [e1] at HG
    have R : ∀ n w', RRd w' h A c xs xs.length true → (w.drewN n).grownBy w' (some h) → RNumP w h A c xs ⟨xs.drop k, bad⟩ wd (.returned (.int .u64 0)) w' := fun n w' q1 q2 =>
      ⟨by simp [numV, hok], by simp only [numS, if_neg hok]; exact RRS.failed q1, grownBy_trans (grownBy_drewN n _) q2⟩
    have HR := Lib.hid R
    clear r hx e1 R hok
    cases bad
    · go_enter Try.func20, Try.ntmps20
      go_wp2
      go_quiet ((go_at_call 13; exact Calls.quiet_of_same (HG.out _)))
      go_wp2_with (go_at_call 46; refine (HF.out _).mono ?_; rintro e w1 ⟨rfl, hr1, hg1⟩)
      go_ret
      exact HR.out _ _ hr1 hg1
    · go_enter Try.func20, Try.ntmps20
      go_wp2
      go_quiet ((go_at_call 13; exact Calls.quiet_of_same (HG.out _)))
      go_wp2_with (go_at_call 46; refine (HF.out _).mono ?_; rintro e w1 ⟨rfl, hr1, hg1⟩)
      go_ret
      exact HR.out _ _ hr1 hg1
end
end Go.Proofs.Yteglihgoccemmaa
