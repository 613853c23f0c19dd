/- A reader of the program and one of the reference side by side in memory. Conditions: the bytes are fewer than 900,000; a number that comes in is an int. -/
import Derived.Test.YteglihgoccemmaaRefc
namespace Go.Proofs.Yteglihgoccemmaa
open Go.RowKit
set_option linter.unusedVariables false

section
variable {w w' : World} {g h : Nat} {A : Option Addr} {c : Nat} {xs : List UInt8} {s s1 s2 : St}

theorem BAt.grown {B x : Nat} {ys : List UInt8} (hx : BAt w B A ys) (hB : B ≤ w.heap.size) (hg : w.grownBy w' (some x)) (hne : ∀ g' off, A = some ⟨g', off, none⟩ → ys ≠ [] → g' ≠ x) : BAt w' B A ys := by
  by_cases hy : ys = []
  · exact .inl hy
  · obtain ⟨g', off, rfl, hlt, hc⟩ := hx.some_ (List.length_pos_iff.2 hy)
    exact .inr ⟨g', off, rfl, hlt, fun j hj => hg.cell (hc j hj) (fun e => hne g' off rfl hy (by injection e))⟩

theorem RdrS.other (r : RdrS w g s) {a b d : Value} {t : TypeId} (hh : w.heap[h]? = some (.cells #[a, b, d] t (0, 0))) (ha : ∀ n, a ≠ .int .u8 n) (hb : ∀ n, b ≠ .int .u8 n) (hd : ∀ n, d ≠ .int .u8 n)
    (hg : w.grownBy w' (some h)) (hne : g ≠ h) : RdrS w' g s :=
  r.keep (hg.block g r.lt (fun e => hne (by injection e))) hg.size fun A hx => hx.grown (Nat.le_refl _) hg (hx.ne hh ha hb hd)

theorem RRS.cells (r : RRS w h A c xs s) : ∃ k : Nat, w.heap[h]? = some (.cells #[.slice A xs.length c, .int .i64 (k : Int), .bool s.bad] 39 (0, 0)) := by
  obtain ⟨k, hr, _⟩ := r
  exact ⟨k, hr.1⟩
theorem RRS.other (r : RRS w h A c xs s) {a b d : Value} {t : TypeId} (hh : w.heap[g]? = some (.cells #[a, b, d] t (0, 0))) (ha : ∀ n, a ≠ .int .u8 n) (hb : ∀ n, b ≠ .int .u8 n) (hd : ∀ n, d ≠ .int .u8 n)
    (hg : w.grownBy w' (some g)) (hne : g ≠ h) : RRS w' h A c xs s := by
  obtain ⟨k, hr, hy⟩ := r
  exact ⟨k, ⟨(hg.block h hr.lt (fun e => hne (by injection e; omega))).trans hr.1, (hr.2.1.grown (Nat.le_refl _) hg (hr.2.1.ne hh ha hb hd)).more hg.size, hr.2.2⟩, hy⟩
theorem RRS.below {B : Nat} (r : RRS w h A c xs s) (hb : Below B w w') (hB : w.heap.size ≤ B) : RRS w' h A c xs s := by
  obtain ⟨k, hr, hy⟩ := r
  exact ⟨k, hr.below hb hB, hy⟩

/-- Both readers, and what was there first. -/
def Pair (w0 : World) (g h : Nat) (A : Option Addr) (c : Nat) (xs : List UInt8) (w : World) (s1 s2 : St) : Prop :=
  RdrS w g s1 ∧ RRS w h A c xs s2 ∧ Below w0.heap.size w0 w ∧ w0.heap.size ≤ g ∧ w0.heap.size ≤ h ∧ g ≠ h

variable {w0 : World}
theorem Pair.left (p : Pair w0 g h A c xs w s1 s2) {s1' : St} (hr : RdrS w' g s1') (hg : w.grownBy w' (some g)) : Pair w0 g h A c xs w' s1' s2 := by
  obtain ⟨p1, p2, p3, p4, p5, p6⟩ := p
  obtain ⟨A1, c1, q, _⟩ := p1.cells
  exact ⟨hr, p2.other q (by simp) (by simp) (by simp) hg p6, p3.grown hg p3.size (fun b hb => by injection hb with hb; omega), p4, p5, p6⟩
theorem Pair.right (p : Pair w0 g h A c xs w s1 s2) {s2' : St} (hr : RRS w' h A c xs s2') (hg : w.grownBy w' (some h)) : Pair w0 g h A c xs w' s1 s2' := by
  obtain ⟨p1, p2, p3, p4, p5, p6⟩ := p
  obtain ⟨k, q⟩ := p2.cells
  exact ⟨p1.other q (by simp) (by simp) (by simp) hg p6, hr, p3.grown hg p3.size (fun b hb => by injection hb with hb; omega), p4, p5, p6⟩
theorem Pair.below {B : Nat} (p : Pair w0 g h A c xs w s1 s2) (hb : Below B w w') (hB : w.heap.size ≤ B) : Pair w0 g h A c xs w' s1 s2 := by
  obtain ⟨p1, p2, p3, p4, p5, p6⟩ := p
  exact ⟨p1.below hb hB, p2.below hb hB, p3.trans (hb.mono (by have := p3.size; omega)), p4, p5, p6⟩
theorem Pair.drewN (p : Pair w0 g h A c xs w s1 s2) (n : Nat) : Pair w0 g h A c xs (w.drewN n) s1 s2 :=
  p.below (B := w.heap.size) ⟨rfl, rfl, rfl, Nat.le_refl _, fun _ _ => rfl⟩ (Nat.le_refl _)

theorem St.eta (s : St) {k : Nat} {bad : Bool} (h1 : s.ys = xs.drop k) (h2 : s.bad = bad) : s = ⟨xs.drop k, bad⟩ := by
  cases s
  simp only at h1 h2
  rw [h1, h2]

theorem num_pair (p : Pair w0 g h A c xs w s1 s2) (n : Int) (hn : n ≤ 9223372036854775807) :
    Calls Try.prog 19 #[.pointer (some ⟨g, 0, none⟩), .int .i64 n] w fun e w' => e = .returned (.int .u64 (numV s1 n : Int)) ∧ Pair w0 g h A c xs w' (numS s1 n) s2 ∧ w.grownBy w' (some g) :=
  (num_any p.1 n hn).mono fun _ _ ⟨he, hr, hg⟩ => ⟨he, p.left hr hg, hg⟩
theorem rnum_pair (p : Pair w0 g h A c xs w s1 s2) (n : Int) (hn : n ≤ 9223372036854775807) :
    Calls Try.prog 20 #[.pointer (some ⟨h, 0, none⟩), .int .i64 n] w fun e w' => e = .returned (.int .u64 (numV s2 n : Int)) ∧ Pair w0 g h A c xs w' s1 (numS s2 n) ∧ w.grownBy w' (some h) := by
  obtain ⟨k, hr, hy⟩ := p.2.1
  have e1 := St.eta s2 hy rfl
  refine (rrnum_any hr n hn).mono fun e w' ⟨he, hr', hg⟩ => ?_
  rw [← e1] at he hr'
  exact ⟨he, p.right hr' hg, hg⟩
theorem text_pair (p : Pair w0 g h A c xs w s1 s2) (n : Int) (hn : n ≤ 9223372036854775807) :
    Calls Try.prog 23 #[.pointer (some ⟨g, 0, none⟩), .int .i64 n] w fun e w' => e = .returned (.string (bstr (txtV s1 n))) ∧ Pair w0 g h A c xs w' (txtS s1 n) s2 ∧ w.grownBy w' (some g) :=
  (rdText_any p.1 n hn).mono fun _ _ ⟨he, hr, hg⟩ => ⟨he, p.left hr hg, hg⟩
theorem rtext_pair (p : Pair w0 g h A c xs w s1 s2) (n : Int) (hn : n ≤ 9223372036854775807) :
    Calls Try.prog 24 #[.pointer (some ⟨h, 0, none⟩), .int .i64 n] w fun e w' => e = .returned (.string (bstr (txtV s2 n))) ∧ Pair w0 g h A c xs w' s1 (txtS s2 n) ∧ w.grownBy w' (some h) := by
  obtain ⟨k, hr, hy⟩ := p.2.1
  have e1 := St.eta s2 hy rfl
  refine (rrtext_any hr n hn).mono fun e w' ⟨he, hr', hg⟩ => ?_
  rw [← e1] at he hr'
  exact ⟨he, p.right hr' hg, hg⟩
/-- What Take leaves, of whichever reader: an answer that reads as the string S here and later as long as only block x, older than it, is written. -/
def TakeQ (w w' : World) (x : Nat) (X : List UInt8) (e : Ending) : Prop := ∃ v, e = .returned v ∧ w'.ownsRow w.heap.size 5 1 v X.length (bcells X) ∧ w.grownBy w' (some x)
theorem take_pair (p : Pair w0 g h A c xs w s1 s2) (n : Int) (hn : n ≤ 9223372036854775807) :
    Calls Try.prog 21 #[.pointer (some ⟨g, 0, none⟩), .int .i64 n] w fun e w' => TakeQ w w' g (takeV s1 n) e ∧ Pair w0 g h A c xs w' (takeS s1 n) s2 :=
  (take_any p.1 n hn).mono fun _ _ ⟨v, he, ho, hr, hg⟩ => ⟨⟨v, he, ho, hg⟩, p.left hr hg⟩
theorem rtake_pair (p : Pair w0 g h A c xs w s1 s2) (n : Int) (hn : n ≤ 9223372036854775807) :
    Calls Try.prog 22 #[.pointer (some ⟨h, 0, none⟩), .int .i64 n] w fun e w' => TakeQ w w' h (takeV s2 n) e ∧ Pair w0 g h A c xs w' s1 (takeS s2 n) := by
  obtain ⟨k, hr, hy⟩ := p.2.1
  have e1 := St.eta s2 hy rfl
  refine (rrtake_any hr n hn).mono fun e w' ⟨v, he, ho, hr', hg⟩ => ?_
  rw [← e1] at ho hr'
  exact ⟨⟨v, he, ho, hg⟩, p.right hr' hg⟩

theorem left_pair (p : Pair w0 g h A c xs w s1 s2) : Calls Try.prog 25 #[.pointer (some ⟨g, 0, none⟩)] w fun e w' => e = .returned (.int .i64 (s1.ys.length : Int)) ∧ w' = w := (left_any p.1).mono fun _ _ hh => ⟨hh.1, hh.2.symm⟩
theorem bad_pair (p : Pair w0 g h A c xs w s1 s2) : Calls Try.prog 27 #[.pointer (some ⟨g, 0, none⟩)] w fun e w' => e = .returned (.bool s1.bad) ∧ w' = w := (bad_any p.1).mono fun _ _ hh => ⟨hh.1, hh.2.symm⟩
theorem done_pair (p : Pair w0 g h A c xs w s1 s2) : Calls Try.prog 28 #[.pointer (some ⟨g, 0, none⟩)] w fun e w' => e = .returned (.int .i64 (doneE s1)) ∧ w' = w := (done_any p.1).mono fun _ _ hh => ⟨hh.1, hh.2.symm⟩
theorem rleft_pair (p : Pair w0 g h A c xs w s1 s2) : Calls Try.prog 26 #[.pointer (some ⟨h, 0, none⟩)] w fun e w' => e = .returned (.int .i64 (s2.ys.length : Int)) ∧ ∃ n, w' = w.drewN n := by
  obtain ⟨k, hr, hy⟩ := p.2.1
  rw [hy, List.length_drop]
  exact rleft_any hr
theorem rdone_pair (p : Pair w0 g h A c xs w s1 s2) : Calls Try.prog 29 #[.pointer (some ⟨h, 0, none⟩)] w fun e w' => e = .returned (.int .i64 (doneE s2)) ∧ ∃ n, w' = w.drewN n := by
  obtain ⟨k, hr, hy⟩ := p.2.1
  rw [St.eta s2 hy rfl]
  exact rdone_any hr
theorem rbad_pair (p : Pair w0 g h A c xs w s1 s2) : w.cell? ⟨h, 2, none⟩ = some (.bool s2.bad) := by
  obtain ⟨k, hr, hy⟩ := p.2.1
  exact hr.cells.2.2.1
end
end Go.Proofs.Yteglihgoccemmaa
