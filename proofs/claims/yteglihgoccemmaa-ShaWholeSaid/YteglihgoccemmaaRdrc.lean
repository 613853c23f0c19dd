/- Contracts of Take and Text of a reader of package octet that was opened, and of Open. Conditions: the bytes that are left are fewer than 900,000; a number that comes in is an int. -/
import Derived.Test.YteglihgoccemmaaRdrb
namespace Go.Proofs.Yteglihgoccemmaa
open Go.RowKit
set_option linter.unusedVariables false

theorem clone_len (A : Option Addr) (n c : Nat) (xs : List UInt8) (w : World) (hx : BAt w w.heap.size A xs) (hl : xs.length ≤ 1000000) (hn : xs.length = n) :
    Calls Try.prog 42 #[.slice A n c] w (OwnB w xs) := by
  subst hn
  exact clone_any A c xs w hx hl

section
variable {w w' : World} {g : Nat} {s : St}
theorem RdrS.keep (h : RdrS w g s) (hg : w'.heap[g]? = w.heap[g]?) (hs : w.heap.size ≤ w'.heap.size) (hx : ∀ A, BAt w w.heap.size A s.ys → BAt w' w.heap.size A s.ys) : RdrS w' g s := by
  obtain ⟨⟨A, c, h1, h2, h3⟩, h4⟩ := h
  exact ⟨⟨A, c, hg.trans h1, (hx A h2).more hs, h3⟩, h4⟩
theorem RdrS.lt (h : RdrS w g s) : g < w.heap.size := by
  obtain ⟨⟨A, c, h1, h2, h3⟩, h4⟩ := h
  exact (Array.getElem?_eq_some_iff.1 h1).1
theorem RdrS.below {B : Nat} (h : RdrS w g s) (hb : Below B w w') (hB : w.heap.size ≤ B) : RdrS w' g s :=
  h.keep (hb.block g (Nat.lt_of_lt_of_le h.lt hB)) hb.size fun A hx => hx.below (hb.mono hB)
theorem grownBy_trans {a b c : World} {row : Option Nat} (h : a.grownBy b row) (k : b.grownBy c row) : a.grownBy c row :=
  ⟨k.os.trans h.os, k.tape.trans h.tape, k.output.trans h.output, Nat.le_trans h.size k.size, fun i hi hn => (k.block i (Nat.lt_of_lt_of_le hi h.size) hn).trans (h.block i hi hn)⟩

/-- What Take leaves. -/
def TakeP (w : World) (g : Nat) (s : St) (n : Int) (e : Ending) (w' : World) : Prop :=
  ∃ v, e = .returned v ∧ w'.ownsRow w.heap.size 5 1 v (takeV s n).length (bcells (takeV s n)) ∧ RdrS w' g (takeS s n) ∧ w.grownBy w' (some g)

theorem take_any (h : RdrS w g s) (n : Int) (hw : n ≤ 9223372036854775807) : Calls Try.prog 21 #[.pointer (some ⟨g, 0, none⟩), .int .i64 n] w (TakeP w g s n) := by
  obtain ⟨A, c, hh, hx, hc, c0, c1, c2, hf⟩ := h.cells
  have hlen := h.2.2
  have HB := Lib.hid (bad_any h)
  by_cases hb : s.bad = true
  · have hno : ¬ takeOk s n := fun hk => hb.symm.trans hk.1 |> fun h => by cases h
    have R : TakeP w g s n (.returned (.slice none 0 0)) w := ⟨_, rfl, by simp only [takeV, if_neg hno]; exact World.ownsRow_nil _ _ _ _, by simp only [takeS, if_neg hno]; exact h.eta hb, World.grownBy.refl w _⟩
    have HR := Lib.hid R
    rw [hb] at HB
    clear hh hx h R hb hno
    go_enter Try.func21, Try.ntmps21
    go_wp2_with (go_at_call 27; refine (HB.out).mono ?_; rintro e w1 ⟨rfl, rfl⟩)
    go_ret
    exact HR.out
  · have hb' : s.bad = false := by simpa using hb
    rw [hb'] at HB
    by_cases hk : 0 ≤ n ∧ n ≤ s.ys.length
    · obtain ⟨k, rfl⟩ : ∃ k : Nat, n = k := ⟨n.toNat, by omega⟩
      have hok : takeOk s (k : Int) := ⟨hb', hk⟩
      have HN := Lib.hid (cut_yes g c s.ys.length k A w c0 (hf 0) hlen hc (by omega))
      have hhd : BAt w w.heap.size (headA A c) (s.ys.take k) := hx.head hc
      have hx1 : BAt (w.setCell ⟨g, 0, none⟩ (.slice (cutA A c k) (s.ys.length - k) (c - k))) (w.setCell ⟨g, 0, none⟩ (.slice (cutA A c k) (s.ys.length - k) (c - k))).heap.size (headA A c) (s.ys.take k) := by
        have := hhd.set (j := 0) (.slice (cutA A c k) (s.ys.length - k) (c - k)) (hhd.ne hh (by simp) (by simp) (by simp))
        simpa [World.setCell] using this
      have HC := Lib.hid (clone_len (headA A c) k c (s.ys.take k) _ hx1 (by rw [List.length_take]; omega) (by rw [List.length_take]; omega))
      have R : ∀ e w', OwnB (w.setCell ⟨g, 0, none⟩ (.slice (cutA A c k) (s.ys.length - k) (c - k))) (s.ys.take k) e w' → TakeP w g s k e w' := by
        rintro e w' ⟨v, he, ho, hbl⟩
        have e1 : (w.setCell ⟨g, 0, none⟩ (.slice (cutA A c k) (s.ys.length - k) (c - k))).heap.size = w.heap.size := by simp [World.setCell]
        refine ⟨v, he, ?_, ?_, grownBy_trans (grownBy_setCell (World.grownBy.refl w _) 0 _) (grownBy_of_below hbl (Nat.le_refl _) _)⟩
        · simp only [takeV, if_pos hok, Int.toNat_natCast]
          rw [e1] at ho
          exact ho
        · simp only [takeS, if_pos hok, Int.toNat_natCast]
          rw [hb'] at hh
          have h1 : RdrS (w.setCell ⟨g, 0, none⟩ (.slice (cutA A c k) (s.ys.length - k) (c - k))) g ⟨s.ys.drop k, false⟩ := ⟨rdr_cut hh hx hc (by omega), by simp, by simp only [List.length_drop]; omega⟩
          exact h1.below hbl (Nat.le_refl _)
      have HR := Lib.hid R
      clear hh hx h R hb hb' hok hhd hx1
      go_enter Try.func21, Try.ntmps21
      go_wp2_with (first
        | (go_at_call 27; refine (HB.out).mono ?_; rintro e w1 ⟨rfl, rfl⟩)
        | (go_at_call 47; refine (HN.out).mono ?_; rintro e w1 ⟨rfl, rfl⟩)
        | (go_at_call 42; refine (HC.out).mono ?_; rintro e w1 ⟨v1, rfl, ho1, hb1⟩))
      go_ret
      exact HR.out _ _ ⟨v1, rfl, ho1, hb1⟩
    · have hno : ¬ takeOk s n := fun h' => hk h'.2
      have HN := Lib.hid (cut_no g c A s.ys.length n w c0 hlen hk)
      have HF := Lib.hid (fail_any g _ _ _ w hh)
      have HC := Lib.hid (fun W => clone_len none 0 0 [] W (.inl rfl) (by simp) rfl)
      have R : ∀ w1, Rdr w1 g [] true → w.grownBy w1 (some g) → ∀ e w', OwnB w1 [] e w' → TakeP w g s n e w' := by
        rintro w1 h1 h2 e w' ⟨v, he, ho, hbl⟩
        refine ⟨v, he, by simp only [takeV, if_neg hno]; exact own_base ho h2.size, by simp only [takeS, if_neg hno]; exact (RdrS.failed h1).below hbl (Nat.le_refl _), grownBy_trans h2 (grownBy_of_below hbl (Nat.le_refl _) _)⟩
      have HR := Lib.hid R
      clear hh hx h R hb hb' hno hk
      go_enter Try.func21, Try.ntmps21
      go_wp2_with (first
        | (go_at_call 27; refine (HB.out).mono ?_; rintro e w1 ⟨rfl, rfl⟩)
        | (go_at_call 47; refine (HN.out).mono ?_; rintro e w1 ⟨rfl, rfl⟩)
        | (go_at_call 45; refine (HF.out).mono ?_; rintro e w1 ⟨rfl, hr1, hg1⟩)
        | (go_at_call 42; refine (HC.out _).mono ?_; rintro e w2 ⟨v1, rfl, ho1, hb1⟩))
      go_ret
      exact HR.out _ hr1 hg1 _ _ ⟨v1, rfl, ho1, hb1⟩

/-- Open. -/
theorem open_any (A : Option Addr) (c : Nat) (xs : List UInt8) (w : World) (hx : BAt w w.heap.size A xs) (hl : xs.length ≤ 900000) :
    Calls Try.prog 18 #[.slice A xs.length c] w fun e w' => ∃ g, e = .returned (.pointer (some ⟨g, 0, none⟩)) ∧ w.heap.size ≤ g ∧ RdrS w' g ⟨xs, false⟩ ∧ Below w.heap.size w w' := by
  have hC : Calls Try.prog 42 #[.slice A xs.length c] w fun e w' => ∃ A1 c1, e = .returned (.slice A1 xs.length c1) ∧ w'.ownsRow w.heap.size 5 1 (.slice A1 xs.length c1) xs.length (bcells xs) ∧ Below w.heap.size w w' :=
    (clone_any A c xs w hx (by omega)).mono fun e w' ⟨v, he, ho, hb⟩ => by
      obtain ⟨A1, c1, rfl⟩ := slice_of_own ho
      exact ⟨A1, c1, he, ho, hb⟩
  have HC := Lib.hid hC
  clear hx hC
  go_enter Try.func18, Try.ntmps18
  go_wp2_with (go_at_call 42; refine (HC.out).mono ?_; rintro e w1 ⟨A1, c1, rfl, ho1, hb1⟩)
  go_ret
  refine ⟨_, rfl, hb1.size, ⟨⟨A1, c1, heap_alloc_new w1 _, ?_, ?_⟩, by simp, hl⟩, hb1.alloc hb1.size _⟩
  · have := BAt.of_own ho1 (Nat.le_refl _)
    exact (this.below ((Below.refl _ w1).alloc (Nat.le_refl _) _)).more (by simp)
  · rcases ho1.2 with ⟨h, h'⟩ | ⟨g, cap, cur, h, _, _, h', _⟩
    · simp only [Value.slice.injEq] at h
      have : xs.length = 0 := h'
      show xs.length ≤ c1
      omega
    · simp only [Value.slice.injEq] at h
      show xs.length ≤ c1
      omega

end
end Go.Proofs.Yteglihgoccemmaa
