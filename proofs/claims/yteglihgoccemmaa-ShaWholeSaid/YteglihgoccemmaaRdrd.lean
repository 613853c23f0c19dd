/- Contract of Text of a reader of package octet that was opened. Conditions: the bytes that are left are fewer than 900,000; a number that comes in is an int. -/
import Derived.Test.YteglihgoccemmaaRdrc
namespace Go.Proofs.Yteglihgoccemmaa
open Go.RowKit
set_option linter.unusedVariables false

theorem getN2_lt (ys : List UInt8) : getN (ys.take 2) < 65536 := by
  have h1 := getN_lt (ys.take 2)
  have h2 : 256 ^ (ys.take 2).length ≤ 256 ^ 2 := Nat.pow_le_pow_right (by omega) (by rw [List.length_take]; omega)
  omega

section
variable {w w' : World} {g : Nat} {s : St}

set_option maxRecDepth 100000 in
theorem rtxt_yes (A : Option Addr) (c : Nat) (ys : List UInt8) (b : Value) (most : Int) (hh : w.heap[g]? = some (.cells #[.slice A ys.length c, .bool true, b] 57 (0, 0))) (hx : BAt w w.heap.size A ys) (hc : ys.length ≤ c) (hl : ys.length ≤ 900000)
    (hbv : ∀ n, b ≠ .int .u8 n) (m : Nat) (hm : getN (ys.take 2) = m) (h2 : 2 ≤ ys.length) (h3 : (m : Int) ≤ most) (h4 : m ≤ 1024) (h5 : m + 2 ≤ ys.length) :
    Calls Try.prog 48 #[.pointer (some ⟨g, 0, none⟩), .int .i64 most] w fun e w' => e = .returned (.tuple #[.string (bstr ((ys.drop 2).take m)), .bool true]) ∧
      (w.setCell ⟨g, 0, none⟩ (.slice (cutA A c 2) (ys.length - 2) (c - 2))).setCell ⟨g, 0, none⟩ (.slice (cutA (cutA A c 2) (c - 2) m) (ys.length - 2 - m) (c - 2 - m)) = w' := by
  have c0 : w.cell? ⟨g, 0, none⟩ = some (.slice A ys.length c) := by
    have := cell_of_row w g 0 _ 57 (0, 0) hh
    simpa using this
  have f0 := frozen_of_row w g 0 _ 57 hh
  have hN : Calls Try.prog 44 #[.pointer (some ⟨g, 0, none⟩), .int .i64 2] w fun e w' => e = .returned (.tuple #[.int .u64 (m : Int), .bool true]) ∧ w.setCell ⟨g, 0, none⟩ (.slice (cutA A c 2) (ys.length - 2) (c - 2)) = w' := by
    rw [← hm]
    exact number_yes g c 2 A ys w c0 f0 hx hl (by omega) (by omega) h2
  have s0 := heap_setCell_same w g 0 _ 57 (.slice (cutA A c 2) (ys.length - 2) (c - 2)) hh
  have c0' : (w.setCell ⟨g, 0, none⟩ (.slice (cutA A c 2) (ys.length - 2) (c - 2))).cell? ⟨g, 0, none⟩ = some (.slice (cutA A c 2) (ys.length - 2) (c - 2)) := by
    have := cell_of_row _ g 0 _ 57 (0, 0) s0
    simpa using this
  have f0' := frozen_of_row _ g 0 _ 57 s0
  have HN := Lib.hid hN
  have HC := Lib.hid (cut_yes g (c - 2) (ys.length - 2) m (cutA A c 2) _ c0' f0' (by omega) (by omega) (by omega))
  -- the bytes of the text, in the last world
  have hb2 : BAt w w.heap.size (headA (cutA A c 2) (c - 2)) ((ys.drop 2).take m) := (hx.cut h2 hc).head (by rw [List.length_drop]; omega)
  have hne := hb2.ne hh (by simp) (by simp) hbv
  have hb3 := (hb2.set (j := 0) (.slice (cutA A c 2) (ys.length - 2) (c - 2)) hne).set (j := 0) (.slice (cutA (cutA A c 2) (c - 2) m) (ys.length - 2 - m) (c - 2 - m)) hne
  have hlen : ((ys.drop 2).take m).length = m := by rw [List.length_take, List.length_drop]; omega
  have hcv := run_convert_bat (P := Try.prog) 22 9 5 (c - 2) Try.underlying22 Try.underlying5 Try.underlying9 hb3
  rw [hlen] at hcv
  have d1 : (m : Int) ≤ 1024 := by omega
  clear hN c0 f0 c0' f0' hx hb2 hb3 hne s0 hh hm hc hl hbv h2 h5 hlen
  go_enter Try.func48, Try.ntmps48
  go_wp2_with (first
    | (go_at_call 44; refine (HN.out).mono ?_; rintro e w1 ⟨rfl, rfl⟩)
    | (go_at_call 47; refine (HC.out).mono ?_; rintro e w1 ⟨rfl, rfl⟩))
  all_goals go_ret2
  all_goals exact ⟨rfl, rfl⟩

/-- What is left where no text is read. -/
def TxtN (w : World) (g : Nat) (b : Value) (e : Ending) (w' : World) : Prop :=
  e = .returned (.tuple #[.string ⟨#[]⟩, .bool false]) ∧ (∃ a, w'.heap[g]? = some (.cells #[a, .bool true, b] 57 (0, 0))) ∧ w.grownBy w' (some g)

set_option maxRecDepth 100000 in
theorem rtxt_no (A : Option Addr) (c : Nat) (ys : List UInt8) (b : Value) (most : Int) (hh : w.heap[g]? = some (.cells #[.slice A ys.length c, .bool true, b] 57 (0, 0))) (hx : BAt w w.heap.size A ys) (hc : ys.length ≤ c) (hl : ys.length ≤ 900000)
    (m : Nat) (hm : getN (ys.take 2) = m) (hno : ¬ (2 ≤ ys.length ∧ (m : Int) ≤ most ∧ m ≤ 1024 ∧ m + 2 ≤ ys.length)) :
    Calls Try.prog 48 #[.pointer (some ⟨g, 0, none⟩), .int .i64 most] w (TxtN w g b) := by
  have c0 : w.cell? ⟨g, 0, none⟩ = some (.slice A ys.length c) := by
    have := cell_of_row w g 0 _ 57 (0, 0) hh
    simpa using this
  have f0 := frozen_of_row w g 0 _ 57 hh
  by_cases h2 : 2 ≤ ys.length
  · have hm16 := getN2_lt ys
    rw [hm] at hm16
    have hN : Calls Try.prog 44 #[.pointer (some ⟨g, 0, none⟩), .int .i64 2] w fun e w' => e = .returned (.tuple #[.int .u64 (m : Int), .bool true]) ∧ w.setCell ⟨g, 0, none⟩ (.slice (cutA A c 2) (ys.length - 2) (c - 2)) = w' := by
      rw [← hm]
      exact number_yes g c 2 A ys w c0 f0 hx hl (by omega) (by omega) h2
    have s0 := heap_setCell_same w g 0 _ 57 (.slice (cutA A c 2) (ys.length - 2) (c - 2)) hh
    have R : TxtN w g b (.returned (.tuple #[.string ⟨#[]⟩, .bool false])) (w.setCell ⟨g, 0, none⟩ (.slice (cutA A c 2) (ys.length - 2) (c - 2))) :=
      ⟨rfl, ⟨_, by simpa using s0⟩, grownBy_setCell (World.grownBy.refl w _) _ _⟩
    have c0' : (w.setCell ⟨g, 0, none⟩ (.slice (cutA A c 2) (ys.length - 2) (c - 2))).cell? ⟨g, 0, none⟩ = some (.slice (cutA A c 2) (ys.length - 2) (c - 2)) := by
      have := cell_of_row _ g 0 _ 57 (0, 0) s0
      simpa using this
    have HN := Lib.hid hN
    have HR := Lib.hid R
    by_cases h3 : (m : Int) ≤ most ∧ m ≤ 1024
    · obtain ⟨h3a, h3b⟩ := h3
      have HC := Lib.hid (cut_no g (c - 2) (cutA A c 2) (ys.length - 2) (m : Int) _ c0' (by omega) (by omega))
      have hcv := fun W => run_convert_bat (P := Try.prog) (w := W) (B := 0) (A := none) (xs := []) 22 9 5 0 Try.underlying22 Try.underlying5 Try.underlying9 (.inl rfl)
      have hcv' : ∀ W, (convert 22 9 (.slice none 0 0)).run Try.prog W = .ok (.string ⟨#[]⟩) W := hcv
      clear hN c0 f0 c0' hx s0 hh hm hc hl h2 hno hcv R
      go_enter Try.func48, Try.ntmps48
      go_wp2_with (first
        | (go_at_call 44; refine (HN.out).mono ?_; rintro e w1 ⟨rfl, rfl⟩)
        | (go_at_call 47; refine (HC.out).mono ?_; rintro e w1 ⟨rfl, rfl⟩))
      all_goals go_ret2
      all_goals exact HR.out
    · have h3' : most < (m : Int) ∨ 1024 < (m : Int) := by omega
      clear hN c0 f0 c0' hx s0 hh hm hc hl h2 hno R h3
      go_enter Try.func48, Try.ntmps48
      go_wp2_with (first
        | (go_at_call 44; refine (HN.out).mono ?_; rintro e w1 ⟨rfl, rfl⟩))
      all_goals go_ret2
      all_goals exact HR.out
  · have HN := Lib.hid (number_no g c A ys 2 w c0 hl (by omega) (by omega))
    have R : TxtN w g b (.returned (.tuple #[.string ⟨#[]⟩, .bool false])) w := ⟨rfl, ⟨_, hh⟩, World.grownBy.refl w _⟩
    have HR := Lib.hid R
    clear c0 f0 hx hh hm hc hl h2 hno R
    go_enter Try.func48, Try.ntmps48
    go_wp2_with (first
      | (go_at_call 44; refine (HN.out).mono ?_; rintro e w1 ⟨rfl, rfl⟩))
    go_ret2
    exact HR.out

/-- What Text leaves. -/
def TxtP (w : World) (g : Nat) (s : St) (most : Int) (e : Ending) (w' : World) : Prop := e = .returned (.string (bstr (txtV s most))) ∧ RdrS w' g (txtS s most) ∧ w.grownBy w' (some g)

theorem rdText_any (h : RdrS w g s) (most : Int) (hw : most ≤ 9223372036854775807) : Calls Try.prog 23 #[.pointer (some ⟨g, 0, none⟩), .int .i64 most] w (TxtP w g s most) := by
  obtain ⟨A, c, hh, hx, hc, c0, c1, c2, hf⟩ := h.cells
  have hlen := h.2.2
  have HB := Lib.hid (bad_any h)
  by_cases hb : s.bad = true
  · have hno : ¬ txtOk s most := fun hk => hb.symm.trans hk.1 |> fun h => by cases h
    have R : TxtP w g s most (.returned (.string ⟨#[]⟩)) w := ⟨by simp only [txtV, if_neg hno]; rfl, by simp only [txtS, if_neg hno]; exact h.eta hb, World.grownBy.refl w _⟩
    have HR := Lib.hid R
    rw [hb] at HB
    clear hh hx h R hb hno
    go_enter Try.func23, Try.ntmps23
    go_wp2_with (go_at_call 27; refine (HB.out).mono ?_; rintro e w1 ⟨rfl, rfl⟩)
    go_ret
    exact HR.out
  · have hb' : s.bad = false := by simpa using hb
    rw [hb'] at HB
    by_cases hk : 2 ≤ s.ys.length ∧ (getN (s.ys.take 2) : Int) ≤ most ∧ getN (s.ys.take 2) ≤ 1024 ∧ getN (s.ys.take 2) + 2 ≤ s.ys.length
    · have hok : txtOk s most := ⟨hb', hk⟩
      have hT := rtxt_yes A c s.ys _ most hh hx hc hlen (by simp) _ rfl hk.1 hk.2.1 hk.2.2.1 hk.2.2.2
      have e1 : txtV s most = (s.ys.drop 2).take (getN (s.ys.take 2)) := by simp only [txtV, if_pos hok]
      have R : ∀ w', (w.setCell ⟨g, 0, none⟩ (.slice (cutA A c 2) (s.ys.length - 2) (c - 2))).setCell ⟨g, 0, none⟩ (.slice (cutA (cutA A c 2) (c - 2) (getN (s.ys.take 2))) (s.ys.length - 2 - getN (s.ys.take 2)) (c - 2 - getN (s.ys.take 2))) = w' → RdrS w' g (txtS s most) ∧ w.grownBy w' (some g) := by
        rintro w' rfl
        refine ⟨?_, grownBy_setCell (grownBy_setCell (World.grownBy.refl w _) _ _) _ _⟩
        simp only [txtS, if_pos hok]
        rw [hb'] at hh
        obtain ⟨A1, k1, q1, q2, q3⟩ := rdr_cut hh hx hc hk.1
        have e2 : (s.ys.drop 2).length = s.ys.length - 2 := by rw [List.length_drop]
        have q1' : (w.setCell ⟨g, 0, none⟩ (.slice (cutA A c 2) (s.ys.length - 2) (c - 2))).heap[g]? = some (.cells #[.slice (cutA A c 2) (s.ys.drop 2).length (c - 2), .bool true, .bool false] 57 (0, 0)) := by
          have s0 := heap_setCell_same w g 0 _ 57 (.slice (cutA A c 2) (s.ys.length - 2) (c - 2)) hh
          rw [e2]
          simpa using s0
        have q2' : BAt (w.setCell ⟨g, 0, none⟩ (.slice (cutA A c 2) (s.ys.length - 2) (c - 2))) (w.setCell ⟨g, 0, none⟩ (.slice (cutA A c 2) (s.ys.length - 2) (c - 2))).heap.size (cutA A c 2) (s.ys.drop 2) := by
          rw [q1'] at q1
          injection q1 with q1
          injection q1 with q1
          simp at q1
          rw [← q1.1] at q2
          exact q2
        have q4 := rdr_cut (k := getN (s.ys.take 2)) q1' q2' (by rw [e2]; omega) (by rw [e2]; omega)
        rw [e2] at q4
        exact ⟨q4, by simp, by simp only [List.length_drop]; omega⟩
      have HR := Lib.hid R
      rw [← e1] at hT
      have HT := Lib.hid hT
      unfold TxtP
      generalize txtV s most = tv at HT ⊢
      generalize txtS s most = ts at HR ⊢
      clear hh hx h R hb hb' hok hT e1 hk c0 c1 c2 hf
      go_enter Try.func23, Try.ntmps23
      go_wp2_with (first
        | (go_at_call 27; refine (HB.out).mono ?_; rintro e w1 ⟨rfl, rfl⟩)
        | (go_at_call 48; refine (HT.out).mono ?_; rintro e w1 ⟨rfl, hw1⟩; have Hw1 := Lib.hid hw1; clear hw1))
      go_ret
      exact ⟨rfl, HR.out _ Hw1.out⟩
    · have hno : ¬ txtOk s most := fun h' => hk h'.2
      have HT := Lib.hid (rtxt_no A c s.ys _ most hh hx hc hlen _ rfl hk)
      have R : ∀ w', Rdr w' g [] true ∧ w.grownBy w' (some g) → TxtP w g s most (.returned (.string ⟨#[]⟩)) w' := fun w' hw' => ⟨by simp only [txtV, if_neg hno]; rfl, by simp only [txtS, if_neg hno]; exact RdrS.failed hw'.1, hw'.2⟩
      have HR := Lib.hid R
      clear hh hx h R hb hb' hno hk c0 c1 c2 hf
      go_enter Try.func23, Try.ntmps23
      go_wp2_with (first
        | (go_at_call 27; refine (HB.out).mono ?_; rintro e w1 ⟨rfl, rfl⟩)
        | (go_at_call 48; refine (HT.out).mono ?_; rintro e w1 ⟨rfl, ⟨a1, ha1⟩, hg1⟩; have HA := Lib.hid ha1; clear ha1)
        | (go_at_call 45; refine (fail_any g _ _ _ _ HA.out).mono ?_; rintro e w2 ⟨rfl, hr2, hg2⟩))
      go_ret
      exact HR.out _ ⟨hr2, grownBy_trans hg1 hg2⟩
end
end Go.Proofs.Yteglihgoccemmaa
