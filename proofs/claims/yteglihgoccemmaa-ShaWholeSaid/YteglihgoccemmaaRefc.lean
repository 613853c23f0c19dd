/- Contracts of the reader of the reference, for whatever comes in: Take and Text. Conditions: the bytes are fewer than 900,000; a number that comes in is an int. -/
import Derived.Test.YteglihgoccemmaaRefb
namespace Go.Proofs.Yteglihgoccemmaa
open Go.RowKit
set_option linter.unusedVariables false

section
variable {w w' : World} {h : Nat} {A : Option Addr} {c : Nat} {xs : List UInt8} {k : Nat} {bad : Bool}

set_option maxRecDepth 100000 in
theorem rrtake_no (r : RRd w h A c xs k bad) (n : Int) (hn : n ≤ 9223372036854775807) (hno : ¬ takeOk ⟨xs.drop k, bad⟩ n) : Calls Try.prog 22 #[.pointer (some ⟨h, 0, none⟩), .int .i64 n] w (RTakeP w h A c xs ⟨xs.drop k, bad⟩ n) := by
  obtain ⟨c0, c1, c2, f⟩ := r.cells
  have hl : xs.length ≤ 900000 := r.2.2.2.2.1
  have hk : k ≤ xs.length := r.2.2.1
  have HF := Lib.hid (fun n => rfail_any (r.drewN n))
  have R : ∀ m w', RRd w' h A c xs xs.length true → (w.drewN m).grownBy w' (some h) → RTakeP w h A c xs ⟨xs.drop k, bad⟩ n (.returned (.slice none 0 0)) w' := fun m w' q1 q2 =>
    ⟨_, rfl, by simp only [takeV, if_neg hno]; exact World.ownsRow_nil _ _ _ _, by simp only [takeS, if_neg hno]; exact RRS.failed q1, grownBy_trans (grownBy_drewN m _) q2⟩
  have HR := Lib.hid R
  have hno' : bad = true ∨ n < 0 ∨ (xs.length : Int) - (k : Int) < n := by
    by_cases hb : bad = true
    · exact .inl hb
    · right
      by_cases h0 : n < 0
      · exact .inl h0
      · right
        refine Int.not_le.1 fun hle => hno ⟨by simpa using hb, by omega, by simp only [List.length_drop]; omega⟩
  clear r R hno
  by_cases hb : bad = true
  · subst hb
    clear hno'
    go_enter Try.func22, Try.ntmps22
    go_wp2
    go_quiet (fail)
    go_wp2_with (go_at_call 46; refine (HF.out _).mono ?_; rintro e w1 ⟨rfl, hr1, hg1⟩)
    go_ret
    exact HR.out _ _ hr1 hg1
  · have hb' : bad = false := by simpa using hb
    subst hb'
    by_cases h0 : n < 0
    · clear hno' hb
      have q1 : decide (n < 0) = true := by simpa using h0
      go_enter Try.func22, Try.ntmps22
      go_wp2
      go_quiet (fail)
      go_wp2_with (go_at_call 46; refine (HF.out _).mono ?_; rintro e w1 ⟨rfl, hr1, hg1⟩)
      go_ret
      exact HR.out _ _ hr1 hg1
    · have h1 : (xs.length : Int) - (k : Int) < n := by
        rcases hno' with h | h | h
        · exact absurd h hb
        · exact absurd h h0
        · exact h
      clear hno' hb
      have q1 : decide (n < 0) = false := by simpa using h0
      have q2 : decide ((xs.length : Int) - (k : Int) < n) = true := by simpa using h1
      have q3 : (k : Int) ≤ (xs.length : Int) := by omega
      go_enter Try.func22, Try.ntmps22
      go_wp2
      go_quiet (fail)
      go_wp2_with (go_at_call 46; refine (HF.out _).mono ?_; rintro e w1 ⟨rfl, hr1, hg1⟩)
      go_ret
      exact HR.out _ _ hr1 hg1

theorem rrtake_any (r : RRd w h A c xs k bad) (n : Int) (hn : n ≤ 9223372036854775807) : Calls Try.prog 22 #[.pointer (some ⟨h, 0, none⟩), .int .i64 n] w (RTakeP w h A c xs ⟨xs.drop k, bad⟩ n) := by
  by_cases hok : takeOk ⟨xs.drop k, bad⟩ n
  · obtain ⟨hb, h0, hle⟩ := hok
    simp only [List.length_drop] at hb hle
    subst hb
    have hk : k ≤ xs.length := r.2.2.1
    obtain ⟨d, rfl⟩ : ∃ d : Nat, n = d := ⟨n.toNat, by omega⟩
    exact rrtake_yes r d (by omega)
  · exact rrtake_no r n hn hok

def RTxtP (w : World) (h : Nat) (A : Option Addr) (c : Nat) (xs : List UInt8) (s : St) (most : Int) (e : Ending) (w' : World) : Prop :=
  e = .returned (.string (bstr (txtV s most))) ∧ RRS w' h A c xs (txtS s most) ∧ w.grownBy w' (some h)

set_option maxRecDepth 100000 in
theorem rrtext_any (r : RRd w h A c xs k bad) (most : Int) (hm : most ≤ 9223372036854775807) : Calls Try.prog 24 #[.pointer (some ⟨h, 0, none⟩), .int .i64 most] w (RTxtP w h A c xs ⟨xs.drop k, bad⟩ most) := by
  have HN := Lib.hid (rrnum_any r 2 (by omega))
  by_cases hok2 : numOk ⟨xs.drop k, bad⟩ 2
  · -- the length is read
    obtain ⟨hb, _, _, hle⟩ := id hok2
    simp only [List.length_drop] at hb hle
    subst hb
    have hk : k ≤ xs.length := r.2.2.1
    have hl : xs.length ≤ 900000 := r.2.2.2.2.1
    obtain ⟨m, hm2⟩ : ∃ m, getN ((xs.drop k).take 2) = m := ⟨_, rfl⟩
    have hm16 := getN2_lt (xs.drop k)
    rw [hm2] at hm16
    have hN : Calls Try.prog 20 #[.pointer (some ⟨h, 0, none⟩), .int .i64 2] w fun e w' => e = .returned (.int .u64 (m : Int)) ∧ RRd w' h A c xs (k + 2) false ∧ w.grownBy w' (some h) :=
      HN.out.mono fun e w' ⟨he, ⟨k', hr, hy⟩, hg⟩ => by
        have e1 : numV ⟨xs.drop k, false⟩ 2 = m := by simp only [numV, if_pos hok2]; exact hm2
        have e2 : numS ⟨xs.drop k, false⟩ 2 = ⟨(xs.drop k).drop 2, false⟩ := by simp only [numS, if_pos hok2]; rfl
        rw [e1] at he
        rw [e2] at hr hy
        simp only [List.drop_drop] at hy
        have hk' : k' = k + 2 := by
          have h1 := congrArg List.length hy
          simp only [List.length_drop] at h1
          have := hr.2.2.1
          omega
        subst hk'
        exact ⟨he, hr, hg⟩
    have HN2 := Lib.hid hN
    by_cases h3 : (m : Int) ≤ most ∧ m ≤ 1024
    · obtain ⟨h3a, h3b⟩ := h3
      have e1 : txtV ⟨xs.drop k, false⟩ most = takeV ⟨xs.drop (k + 2), false⟩ (m : Int) ∧ txtS ⟨xs.drop k, false⟩ most = takeS ⟨xs.drop (k + 2), false⟩ (m : Int) := by
        by_cases h5 : m + 2 ≤ xs.length - k
        · have o1 : txtOk ⟨xs.drop k, false⟩ most := ⟨rfl, by simp only [List.length_drop]; omega, by rw [hm2]; exact h3a, by rw [hm2]; exact h3b, by rw [hm2]; simp only [List.length_drop]; omega⟩
          have o2 : takeOk ⟨xs.drop (k + 2), false⟩ (m : Int) := ⟨rfl, by omega, by simp only [List.length_drop]; omega⟩
          simp only [txtV, takeV, txtS, takeS, if_pos o1, if_pos o2, hm2, List.drop_drop, Int.toNat_natCast, and_self]
        · have o1 : ¬ txtOk ⟨xs.drop k, false⟩ most := by
            rintro ⟨_, _, _, _, q⟩
            rw [hm2] at q
            simp only [List.length_drop] at q
            omega
          have o2 : ¬ takeOk ⟨xs.drop (k + 2), false⟩ (m : Int) := by
            rintro ⟨_, _, q⟩
            simp only [List.length_drop] at q
            omega
          simp only [txtV, takeV, txtS, takeS, if_neg o1, if_neg o2, and_self]
      unfold RTxtP
      rw [e1.1, e1.2]
      have HT := Lib.hid (fun W (hr : RRd W h A c xs (k + 2) false) => rrtake_any hr (m : Int) (by omega))
      clear r HN hok2 e1 hm2 hN hle
      generalize hv : takeV ⟨xs.drop (k + 2), false⟩ (m : Int) = V at HT ⊢
      generalize hs : takeS ⟨xs.drop (k + 2), false⟩ (m : Int) = S' at HT ⊢
      have HT2 : ∀ W, RRd W h A c xs (k + 2) false → Calls Try.prog 22 #[.pointer (some ⟨h, 0, none⟩), .int .i64 (m : Int)] W fun e w' => ∃ v, e = .returned v ∧ (convert 22 9 v).run Try.prog w' = .ok (.string (bstr V)) w' ∧ RRS w' h A c xs S' ∧ W.grownBy w' (some h) := fun W hr =>
        (HT.out W hr).mono fun e w' ⟨v, he, ho, q1, q2⟩ => ⟨v, he, conv_own (by rw [hv] at ho; exact ho), by rw [hs] at q1; exact q1, q2⟩
      have HT3 := Lib.hid HT2
      clear HT HT2 hv hs
      go_enter Try.func24, Try.ntmps24
      go_wp2_with (first
        | (go_at_call 20; refine (HN2.out).mono ?_; rintro e w1 ⟨rfl, hr1, hg1⟩; obtain ⟨_, _, c2, _⟩ := hr1.cells; have HR1 := Lib.hid hr1; have HG1 := Lib.hid hg1; clear hr1 hg1)
        | (go_at_call 22; refine (HT3.out _ HR1.out).mono ?_; rintro e w2 ⟨v2, rfl, hc2, hr2, hg2⟩))
      go_ret
      exact ⟨rfl, hr2, grownBy_trans HG1.out hg2⟩
    · have h3' : most < (m : Int) ∨ 1024 < (m : Int) := by omega
      have o1 : ¬ txtOk ⟨xs.drop k, false⟩ most := by
        rintro ⟨_, _, q1, q2, _⟩
        rw [hm2] at q1 q2
        omega
      unfold RTxtP
      simp only [txtV, txtS, if_neg o1]
      have e0 : bstr [] = ⟨#[]⟩ := rfl
      rw [e0]
      have HF := Lib.hid (fun W (hr : RRd W h A c xs (k + 2) false) => rfail_any hr)
      clear r HN hok2 hm2 hN hle o1 h3 e0
      by_cases h4 : most < (m : Int)
      · clear h3'
        have q1 : decide (most < (m : Int)) = true := by simpa using h4
        go_enter Try.func24, Try.ntmps24
        go_wp2_with (first
          | (go_at_call 20; refine (HN2.out).mono ?_; rintro e w1 ⟨rfl, hr1, hg1⟩; obtain ⟨_, _, c2, _⟩ := hr1.cells; have HR1 := Lib.hid hr1; have HG1 := Lib.hid hg1; clear hr1 hg1)
          | (go_at_call 46; refine (HF.out _ HR1.out).mono ?_; rintro e w2 ⟨rfl, hr2, hg2⟩))
        go_ret
        exact ⟨rfl, RRS.failed hr2, grownBy_trans HG1.out hg2⟩
      · have h5 : 1024 < (m : Int) := by omega
        clear h3'
        have q1 : decide (most < (m : Int)) = false := by simpa using h4
        have q2 : decide (1024 < (m : Int)) = true := by simpa using h5
        go_enter Try.func24, Try.ntmps24
        go_wp2_with (first
          | (go_at_call 20; refine (HN2.out).mono ?_; rintro e w1 ⟨rfl, hr1, hg1⟩; obtain ⟨_, _, c2, _⟩ := hr1.cells; have HR1 := Lib.hid hr1; have HG1 := Lib.hid hg1; clear hr1 hg1)
          | (go_at_call 46; refine (HF.out _ HR1.out).mono ?_; rintro e w2 ⟨rfl, hr2, hg2⟩))
        go_ret
        exact ⟨rfl, RRS.failed hr2, grownBy_trans HG1.out hg2⟩
  · have o1 : ¬ txtOk ⟨xs.drop k, bad⟩ most := by
      rintro ⟨q0, q1, _⟩
      exact hok2 ⟨q0, by omega, by omega, by simp only at q1 ⊢; omega⟩
    have hN : Calls Try.prog 20 #[.pointer (some ⟨h, 0, none⟩), .int .i64 2] w fun e w' => e = .returned (.int .u64 0) ∧ (∃ k', RRd w' h A c xs k' true) ∧ w.grownBy w' (some h) :=
      HN.out.mono fun e w' ⟨he, ⟨k', hr, hy⟩, hg⟩ => by
        have e1 : numV ⟨xs.drop k, bad⟩ 2 = 0 := by simp only [numV, if_neg hok2]
        have e2 : numS ⟨xs.drop k, bad⟩ 2 = ⟨[], true⟩ := by simp only [numS, if_neg hok2]
        rw [e1] at he
        rw [e2] at hr
        exact ⟨he, ⟨k', hr⟩, hg⟩
    unfold RTxtP
    simp only [txtV, txtS, if_neg o1]
    have e0 : bstr [] = ⟨#[]⟩ := rfl
    rw [e0]
    have HN2 := Lib.hid hN
    have HF := Lib.hid (fun W k' (hr : RRd W h A c xs k' true) => rfail_any hr)
    clear r HN hok2 hN o1 e0
    go_enter Try.func24, Try.ntmps24
    go_wp2_with (first
      | (go_at_call 20; refine (HN2.out).mono ?_; rintro e w1 ⟨rfl, ⟨k', hr1⟩, hg1⟩; obtain ⟨_, _, c2, _⟩ := hr1.cells; have HR1 := Lib.hid hr1; have HG1 := Lib.hid hg1; clear hr1 hg1)
      | (go_at_call 46; refine (HF.out _ _ HR1.out).mono ?_; rintro e w2 ⟨rfl, hr2, hg2⟩))
    go_ret
    exact ⟨rfl, RRS.failed hr2, grownBy_trans HG1.out hg2⟩
end
end Go.Proofs.Yteglihgoccemmaa
