/- The walk of TimersPlay. No condition. -/
import Derived.Test.YtkebgcalphajhaaTdh
import Derived.Test.YtkebgcalphajhaaTcc
namespace Go.Proofs.Ytkebgcalphajhaa
open Go.RowKit Go.Lib
set_option maxRecDepth 100000
set_option maxHeartbeats 4000000
def TpRel (w : World) (most n : Nat) (s7 s8 s38 : Value) (wr : World) : Prop := ∃ j g : Nat, ∃ v L, s38 = .int .i64 (j : Int) ∧ j ≤ n ∧ s7 = .pointer (some ⟨g, 0, none⟩) ∧ TP w g most v s8 L wr ∧ LG most L ∧ L.length ≤ j
theorem setT_le (L : List (Int × Nat)) (most : Nat) (t : Int × Nat) : (setT L most t).length ≤ L.length + 1 := by
  unfold setT
  split
  · omega
  · rw [List.length_append]
    have := cut_le (O := L) t.1
    show (cutT L t.1).length + 1 ≤ L.length + 1
    omega
theorem tplays_long (z a : Int) (A : Option Addr) (n c : Nat) (w : World) (h : 60 < n) : Calls Try.prog 3 #[.int .i64 z, .slice A n c, .int .i64 a] w fun e w' => e = .returned (.bool true) ∧ Below w.heap.size w w' := by
  have HL := tlives_at w
  have h4 : (n : Int) > 60 := by omega
  go_enter Try.func3, Try.ntmps3
  go_wp2_with (first | (go_at_call 7; (with_reducible refine (HL.out _ (Below.refl _ _)).mono ?_); rintro e w2 ⟨rfl, hb2⟩))
  go_ret
  exact ⟨rfl, hb2⟩
theorem tplays_out (z a : Int) (A : Option Addr) (n c : Nat) (w : World) (h : n ≤ 60) (hz : z < 1 ∨ 65536 < z) : Calls Try.prog 3 #[.int .i64 z, .slice A n c, .int .i64 a] w fun e w' => e = .returned (.bool true) ∧ Below w.heap.size w w' := by
  have HL := tlives_at w
  have HN := Lib.hid (tnew_no z hz w)
  have h4 : ¬ (n : Int) > 60 := by omega
  rcases hz with hz | hz
  · go_enter Try.func3, Try.ntmps3
    go_wp2_with (first | (go_at_call 8; (with_reducible refine HN.out.mono ?_); rintro e w1 ⟨rfl, rfl⟩) | (go_at_call 7; (with_reducible refine (HL.out _ (Below.refl _ _)).mono ?_); rintro e w2 ⟨rfl, hb2⟩))
    go_ret
    exact ⟨rfl, hb2⟩
  · have hz1 : ¬ z < 1 := by omega
    have hz2 : z > 65536 := hz
    go_enter Try.func3, Try.ntmps3
    go_wp2_with (first | (go_at_call 8; (with_reducible refine HN.out.mono ?_); rintro e w1 ⟨rfl, rfl⟩) | (go_at_call 7; (with_reducible refine (HL.out _ (Below.refl _ _)).mono ?_); rintro e w2 ⟨rfl, hb2⟩))
    go_ret
    exact ⟨rfl, hb2⟩
theorem tplays_in (most : Nat) (a : Int) (A : Option Addr) (c : Nat) (l : List TopR) (w : World) (h0 : 0 < most) (hm : most ≤ 65536) (hn : l.length ≤ 60) (hA : TopsAt w A l) : Calls Try.prog 3 #[.int .i64 (most : Int), .slice A l.length c, .int .i64 a] w fun e w' => e = .returned (.bool true) ∧ Below w.heap.size w w' := by
  have HL := tlives_at w
  have HN := Lib.hid (tnew_yes most h0 hm w)
  obtain ⟨w1, hw1⟩ : ∃ w1, w1 = w.alloc (.cells #[.int .i64 (most : Int), .slice none 0 0] 77) := ⟨_, rfl⟩
  have hb1 : Below w.heap.size w w1 := by rw [hw1]; exact (Below.refl _ w).alloc (Nat.le_refl _) _
  have hr1 : Tab w1 w.heap.size most (.slice none 0 0) [] := by rw [hw1]; exact tab_new most w
  have R0 : Hid (TpRel w most l.length (.pointer (some ⟨w.heap.size, 0, none⟩)) (.slice none 0 0) (.int .i64 0) w1) := Lib.hid ⟨0, w.heap.size, .slice none 0 0, [], rfl, by omega, rfl, ⟨hb1, hr1, RowAt.nil _ 35 2, Nat.le_refl _, (fun k hk => by cases hk), (fun k hk => by cases hk), (fun h => by cases h), (fun b h => by cases h)⟩, ⟨by simp, by (unfold UniT; simp), fun t ht => (List.not_mem_nil ht).elim⟩, by simp⟩
  have HA := Lib.hid hA
  have HW1 := Lib.hid hw1
  have h2 : ¬ (most : Int) < 1 := by omega
  have h3 : ¬ (most : Int) > 65536 := by omega
  have h4 : ¬ (l.length : Int) > 60 := by omega
  obtain ⟨n, hnn⟩ : ∃ n, n = l.length := ⟨_, rfl⟩
  have HNN := Lib.hid hnn
  rw [← hnn] at R0 h4 hn ⊢
  clear hb1 hr1 hw1 hA hnn
  go_enter Try.func3, Try.ntmps3
  go_wp2_with (first | (go_at_call 8; (with_reducible refine HN.out.mono ?_); rintro e w1 ⟨rfl, hw2⟩; rw [hw2, ← HW1.out]; clear hw2))
  go_loopw [7, 8, 38] (TpRel w most n) (fun _ _ i _ => n - (RowKit.intOf i).toNat)
  case atStart => exact R0.out
  case round =>
    obtain ⟨j, g, v, L, rfl, hj, rfl, hp, hg, hLj⟩ := hrel
    clear R0 HN HW1
    by_cases hlt : j < n
    · have hlt' : (j : Int) < (n : Int) := by omega
      obtain ⟨b, off, rfl, hbB, hcell⟩ : ∃ b off, A = some ⟨b, off, none⟩ ∧ b < w.heap.size ∧ ∀ j (hj : j < l.length), w.cell? ⟨b, off + j * 3, none⟩ = some (.int .i64 l[j].k) ∧ w.cell? ⟨b, off + j * 3 + 1, none⟩ = some (.int .i64 l[j].n) ∧ w.cell? ⟨b, off + j * 3 + 2, none⟩ = some (.int .u64 (l[j].a : Int)) ∧ (Lit.int .i64 l[j].n).wf = true ∧ (Lit.int .u64 (l[j].a : Int)).wf = true ∧ l[j].a ≤ lastT := by
        rcases HA.out with h0 | h0
        · have := HNN.out; rw [h0] at this; simp at this; omega
        · exact h0
      obtain ⟨hcK, hcN, hcB, _, _, hal⟩ := hcell j (by rw [← HNN.out]; exact hlt)
      have hcK' := (hp.b.cell (p := ⟨b, off + j * 3, none⟩) hbB).trans hcK
      have hcN' := (hp.b.cell (p := ⟨b, off + j * 3 + 1, none⟩) hbB).trans hcN
      have hcB' := (hp.b.cell (p := ⟨b, off + j * 3 + 2, none⟩) hbB).trans hcB
      generalize l[j]'(by rw [← HNN.out]; exact hlt) = o at *
      obtain ⟨kd, N, t⟩ := o
      simp only at hcK' hcN' hcB' hal
      clear hcK hcN hcB hcell HA HNN hbB
      have HREL : Hid (∀ g v u L wr', TP w g most v u L wr' → LG most L → L.length ≤ j + 1 → TpRel w most n (.pointer (some ⟨g, 0, none⟩)) u (.int .i64 ((j : Int) + 1)) wr') := Lib.hid (fun g v u L wr' p h1 h2 => ⟨j + 1, g, v, L, by go_num, by omega, rfl, p, h1, h2⟩)
      obtain ⟨S, hS⟩ : ∃ S : Go.Obj, S = .cells #[.int .i64 kd, .int .i64 N, .int .u64 (t : Int)] 29 (0, 0) := ⟨_, rfl⟩
      have hq : TQ w wr.heap.size S g most v u8 (ordT L) L (wr.alloc (.cells #[.int .i64 kd, .int .i64 N, .int .u64 (t : Int)] 29)) := by rw [hS]; exact hp.boxed _ 29
      have HQ : Hid (∀ W g v u O L, TQ w wr.heap.size S g most v u O L W → W.cell? ⟨wr.heap.size, 0, none⟩ = some (.int .i64 kd) ∧ W.cell? ⟨wr.heap.size, 1, none⟩ = some (.int .i64 N) ∧ W.cell? ⟨wr.heap.size, 2, none⟩ = some (.int .u64 (t : Int))) := Lib.hid (fun W g v u O L h => by
        have hh := h.sS
        rw [hS] at hh
        refine ⟨?_, ?_, ?_⟩
        all_goals
          unfold World.cell?
          rw [hh]
          rfl)
      have hj60 : j < 60 := by omega
      clear hS
      by_cases k0 : kd = 0
      · subst k0
        have hg2 := hg.set N t hal
        have H9 := Lib.hid (hq.set hg h0 hm N t)
        have H10 : Hid (∀ W v', TQ w wr.heap.size S g most v' u8 (ordT (setT L most (N, t))) L W → Calls Try.prog 10 #[u8, .int .i64 (most : Int), .agg #[.int .i64 N, .int .u64 (t : Int)]] W fun e w' => ∃ u', e = .returned (.tuple #[u', .int .i64 (setE L most (N, t) : Int)]) ∧ TQ w wr.heap.size S g most v' u' (ordT (setT L most (N, t))) (setT L most (N, t)) w') := Lib.hid (fun W v' h => h.rset hg hm N t)
        have H18 : Hid (∀ W v' u' z, TQ w wr.heap.size S g most v' u' (ordT (setT L most (N, t))) (setT L most (N, t)) W → Calls Try.prog 18 #[.pointer (some ⟨g, 0, none⟩), u', .int .i64 z] W fun e w' => e = .returned (.bool true) ∧ TQ w wr.heap.size S g most v' u' (ordT (setT L most (N, t))) (setT L most (N, t)) w') := Lib.hid (fun W v' u' z h => h.like hg2 h0 (by have := setT_le L most (N, t); omega) z)
        have HG2 := Lib.hid hg2
        have HLE : Hid ((setT L most (N, t)).length ≤ j + 1) := Lib.hid (by have := setT_le L most (N, t); omega)
        clear hp hq hg hg2 hLj HL
        generalize setT L most (N, t) = L2 at *
        generalize setE L most (N, t) = E at *
        go_wp2_with (first
          | (go_at_call 9; (with_reducible refine H9.out.mono ?_); rintro e2 w2 ⟨v2, rfl, hq2⟩; obtain ⟨c0, c1, c2⟩ := HQ.out _ _ _ _ _ _ hq2)
          | (go_at_call 10; (with_reducible refine (H10.out _ _ hq2).mono ?_); rintro e3 w3 ⟨u3, rfl, hq3⟩)
          | (go_at_call 18; (with_reducible refine (H18.out _ _ _ _ hq3).mono ?_); rintro e4 w4 ⟨rfl, hq4⟩; obtain ⟨d0, d1, d2⟩ := HQ.out _ _ _ _ _ _ hq4)
          | (go_at_call 18; (with_reducible refine (H18.out _ _ _ _ hq4).mono ?_); rintro e5 w5 ⟨rfl, hq5⟩))
        go_roundw
        case rel => exact HREL.out _ _ _ _ _ hq5.plain HG2.out HLE.out
        case measure => simp [RowKit.intOf]; omega
      by_cases k1 : kd = 1
      · subst k1
        have hg2 : LG most (cutT L N) := hg.filter _
        have hle2 : (cutT L N).length ≤ L.length := cut_le N
        have H12 := Lib.hid (hq.rcut hg hm N)
        have H13 : Hid (∀ W u', TQ w wr.heap.size S g most v u' (ordT L) (cutT L N) W → Calls Try.prog 13 #[.pointer (some ⟨g, 0, none⟩), .int .i64 N] W fun e w' => ∃ v', e = .returned (.bool (hasT L N)) ∧ TQ w wr.heap.size S g most v' u' (ordT (cutT L N)) (cutT L N) w') := Lib.hid (fun W u' h => h.cancel hg h0 hm N)
        have H18 : Hid (∀ W v' u' z, TQ w wr.heap.size S g most v' u' (ordT (cutT L N)) (cutT L N) W → Calls Try.prog 18 #[.pointer (some ⟨g, 0, none⟩), u', .int .i64 z] W fun e w' => e = .returned (.bool true) ∧ TQ w wr.heap.size S g most v' u' (ordT (cutT L N)) (cutT L N) w') := Lib.hid (fun W v' u' z h => h.like hg2 h0 (by omega) z)
        have HG2 := Lib.hid hg2
        have HLE : Hid ((cutT L N).length ≤ j + 1) := Lib.hid (by omega)
        have H11 := hq.find N
        cases hh : hasT L N with
        | false =>
          rw [plT_no hh] at H11
          have H11 := Lib.hid H11
          rw [hh] at H13
          clear hp hq hg hg2 hLj HL hle2 hh
          generalize cutT L N = L2 at *
          go_wp2_with (first
            | (go_at_call 11; (with_reducible refine H11.out.mono ?_); rintro e2 w2 ⟨rfl, hw2⟩; rw [hw2]; clear hw2 w2)
            | (go_at_call 12; (with_reducible refine H12.out.mono ?_); rintro e2 w2 ⟨u2, rfl, hq2⟩; obtain ⟨c0, c1, c2⟩ := HQ.out _ _ _ _ _ _ hq2)
            | (go_at_call 13; (with_reducible refine (H13.out _ _ hq2).mono ?_); rintro e3 w3 ⟨v3, rfl, hq3⟩)
            | (go_at_call 18; (with_reducible refine (H18.out _ _ _ _ hq3).mono ?_); rintro e4 w4 ⟨rfl, hq4⟩; obtain ⟨d0, d1, d2⟩ := HQ.out _ _ _ _ _ _ hq4)
            | (go_at_call 18; (with_reducible refine (H18.out _ _ _ _ hq4).mono ?_); rintro e5 w5 ⟨rfl, hq5⟩))
          go_roundw
          case rel => exact HREL.out _ _ _ _ _ hq5.plain HG2.out HLE.out
          case measure => simp [RowKit.intOf]; omega
        | true =>
          have hnn : ¬ plT L N < 0 := fun x => by have := (plT_neg L N).1 x; rw [hh] at this; cases this
          have H11 := Lib.hid H11
          rw [hh] at H13
          clear hp hq hg hg2 hLj HL hle2 hh
          generalize cutT L N = L2 at *
          generalize plT L N = z at *
          have hz1 : z ≥ 0 := by omega
          have hz2 : decide (z ≥ 0) = true := decide_eq_true hz1
          have hz3 : 0 ≤ z := hz1
          go_wp2_with (first
            | (go_at_call 11; (with_reducible refine H11.out.mono ?_); rintro e2 w2 ⟨rfl, hw2⟩; rw [hw2]; clear hw2 w2)
            | (go_at_call 12; (with_reducible refine H12.out.mono ?_); rintro e2 w2 ⟨u2, rfl, hq2⟩; obtain ⟨c0, c1, c2⟩ := HQ.out _ _ _ _ _ _ hq2)
            | (go_at_call 13; (with_reducible refine (H13.out _ _ hq2).mono ?_); rintro e3 w3 ⟨v3, rfl, hq3⟩)
            | (go_at_call 18; (with_reducible refine (H18.out _ _ _ _ hq3).mono ?_); rintro e4 w4 ⟨rfl, hq4⟩; obtain ⟨d0, d1, d2⟩ := HQ.out _ _ _ _ _ _ hq4)
            | (go_at_call 18; (with_reducible refine (H18.out _ _ _ _ hq4).mono ?_); rintro e5 w5 ⟨rfl, hq5⟩))
          go_roundw
          case rel => exact HREL.out _ _ _ _ _ hq5.plain HG2.out HLE.out
          case measure => simp [RowKit.intOf]; omega
      by_cases k2 : kd = 2
      · subst k2
        have hg2 : LG most (L.filter (fun x => !dueT t x)) := hg.filter _
        have hle2 : (L.filter (fun x => !dueT t x)).length ≤ L.length := List.length_filter_le _ _
        have H14 := Lib.hid (hq.rdue hg (by omega) t)
        have H16 : Hid (∀ W u' vk, TQ w wr.heap.size S g most v u' (ordT L) (L.filter (fun x => !dueT t x)) W → Apart W g v vk ((ordT L).filter (dueT t)) → Calls Try.prog 16 #[.pointer (some ⟨g, 0, none⟩), .int .u64 (t : Int)] W fun e w' => ∃ v' vp, e = .returned vp ∧ TQ w wr.heap.size S g most v' u' (ordT (L.filter (fun x => !dueT t x))) (L.filter (fun x => !dueT t x)) w' ∧ RowAt w' 3 1 vp ((ordT L).filter (dueT t)).length (keysV ((ordT L).filter (dueT t))) ∧ RowAt w' 3 1 vk ((ordT L).filter (dueT t)).length (keysV ((ordT L).filter (dueT t)))) := Lib.hid (fun W u' vk h hk => h.due hg h0 hm t hk)
        have H15 : Hid (∀ W vp vk, RowAt W 3 1 vp ((ordT L).filter (dueT t)).length (keysV ((ordT L).filter (dueT t))) → RowAt W 3 1 vk ((ordT L).filter (dueT t)).length (keysV ((ordT L).filter (dueT t))) → Calls Try.prog 15 #[vp, vk] W fun e w' => e = .returned (.bool true) ∧ Below W.heap.size W w') := Lib.hid (fun W vp vk h1 h2 => ints_same vp vk _ W h1 h2)
        have H18 : Hid (∀ W v' u' z, TQ w wr.heap.size S g most v' u' (ordT (L.filter (fun x => !dueT t x))) (L.filter (fun x => !dueT t x)) W → Calls Try.prog 18 #[.pointer (some ⟨g, 0, none⟩), u', .int .i64 z] W fun e w' => e = .returned (.bool true) ∧ TQ w wr.heap.size S g most v' u' (ordT (L.filter (fun x => !dueT t x))) (L.filter (fun x => !dueT t x)) w') := Lib.hid (fun W v' u' z h => h.like hg2 h0 (by omega) z)
        have HG2 := Lib.hid hg2
        have HLE : Hid ((L.filter (fun x => !dueT t x)).length ≤ j + 1) := Lib.hid (by omega)
        clear hp hq hg hg2 hLj HL hle2 k0 k1
        generalize (ordT L).filter (dueT t) = K at *
        generalize L.filter (fun x => !dueT t x) = L2 at *
        go_wp2_with (first
          | (go_at_call 14; (with_reducible refine H14.out.mono ?_); rintro e2 w2 ⟨vk, u2, rfl, hq2, hk2⟩; obtain ⟨c0, c1, c2⟩ := HQ.out _ _ _ _ _ _ hq2)
          | (go_at_call 16; (with_reducible refine (H16.out _ _ _ hq2 hk2).mono ?_); rintro e3 w3 ⟨v3, vp, rfl, hq3, hp3, hk3⟩)
          | (go_at_call 15; (with_reducible refine (H15.out _ _ _ hp3 hk3).mono ?_); rintro e6 w6 ⟨rfl, hb6⟩; have hq6 := hq3.below hb6)
          | (go_at_call 18; (with_reducible refine (H18.out _ _ _ _ hq6).mono ?_); rintro e4 w4 ⟨rfl, hq4⟩; obtain ⟨d0, d1, d2⟩ := HQ.out _ _ _ _ _ _ hq4)
          | (go_at_call 18; (with_reducible refine (H18.out _ _ _ _ hq4).mono ?_); rintro e5 w5 ⟨rfl, hq5⟩))
        go_roundw
        case rel => exact HREL.out _ _ _ _ _ hq5.plain HG2.out HLE.out
        case measure => simp [RowKit.intOf]; omega
      have e0 : (kd == 0) = false := by rw [beq_eq_false_iff_ne]; exact k0
      have e1 : (kd == 1) = false := by rw [beq_eq_false_iff_ne]; exact k1
      have e2 : (kd == 2) = false := by rw [beq_eq_false_iff_ne]; exact k2
      have H17 := Lib.hid (hq.cloned hg h0 hm)
      have H9 : Hid (∀ W g2 v2, TO w wr.heap.size S g2 most v2 u8 (ordT L) L g v (ordT L) W → Calls Try.prog 9 #[.pointer (some ⟨g, 0, none⟩), .int .i64 (-7), .int .u64 1] W fun e w' => ∃ r v1 O1, e = .returned r ∧ O1.length ≤ 100000 ∧ TO w wr.heap.size S g2 most v2 u8 (ordT L) L g v1 O1 w') := Lib.hid (fun W g2 v2 h => h.set hg h0 hm (-7) 1)
      have H16 : Hid (∀ W g2 v2 v1 O1, O1.length ≤ 100000 → TO w wr.heap.size S g2 most v2 u8 (ordT L) L g v1 O1 W → Calls Try.prog 16 #[.pointer (some ⟨g, 0, none⟩), .int .u64 (t : Int)] W fun e w' => ∃ r v3 O3, e = .returned r ∧ TO w wr.heap.size S g2 most v2 u8 (ordT L) L g v3 O3 w') := Lib.hid (fun W g2 v2 v1 O1 hl h => h.due h0 hl t)
      have H18 : Hid (∀ W g2 v' u' z, TQ w wr.heap.size S g2 most v' u' (ordT L) L W → Calls Try.prog 18 #[.pointer (some ⟨g2, 0, none⟩), u', .int .i64 z] W fun e w' => e = .returned (.bool true) ∧ TQ w wr.heap.size S g2 most v' u' (ordT L) L w') := Lib.hid (fun W g2 v' u' z h => h.like hg h0 (by omega) z)
      have HG2 := Lib.hid hg
      have HLE : Hid (L.length ≤ j + 1) := Lib.hid (by omega)
      clear hp hq hg hLj HL
      go_wp2_with (first
        | (go_at_call 17; (with_reducible refine H17.out.mono ?_); rintro e2 w2 ⟨g2, v2, rfl, ho2⟩; obtain ⟨c0, c1, c2⟩ := HQ.out _ _ _ _ _ _ ho2.p)
        | (go_at_call 9; (with_reducible refine (H9.out _ _ _ ho2).mono ?_); rintro e3 w3 ⟨r3, v3, O3, rfl, hl3, ho3⟩; obtain ⟨d0, d1, d2⟩ := HQ.out _ _ _ _ _ _ ho3.p)
        | (go_at_call 16; (with_reducible refine (H16.out _ _ _ _ _ hl3 ho3).mono ?_); rintro e6 w6 ⟨r6, v6, O6, rfl, ho6⟩)
        | (go_at_call 18; (with_reducible refine (H18.out _ _ _ _ _ ho6.p).mono ?_); rintro e4 w4 ⟨rfl, hq4⟩; obtain ⟨f0, f1, f2⟩ := HQ.out _ _ _ _ _ _ hq4)
        | (go_at_call 18; (with_reducible refine (H18.out _ _ _ _ _ hq4).mono ?_); rintro e5 w5 ⟨rfl, hq5⟩))
      go_roundw
      case rel => exact HREL.out _ _ _ _ _ hq5.plain HG2.out HLE.out
      case measure => simp [RowKit.intOf]; omega
    · obtain rfl : j = n := by omega
      have hlt' : ¬ (j : Int) < (j : Int) := by omega
      have HB := Lib.hid hp.b
      clear hp
      go_wp2_with (go_at_call 7; (with_reducible refine (HL.out _ HB.out).mono ?_); rintro e w3 ⟨rfl, hb3⟩)
      go_ret
      exact ⟨rfl, hb3⟩
theorem tplays_walk (z a : Int) (A : Option Addr) (c : Nat) (l : List TopR) (w : World) (hA : TopsAt w A l) : Calls Try.prog 3 #[.int .i64 z, .slice A l.length c, .int .i64 a] w fun e w' => e = .returned (.bool true) ∧ Below w.heap.size w w' := by
  by_cases h : 60 < l.length
  · exact tplays_long z a A l.length c w h
  · by_cases hz : z < 1 ∨ 65536 < z
    · exact tplays_out z a A l.length c w (by omega) hz
    · obtain ⟨most, rfl⟩ : ∃ m : Nat, z = (m : Int) := ⟨z.toNat, by omega⟩
      exact tplays_in most a A c l w (by omega) (by omega) (by omega) hA
end Go.Proofs.Ytkebgcalphajhaa
