/- The walk of RingPlays. No condition. -/
import Derived.Test.YtkebgcalphajhaaRao
namespace Go.Proofs.Ytkebgcalphajhaa
open Go.RowKit Go.Lib Go.Shelf
set_option maxRecDepth 100000
set_option maxHeartbeats 2000000
structure OpR where
  k : Int
  n : Int
  A : Option Addr
  c : Nat
  K : List Int
/-- The address leads to the calls l. -/
def OpsAt (w : World) (A : Option Addr) (l : List OpR) : Prop := l = [] ∨ ∃ b off, A = some ⟨b, off, none⟩ ∧ b < w.heap.size ∧ ∀ j (hj : j < l.length), w.cell? ⟨b, off + j * 3, none⟩ = some (.int .i64 l[j].k) ∧ w.cell? ⟨b, off + j * 3 + 1, none⟩ = some (.int .i64 l[j].n) ∧ w.cell? ⟨b, off + j * 3 + 2, none⟩ = some (.slice l[j].A l[j].K.length l[j].c) ∧ OpL w l[j].A l[j].c l[j].K
def RpRel (w : World) (most n : Nat) (s7 s8 s42 : Value) (wr : World) : Prop := ∃ j g : Nat, ∃ v L, s42 = .int .i64 (j : Int) ∧ j ≤ n ∧ s7 = .pointer (some ⟨g, 0, none⟩) ∧ RP w g most v s8 L L wr
theorem rplays_long (z a : Int) (A : Option Addr) (n c : Nat) (w : World) (h : 60 < n) : Calls Try.prog 5 #[.int .i64 z, .slice A n c, .int .i64 a] w fun e w' => e = .returned (.bool true) ∧ Below w.heap.size w w' := by
  have HL := ringlives_at w
  have h4 : (n : Int) > 60 := by omega
  go_enter Try.func5, Try.ntmps5
  go_wp2_with (first | (go_at_call 21; (with_reducible refine (HL.out _ (Below.refl _ _)).mono ?_); rintro e w2 ⟨rfl, hb2⟩))
  go_ret
  exact ⟨rfl, hb2⟩
theorem rplays_out (z a : Int) (A : Option Addr) (n c : Nat) (w : World) (h : n ≤ 60) (hz : z < 1 ∨ 65536 < z) : Calls Try.prog 5 #[.int .i64 z, .slice A n c, .int .i64 a] w fun e w' => e = .returned (.bool true) ∧ Below w.heap.size w w' := by
  have HL := ringlives_at w
  have HN := Lib.hid (rnew_no z hz w)
  have h4 : ¬ (n : Int) > 60 := by omega
  rcases hz with hz | hz
  · go_enter Try.func5, Try.ntmps5
    go_wp2_with (first | (go_at_call 22; (with_reducible refine HN.out.mono ?_); rintro e w1 ⟨rfl, rfl⟩) | (go_at_call 21; (with_reducible refine (HL.out _ (Below.refl _ _)).mono ?_); rintro e w2 ⟨rfl, hb2⟩))
    go_ret
    exact ⟨rfl, hb2⟩
  · have hz1 : ¬ z < 1 := by omega
    have hz2 : z > 65536 := hz
    go_enter Try.func5, Try.ntmps5
    go_wp2_with (first | (go_at_call 22; (with_reducible refine HN.out.mono ?_); rintro e w1 ⟨rfl, rfl⟩) | (go_at_call 21; (with_reducible refine (HL.out _ (Below.refl _ _)).mono ?_); rintro e w2 ⟨rfl, hb2⟩))
    go_ret
    exact ⟨rfl, hb2⟩
theorem rplays_in (most : Nat) (a : Int) (A : Option Addr) (c : Nat) (l : List OpR) (w : World) (h0 : 0 < most) (hm : most ≤ 65536) (hn : l.length ≤ 60) (hA : OpsAt w A l) : Calls Try.prog 5 #[.int .i64 (most : Int), .slice A l.length c, .int .i64 a] w fun e w' => e = .returned (.bool true) ∧ Below w.heap.size w w' := by
  have HL := ringlives_at w
  have HN := Lib.hid (rnew_yes most h0 hm w)
  obtain ⟨w1, hw1⟩ : ∃ w1, w1 = w.alloc (.cells #[.int .i64 (most : Int), .slice none 0 0] 93) := ⟨_, rfl⟩
  have hb1 : Below w.heap.size w w1 := by rw [hw1]; exact (Below.refl _ w).alloc (Nat.le_refl _) _
  have hr1 : Ring w1 w.heap.size most (.slice none 0 0) [] := by rw [hw1]; exact ring_new most w
  have R0 : Hid (RpRel w most l.length (.pointer (some ⟨w.heap.size, 0, none⟩)) (.slice none 0 0) (.int .i64 0) w1) := Lib.hid ⟨0, w.heap.size, .slice none 0 0, [], rfl, by omega, rfl, hb1, hr1, RowAt.nil _ 3 1, Nat.le_refl _, (fun k hk => by cases hk), (fun k hk => by cases hk), (fun h => by cases h), (fun b h => by cases h), by simp⟩
  have HA := Lib.hid hA
  have HW1 := Lib.hid hw1
  have h2 : ¬ (most : Int) < 1 := by omega
  have h3 : ¬ (most : Int) > 65536 := by omega
  have h4 : ¬ (l.length : Int) > 60 := by omega
  obtain ⟨n, hnn⟩ : ∃ n, n = l.length := ⟨_, rfl⟩
  have HNN := Lib.hid hnn
  rw [← hnn] at R0 h4 hn ⊢
  clear hb1 hr1 hw1 hA hnn
  go_enter Try.func5, Try.ntmps5
  go_wp2_with (first | (go_at_call 22; (with_reducible refine HN.out.mono ?_); rintro e w1 ⟨rfl, rfl⟩; rw [← HW1.out]))
  go_loopw [7, 8, 42] (RpRel w most n) (fun _ _ i _ => n - (RowKit.intOf i).toNat)
  case atStart => exact R0.out
  case round =>
    obtain ⟨j, g, v, L, rfl, hj, rfl, hp⟩ := hrel
    clear R0 HN HW1
    by_cases hlt : j < n
    · have hlt' : (j : Int) < (n : Int) := by omega
      obtain ⟨b, off, rfl, hbB, hcell⟩ : ∃ b off, A = some ⟨b, off, none⟩ ∧ b < w.heap.size ∧ ∀ j (hj : j < l.length), w.cell? ⟨b, off + j * 3, none⟩ = some (.int .i64 l[j].k) ∧ w.cell? ⟨b, off + j * 3 + 1, none⟩ = some (.int .i64 l[j].n) ∧ w.cell? ⟨b, off + j * 3 + 2, none⟩ = some (.slice l[j].A l[j].K.length l[j].c) ∧ OpL w l[j].A l[j].c l[j].K := by
        rcases HA.out with h0 | h0
        · have := HNN.out; rw [h0] at this; simp at this; omega
        · exact h0
      obtain ⟨hcK, hcN, hcB, hM⟩ := hcell j (by rw [← HNN.out]; exact hlt)
      have hcK' := (hp.b.cell (p := ⟨b, off + j * 3, none⟩) hbB).trans hcK
      have hcN' := (hp.b.cell (p := ⟨b, off + j * 3 + 1, none⟩) hbB).trans hcN
      have hcB' := (hp.b.cell (p := ⟨b, off + j * 3 + 2, none⟩) hbB).trans hcB
      have hj100 : j < 100 := by omega
      generalize l[j]'(by rw [← HNN.out]; exact hlt) = o at *
      obtain ⟨kd, N, A2, c2, M⟩ := o
      simp only at hcK' hcN' hcB' hM
      clear hcK hcN hcB hcell HA HNN
      have HM := Lib.hid hM
      have HREL : Hid (∀ g v u L wr', RP w g most v u L L wr' → RpRel w most n (.pointer (some ⟨g, 0, none⟩)) u (.int .i64 ((j : Int) + 1)) wr') := Lib.hid (fun g v u L wr' p => ⟨j + 1, g, v, L, by go_num, by omega, rfl, p⟩)
      obtain ⟨ml, hml⟩ : ∃ ml, ml = M.length := ⟨_, rfl⟩
      have HML := Lib.hid hml
      rw [← hml] at hcB'
      have HP := Lib.hid hp
      clear hml hM
      by_cases hbig : 20 < ml
      · have hbig' : (20 : Int) < (ml : Int) := by omega
        have HLV2 : Hid (∀ u, Calls Try.prog 21 #[] (wr.alloc u) fun e w4 => e = .returned (.bool true) ∧ Below w.heap.size w w4) := Lib.hid (fun u => HL.out _ (HP.out.b.alloc HP.out.b.size u))
        clear HL HP HREL hp
        go_wp2_with (go_at_call 21; (with_reducible refine (HLV2.out _).mono ?_); rintro d5 w5 ⟨rfl, hb5⟩)
        go_ret
        exact ⟨rfl, hb5⟩
      have hbig' : ¬ (20 : Int) < (ml : Int) := by omega
      have HQ : Hid (∀ W', Below (wr.alloc (.cells #[.int .i64 kd, .int .i64 N, .slice A2 ml c2] 57)).heap.size (wr.alloc (.cells #[.int .i64 kd, .int .i64 N, .slice A2 ml c2] 57)) W' → W'.cell? ⟨wr.heap.size, 0, none⟩ = some (.int .i64 kd) ∧ W'.cell? ⟨wr.heap.size, 1, none⟩ = some (.int .i64 N) ∧ W'.cell? ⟨wr.heap.size, 2, none⟩ = some (.slice A2 ml c2)) := Lib.hid (fun W' h => by
        have hh := heap_alloc_new wr (.cells #[.int .i64 kd, .int .i64 N, .slice A2 ml c2] 57)
        have hl := (Array.getElem?_eq_some_iff.1 hh).1
        refine ⟨(h.cell (p := ⟨wr.heap.size, 0, none⟩) hl).trans ?_, (h.cell (p := ⟨wr.heap.size, 1, none⟩) hl).trans ?_, (h.cell (p := ⟨wr.heap.size, 2, none⟩) hl).trans ?_⟩
        all_goals
          unfold World.cell?
          rw [hh]
          rfl)
      have hpA : RP w g most v u8 L L (wr.alloc (.cells #[.int .i64 kd, .int .i64 N, .slice A2 ml c2] 57)) := hp.below ((Below.refl _ wr).alloc (Nat.le_refl _) _)
      have hL := hp.le
      have HPA := Lib.hid hpA
      have HLK : Hid (∀ W v u L, RP w g most v u L L W → Calls Try.prog 29 #[.pointer (some ⟨g, 0, none⟩), u, .int .i64 (most : Int), .int .i64 a] W fun e w' => e = .returned (.bool true) ∧ RP w g most v u L L w') := Lib.hid (fun W v u L h => h.like h0 hm a)
      by_cases hout : kd < 0 ∨ 3 < kd
      · have HC : Hid (Calls Try.prog 23 #[.pointer (some ⟨g, 0, none⟩)] (wr.alloc (.cells #[.int .i64 kd, .int .i64 N, .slice A2 ml c2] 57)) fun e w' => ∃ g' v', e = .returned (.pointer (some ⟨g', 0, none⟩)) ∧ RO w g' most v' u8 L L g v L w') := Lib.hid (hpA.cloned h0 hm)
        have HPO : Hid (∀ W g' v' v0 L0, RO w g' most v' u8 L L g v0 L0 W → Calls Try.prog 24 #[.pointer (some ⟨g, 0, none⟩)] W fun e w' => ∃ r v1 L1, e = .returned r ∧ RO w g' most v' u8 L L g v1 L1 w') := Lib.hid (fun W g' v' v0 L0 h => h.pop h0 hm)
        have HPU : Hid (∀ W g' v' v0 L0, RO w g' most v' u8 L L g v0 L0 W → Calls Try.prog 25 #[.pointer (some ⟨g, 0, none⟩), .int .i64 5] W fun e w' => ∃ r v1 L1, e = .returned r ∧ RO w g' most v' u8 L L g v1 L1 w') := Lib.hid (fun W g' v' v0 L0 h => h.push h0 hm 5)
        have HLK2 : Hid (∀ W g' v' v0 L0, RO w g' most v' u8 L L g v0 L0 W → Calls Try.prog 29 #[.pointer (some ⟨g', 0, none⟩), u8, .int .i64 (most : Int), .int .i64 a] W fun e w' => e = .returned (.bool true) ∧ RP w g' most v' u8 L L w') := Lib.hid (fun W g' v' v0 L0 h => h.p.like h0 hm a)
        clear hp hpA HP HPA HLK HQ HL HM HML hbB
        rcases hout with ho | ho
        · go_wp2_with (first
            | (go_at_call 23; (with_reducible refine HC.out.mono ?_); rintro e2 w2 ⟨g2, v2, rfl, ho2'⟩)
            | (go_at_call 24; (with_reducible refine (HPO.out _ _ _ _ _ ho2').mono ?_); rintro e3 w3 ⟨r3, v3, L3, rfl, ho3'⟩)
            | (go_at_call 25; (with_reducible refine (HPU.out _ _ _ _ _ ho3').mono ?_); rintro e4 w4 ⟨r4, v4, L4, rfl, ho4'⟩)
            | (go_at_call 29; (with_reducible refine (HLK2.out _ _ _ _ _ ho4').mono ?_); rintro e5 w5 ⟨rfl, hp5⟩))
          go_roundw
          case rel => exact HREL.out _ _ _ _ _ hp5
          case measure => simp [RowKit.intOf]; omega
        · have ho2 : ¬ kd < 0 := by omega
          have ho3 : kd > 3 := ho
          go_wp2_with (first
            | (go_at_call 23; (with_reducible refine HC.out.mono ?_); rintro e2 w2 ⟨g2, v2, rfl, ho2'⟩)
            | (go_at_call 24; (with_reducible refine (HPO.out _ _ _ _ _ ho2').mono ?_); rintro e3 w3 ⟨r3, v3, L3, rfl, ho3'⟩)
            | (go_at_call 25; (with_reducible refine (HPU.out _ _ _ _ _ ho3').mono ?_); rintro e4 w4 ⟨r4, v4, L4, rfl, ho4'⟩)
            | (go_at_call 29; (with_reducible refine (HLK2.out _ _ _ _ _ ho4').mono ?_); rintro e5 w5 ⟨rfl, hp5⟩))
          go_roundw
          case rel => exact HREL.out _ _ _ _ _ hp5
          case measure => simp [RowKit.intOf]; omega
      have ho1 : ¬ kd < 0 := by omega
      have ho2 : ¬ kd > 3 := by omega
      by_cases k0 : kd = 0
      · subst k0
        have HST : Hid (Calls Try.prog 26 #[.agg #[.int .i64 0, .int .i64 N, .slice A2 ml c2], u8, .int .i64 (most : Int)] (wr.alloc (.cells #[.int .i64 0, .int .i64 N, .slice A2 ml c2] 57)) (Stp2 w g most v L (pushL most L N) 0 (decide (L.length < most)) (wr.alloc (.cells #[.int .i64 0, .int .i64 N, .slice A2 ml c2] 57)))) := Lib.hid (hpA.stepped (step_pushes N _ u8 L most _ hpA.k hm))
        have HOP : Hid (∀ W u', RP w g most v u' L (pushL most L N) W → Calls Try.prog 25 #[.pointer (some ⟨g, 0, none⟩), .int .i64 N] W (RPe w g most u' (pushL most L N) (pushL most L N) (.int .i64 (pushE most L)))) := Lib.hid (fun W u' h => h.push h0 hm N)
        have HPE : Hid (pushE most L = if L.length < most then 0 else 31) := Lib.hid rfl
        clear hp hpA HP HPA HL HM HML hbB
        by_cases hfull : L.length < most
        · have hpe : pushE most L = 0 := by rw [HPE.out, if_pos hfull]
          rw [hpe] at HOP
          rw [decide_eq_true hfull] at HST
          clear hpe hfull hL HPE
          generalize pushL most L N = L2 at *
          go_wp2_with (first
            | (go_at_call 26; (with_reducible refine HST.out.mono ?_); rintro e2 w2 ⟨u2, rfl, hp2, hb2⟩; obtain ⟨c0, c1, c2'⟩ := HQ.out _ hb2)
            | (go_at_call 25; (with_reducible refine (HOP.out _ _ hp2).mono ?_); rintro e3 w3 ⟨v3, rfl, hp3⟩)
            | (go_at_call 29; (with_reducible refine (HLK.out _ _ _ _ hp3).mono ?_); rintro e4 w4 ⟨rfl, hp4⟩))
          go_roundw
          case rel => exact HREL.out _ _ _ _ _ hp4
          case measure => simp [RowKit.intOf]; omega
        · have hpe : pushE most L = 31 := by rw [HPE.out, if_neg hfull]
          rw [hpe] at HOP
          rw [decide_eq_false hfull] at HST
          clear hpe hfull hL HPE
          generalize pushL most L N = L2 at *
          go_wp2_with (first
            | (go_at_call 26; (with_reducible refine HST.out.mono ?_); rintro e2 w2 ⟨u2, rfl, hp2, hb2⟩; obtain ⟨c0, c1, c2'⟩ := HQ.out _ hb2)
            | (go_at_call 25; (with_reducible refine (HOP.out _ _ hp2).mono ?_); rintro e3 w3 ⟨v3, rfl, hp3⟩)
            | (go_at_call 29; (with_reducible refine (HLK.out _ _ _ _ hp3).mono ?_); rintro e4 w4 ⟨rfl, hp4⟩))
          go_roundw
          case rel => exact HREL.out _ _ _ _ _ hp4
          case measure => simp [RowKit.intOf]; omega
      by_cases k1 : kd = 1
      · subst k1
        have HST : Hid (Calls Try.prog 26 #[.agg #[.int .i64 1, .int .i64 N, .slice A2 ml c2], u8, .int .i64 (most : Int)] (wr.alloc (.cells #[.int .i64 1, .int .i64 N, .slice A2 ml c2] 57)) (Stp2 w g most v L (cutL L 0) (cutV L 0) (cutB L 0) (wr.alloc (.cells #[.int .i64 1, .int .i64 N, .slice A2 ml c2] 57)))) := Lib.hid (hpA.stepped (step_cuts 1 N 0 _ u8 L most _ hpA.k (by omega) (.inl ⟨rfl, rfl⟩)))
        have HOP : Hid (∀ W u', RP w g most v u' L (cutL L 0) W → Calls Try.prog 24 #[.pointer (some ⟨g, 0, none⟩)] W (RPe w g most u' (cutL L 0) (cutL L 0) (.tuple #[.int .i64 (cutV L 0), .bool (cutB L 0)]))) := Lib.hid (fun W u' h => h.pop h0 hm)
        clear hp hpA HP HPA HL HM HML hbB hL
        generalize cutL L 0 = L2 at *
        generalize cutV L 0 = x at *
        generalize cutB L 0 = t at *
        go_wp2_with (first
          | (go_at_call 26; (with_reducible refine HST.out.mono ?_); rintro e2 w2 ⟨u2, rfl, hp2, hb2⟩; obtain ⟨c0, c1, c2'⟩ := HQ.out _ hb2)
          | (go_at_call 24; (with_reducible refine (HOP.out _ _ hp2).mono ?_); rintro e3 w3 ⟨v3, rfl, hp3⟩)
          | (go_at_call 29; (with_reducible refine (HLK.out _ _ _ _ hp3).mono ?_); rintro e4 w4 ⟨rfl, hp4⟩))
        go_roundw
        case rel => exact HREL.out _ _ _ _ _ hp4
        case measure => simp [RowKit.intOf]; omega
      by_cases k2 : kd = 2
      · subst k2
        have HST : Hid (Calls Try.prog 26 #[.agg #[.int .i64 2, .int .i64 N, .slice A2 ml c2], u8, .int .i64 (most : Int)] (wr.alloc (.cells #[.int .i64 2, .int .i64 N, .slice A2 ml c2] 57)) (Stp2 w g most v L (cutL L N) (cutV L N) (cutB L N) (wr.alloc (.cells #[.int .i64 2, .int .i64 N, .slice A2 ml c2] 57)))) := Lib.hid (hpA.stepped (step_cuts 2 N N _ u8 L most _ hpA.k (by omega) (.inr ⟨by omega, by omega, by omega, rfl⟩)))
        have HOP : Hid (∀ W u', RP w g most v u' L (cutL L N) W → Calls Try.prog 27 #[.pointer (some ⟨g, 0, none⟩), .int .i64 N] W (RPe w g most u' (cutL L N) (cutL L N) (.tuple #[.int .i64 (cutV L N), .bool (cutB L N)]))) := Lib.hid (fun W u' h => h.cut h0 hm N)
        clear hp hpA HP HPA HL HM HML hbB hL
        generalize cutL L N = L2 at *
        generalize cutV L N = x at *
        generalize cutB L N = t at *
        go_wp2_with (first
          | (go_at_call 26; (with_reducible refine HST.out.mono ?_); rintro e2 w2 ⟨u2, rfl, hp2, hb2⟩; obtain ⟨c0, c1, c2'⟩ := HQ.out _ hb2)
          | (go_at_call 27; (with_reducible refine (HOP.out _ _ hp2).mono ?_); rintro e3 w3 ⟨v3, rfl, hp3⟩)
          | (go_at_call 29; (with_reducible refine (HLK.out _ _ _ _ hp3).mono ?_); rintro e4 w4 ⟨rfl, hp4⟩))
        go_roundw
        case rel => exact HREL.out _ _ _ _ _ hp4
        case measure => simp [RowKit.intOf]; omega
      obtain rfl : kd = 3 := by omega
      have hMl : M.length ≤ 65536 := by rw [← HML.out]; omega
      have HST : Hid (Calls Try.prog 26 #[.agg #[.int .i64 3, .int .i64 N, .slice A2 ml c2], u8, .int .i64 (most : Int)] (wr.alloc (.cells #[.int .i64 3, .int .i64 N, .slice A2 ml c2] 57)) (Stp2 w g most v L (fillL most L M) (fillN most L M : Int) true (wr.alloc (.cells #[.int .i64 3, .int .i64 N, .slice A2 ml c2] 57)))) := Lib.hid (by
        have := hpA.stepped (step_fill N u8 L M A2 c2 most _ hpA.k hL hm (HM.out.below hpA.b) hMl)
        rw [← HML.out] at this
        exact this)
      have HOP : Hid (∀ W u', RP w g most v u' L (fillL most L M) W → Calls Try.prog 28 #[.pointer (some ⟨g, 0, none⟩), .slice A2 ml c2] W (RPe w g most u' (fillL most L M) (fillL most L M) (.int .i64 (fillN most L M : Int)))) := Lib.hid (fun W u' h => by
        have := h.fill h0 hm A2 c2 M HM.out hMl
        rw [← HML.out] at this
        exact this)
      clear hp hpA HP HPA HL HM HML hbB hL hMl
      generalize fillL most L M = L2 at *
      generalize fillN most L M = x at *
      go_wp2_with (first
        | (go_at_call 26; (with_reducible refine HST.out.mono ?_); rintro e2 w2 ⟨u2, rfl, hp2, hb2⟩; obtain ⟨c0, c1, c2'⟩ := HQ.out _ hb2)
        | (go_at_call 28; (with_reducible refine (HOP.out _ _ hp2).mono ?_); rintro e3 w3 ⟨v3, rfl, hp3⟩)
        | (go_at_call 29; (with_reducible refine (HLK.out _ _ _ _ hp3).mono ?_); rintro e4 w4 ⟨rfl, hp4⟩))
      go_roundw
      case rel => exact HREL.out _ _ _ _ _ hp4
      case measure => simp [RowKit.intOf]; omega
    · obtain rfl : j = n := by omega
      have hlt' : ¬ (j : Int) < (j : Int) := by omega
      have HB := Lib.hid hp.b
      clear hp
      go_wp2_with (go_at_call 21; (with_reducible refine (HL.out _ HB.out).mono ?_); rintro e w3 ⟨rfl, hb3⟩)
      go_ret
      exact ⟨rfl, hb3⟩
theorem rplays_walk (z a : Int) (A : Option Addr) (c : Nat) (l : List OpR) (w : World) (hA : OpsAt w A l) : Calls Try.prog 5 #[.int .i64 z, .slice A l.length c, .int .i64 a] w fun e w' => e = .returned (.bool true) ∧ Below w.heap.size w w' := by
  by_cases h : 60 < l.length
  · exact rplays_long z a A l.length c w h
  · by_cases hz : z < 1 ∨ 65536 < z
    · exact rplays_out z a A l.length c w (by omega) hz
    · obtain ⟨most, rfl⟩ : ∃ m : Nat, z = (m : Int) := ⟨z.toNat, by omega⟩
      exact rplays_in most a A c l w (by omega) (by omega) (by omega) hA
end Go.Proofs.Ytkebgcalphajhaa
