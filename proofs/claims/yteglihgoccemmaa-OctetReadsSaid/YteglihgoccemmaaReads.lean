/- The walk of the law OctetReads. Conditions: the arguments are values of their types. -/
import Derived.Test.YteglihgoccemmaaPair
import Derived.LoopTactic
namespace Go.Proofs.Yteglihgoccemmaa
open Go.RowKit
set_option linter.unusedVariables false
set_option linter.unusedSimpArgs false

/-- The address leads to the pairs of numbers l, in a block below B. -/
def OpsAt (w : World) (B : Nat) (A : Option Addr) (l : List (Int × Int)) : Prop :=
  l = [] ∨ ∃ b off, A = some ⟨b, off, none⟩ ∧ b < B ∧ ∀ j (hj : j < l.length), w.cell? ⟨b, off + j * 2, none⟩ = some (.int .i64 l[j].1) ∧ w.cell? ⟨b, off + j * 2 + 1, none⟩ = some (.int .i64 l[j].2) ∧ l[j].2 ≤ 9223372036854775807

theorem own_other {w0 w w' : World} {x n : Nat} {v : Value} {X : List UInt8} (h : w.ownsRow w0.heap.size 5 1 v n (bcells X)) (hg : w.grownBy w' (some x)) (hx : x < w0.heap.size) : w'.ownsRow w0.heap.size 5 1 v n (bcells X) :=
  h.kept hg (by
    cases hv : v.ownBlock with
    | none => exact .inl rfl
    | some k =>
      right
      have := (h.lt k hv).1
      simp
      omega)

theorem Pair.drew {w0 w : World} {g h c : Nat} {A : Option Addr} {xs : List UInt8} {s1 s2 : St} (p : Pair w0 g h A c xs w s1 s2) : Pair w0 g h A c xs w.drew s1 s2 :=
  p.below (B := w.heap.size) ⟨rfl, rfl, rfl, Nat.le_refl _, fun _ _ => rfl⟩ (Nat.le_refl _)

/-- The relation of the loop. -/
def ReadsRel (w : World) (g h : Nat) (A : Option Addr) (c : Nat) (xs : List UInt8) (m : Nat) (i : Value) (wr : World) : Prop :=
  ∃ (j : Nat) (s : St), j ≤ m ∧ i = .int .i64 (j : Int) ∧ Pair w g h A c xs wr s s

set_option maxRecDepth 100000 in
set_option maxHeartbeats 4000000 in
theorem reads_near (A L : Option Addr) (c d : Nat) (xs : List UInt8) (l : List (Int × Int)) (w : World) (hx : BAt w w.heap.size A xs) (hc : xs.length ≤ c) (hl : xs.length ≤ 4000) (ho : OpsAt w w.heap.size L l) (hm : l.length ≤ 200) :
    Calls Try.prog 4 #[.slice A xs.length c, .slice L l.length d] w fun e w' => e = .returned (.bool true) ∧ Below w.heap.size w w' := by
  have HO := Lib.hid (open_any A c xs w hx (by omega))
  have d1 : decide (4000 < (xs.length : Int)) = false := by simp; omega
  have d2 : decide (200 < (l.length : Int)) = false := by simp; omega
  go_enter Try.func4, Try.ntmps4
  go_wp2_with (go_at_call 18; refine (HO.out).mono ?_; rintro e w1 ⟨g, rfl, hg, hr1, hb1⟩)
  have P0 : Pair w g w1.heap.size A c xs (w1.alloc (.cells #[.slice A xs.length c, .int .i64 0, .bool false] 39)) ⟨xs, false⟩ ⟨xs, false⟩ := by
    have hbl := (Below.refl w1.heap.size w1).alloc (Nat.le_refl _) (.cells #[.slice A xs.length c, .int .i64 0, .bool false] 39)
    refine ⟨hr1.below hbl (Nat.le_refl _), ⟨0, ⟨heap_alloc_new w1 _, ?_, Nat.zero_le _, hc, by omega, by simp⟩, by simp⟩, hb1.alloc hb1.size _, hg, hb1.size, ?_⟩
    · exact ((hx.below hb1).more hb1.size |>.below hbl).more (by simp)
    · have := hr1.lt
      omega
  have hlt1 : g < w1.heap.size := hr1.lt
  have HP0 := Lib.hid P0
  have HO2 := Lib.hid ho
  clear P0 hr1 hb1 hx ho hc hl d1 d2 HO
  go_loopw [27] (ReadsRel w g w1.heap.size A c xs l.length) (fun i _ => l.length - (intOf i).toNat)
  case atStart => exact ⟨0, ⟨xs, false⟩, Nat.zero_le _, rfl, HP0.out⟩
  case round =>
    obtain ⟨j, st, hj, rfl, hp⟩ := hrel
    clear HP0
    by_cases hlt : j < l.length
    · obtain ⟨b, off, rfl, hbB, hcell⟩ : ∃ b off, L = some ⟨b, off, none⟩ ∧ b < w.heap.size ∧ ∀ j (hj : j < l.length), w.cell? ⟨b, off + j * 2, none⟩ = some (.int .i64 l[j].1) ∧ w.cell? ⟨b, off + j * 2 + 1, none⟩ = some (.int .i64 l[j].2) ∧ l[j].2 ≤ 9223372036854775807 := by
        rcases HO2.out with h0 | h0
        · rw [h0] at hlt
          simp at hlt
        · exact h0
      obtain ⟨hcK, hcN, hn⟩ := hcell j hlt
      have hcK' := (hp.2.2.1.cell (p := ⟨b, off + j * 2, none⟩) hbB).trans hcK
      have hcN' := (hp.2.2.1.cell (p := ⟨b, off + j * 2 + 1, none⟩) hbB).trans hcN
      generalize l[j].1 = kd at hcK'
      generalize l[j].2 = n at hcN' hn
      have hsz : w1.heap.size < wr.heap.size := by
        obtain ⟨k, q⟩ := hp.2.1.cells
        exact (Array.getElem?_eq_some_iff.1 q).1
      clear hcK hcN hcell HO2
      have HP := Lib.hid hp
      clear hp
      by_cases h0 : kd = 0
      · subst h0
        go_wp2
        have hq : (wr.alloc (.cells #[.int .i64 0, .int .i64 n] 41)).cell? ⟨wr.heap.size, 1, none⟩ = some (.int .i64 n) := by go_simp
        have hpW : Pair w g w1.heap.size A c xs (wr.alloc (.cells #[.int .i64 0, .int .i64 n] 41)) st st := HP.out.below ((Below.refl _ wr).alloc (Nat.le_refl _) _) (Nat.le_refl _)
        have hqg : ¬ wr.heap.size = g := by omega
        have hqh : ¬ wr.heap.size = w1.heap.size := by omega
        have hsz2 : w1.heap.size < (wr.alloc (.cells #[.int .i64 0, .int .i64 n] 41)).drew.heap.size := by simp; omega
        generalize wr.heap.size = q at hq hqg hqh ⊢
        generalize wr.alloc (.cells #[.int .i64 0, .int .i64 n] 41) = W at hq hpW hsz2 ⊢
        have hqd : W.drew.cell? ⟨q, 1, none⟩ = some (.int .i64 n) := hq
        have HPD := Lib.hid hpW.drew
        have HSZ := Lib.hid hsz2
        clear hpW hq HP hcK' hcN' hsz2
        go_region_held3 (fun w' => w'.cell? ⟨q, 1, none⟩ = some (.int .i64 n)) (assumption) (first
          | (go_at_call 19; refine (num_pair HPD.out n hn).mono ?_; rintro e w2 ⟨rfl, hp2, hg2⟩; have hq2 : w2.cell? ⟨q, 1, none⟩ = some (.int .i64 n) := hg2.cell hqd (by simpa using hqg); have HP2 := Lib.hid hp2; clear hp2 hg2)
          | (go_at_call 20; refine (rnum_pair HP2.out n hn).mono ?_; rintro e w3 ⟨rfl, hp3, hg3⟩; have hq3 : w3.cell? ⟨q, 1, none⟩ = some (.int .i64 n) := hg3.cell hq2 (by simpa using hqh); have HP3 := Lib.hid hp3; clear hp3 hg3))
        go_wp2
        generalize numS st n = s' at HP3
        have hbad := rbad_pair HP3.out
        have b1 : ((s'.ys.length : Int) != (s'.ys.length : Int)) = false := by simp
        have b2 : (s'.bad != s'.bad) = false := by simp
        have b3 : (doneE s' != doneE s') = false := by simp
        clear hqd hq2 hq3 HPD HP2
        go_quiet (first
          | (go_at_call 25; exact Calls.quiet_of_same (left_pair (HP3.out.drewN _)))
          | (go_at_call 26; exact Calls.quiet_of (rleft_pair (HP3.out.drewN _)))
          | (go_at_call 27; exact Calls.quiet_of_same (bad_pair (HP3.out.drewN _)))
          | (go_at_call 28; exact Calls.quiet_of_same (done_pair (HP3.out.drewN _)))
          | (go_at_call 29; exact Calls.quiet_of (rdone_pair (HP3.out.drewN _))))
        go_wp2
        go_roundw
        case rel => exact ⟨j + 1, s', by omega, by go_num, HP3.out.drewN _⟩
        case measure => simp [intOf]; omega
      · by_cases h1 : kd = 1
        · subst h1
          clear h0
          go_wp2
          have hq : (wr.alloc (.cells #[.int .i64 1, .int .i64 n] 41)).cell? ⟨wr.heap.size, 1, none⟩ = some (.int .i64 n) := by go_simp
          have hpW : Pair w g w1.heap.size A c xs (wr.alloc (.cells #[.int .i64 1, .int .i64 n] 41)) st st := HP.out.below ((Below.refl _ wr).alloc (Nat.le_refl _) _) (Nat.le_refl _)
          have hqg : ¬ wr.heap.size = g := by omega
          have hqh : ¬ wr.heap.size = w1.heap.size := by omega
          have hsz2 : w1.heap.size < (wr.alloc (.cells #[.int .i64 1, .int .i64 n] 41)).drew.heap.size := by simp; omega
          generalize wr.heap.size = q at hq hqg hqh ⊢
          generalize wr.alloc (.cells #[.int .i64 1, .int .i64 n] 41) = W at hq hpW hsz2 ⊢
          have hqd : W.drew.cell? ⟨q, 1, none⟩ = some (.int .i64 n) := hq
          have HPD := Lib.hid hpW.drew
          have HSZ := Lib.hid hsz2
          clear hpW hq HP hcK' hcN' hsz2
          refine wp_region_noPanic ?_
          refine wp_region_held_drew (S := fun w' => w'.cell? ⟨q, 1, none⟩ = some (.int .i64 n)) (by kernel_rfl) hqd (fun hHeld => ?_)
          refine takeH_at 0 55 (v := ?_) rfl rfl (by kernel_rfl) (by kernel_rfl) (by kernel_rfl) (fun _ _ _ h => h) (Or.inl ⟨by rfl, ?_⟩) (by assumption) ?_
          rotate_left
          · (intro wx hSw; (try dsimp only at hSw); go_simp) <;> with_reducible rfl
          simp only [Act.put, List.setIfInBounds_toArray, List.set_cons_zero, List.set_cons_succ]
          refine takeH_at 1 56 (v := ?_) rfl rfl (by kernel_rfl) (by kernel_rfl) (by kernel_rfl) (fun _ _ _ h => h) (Or.inl ⟨by rfl, ?_⟩) (by assumption) ?_
          rotate_left
          · (intro wx hSw; (try dsimp only at hSw); go_simp) <;> with_reducible rfl
          simp only [Act.put, List.setIfInBounds_toArray, List.set_cons_zero, List.set_cons_succ]
          refine takeH_at 2 57 (v := ?_) rfl rfl (by kernel_rfl) (by kernel_rfl) (by kernel_rfl) (fun _ _ _ h => h) (Or.inl ⟨by rfl, ?_⟩) (by assumption) ?_
          rotate_left
          · (intro wx hSw; (try dsimp only at hSw); go_simp) <;> with_reducible rfl
          simp only [Act.put, List.setIfInBounds_toArray, List.set_cons_zero, List.set_cons_succ]
          refine takeH_at 5 60 (v := ?_) rfl rfl (by kernel_rfl) (by kernel_rfl) (by kernel_rfl) (fun _ _ _ h => h) (Or.inl ⟨by rfl, ?_⟩) (by assumption) ?_
          rotate_left
          · (intro wx hSw; (try dsimp only at hSw); go_simp) <;> with_reducible rfl
          simp only [Act.put, List.setIfInBounds_toArray, List.set_cons_zero, List.set_cons_succ]
          refine takeH_at 6 61 (v := ?_) rfl rfl (by kernel_rfl) (by kernel_rfl) (by kernel_rfl) (fun _ _ _ h => h) (Or.inl ⟨by rfl, ?_⟩) (by assumption) ?_
          rotate_left
          · (intro wx hSw; (try dsimp only at hSw); go_simp) <;> with_reducible rfl
          simp only [Act.put, List.setIfInBounds_toArray, List.set_cons_zero, List.set_cons_succ]
          refine takeH_at 7 62 (v := ?_) rfl rfl (by kernel_rfl) (by kernel_rfl) (by kernel_rfl) (fun _ _ _ h => h) (Or.inl ⟨by rfl, ?_⟩) (by assumption) ?_
          rotate_left
          · (intro wx hSw; (try dsimp only at hSw); go_simp) <;> with_reducible rfl
          simp only [Act.put, List.setIfInBounds_toArray, List.set_cons_zero, List.set_cons_succ]
          refine wpAnyH_ready (rs := [3]) (by kernel_rfl) (by simp) ?_
          refine AllReadyH.cons rfl (fun K hK => ?_) ?_
          · go_simp
            go_wp2_with (go_at_call 21; refine (take_pair HPD.out n hn).mono ?_; rintro e w2 ⟨⟨v2, rfl, ho2, hg2⟩, hp2⟩; have hq2 : w2.cell? ⟨q, 1, none⟩ = some (.int .i64 n) := hg2.cell hqd (by simpa using hqg); have c2 := conv_own ho2; have HO2 := Lib.hid ho2; have HP2 := Lib.hid hp2; clear hp2 hg2 ho2)
            refine hK.out _ _ (by assumption) (fun hHeld => ?_)
            clear hK K
            refine wpAnyH_ready (rs := [4, 8]) (by kernel_rfl) (by simp) ?_
            refine AllReadyH.cons rfl (fun K hK => ?_) ?_
            · go_simp
              refine hK.out _ _ (by assumption) (fun hHeld => ?_)
              clear hK K
              refine wpAnyH_ready (rs := [8]) (by kernel_rfl) (by simp) ?_
              refine AllReadyH.cons rfl (fun K hK => ?_) ?_
              · go_simp
                go_wp2_with (go_at_call 22; refine (rtake_pair HP2.out n hn).mono ?_; rintro e w3 ⟨⟨v3, rfl, ho3, hg3⟩, hp3⟩; have hq3 : w3.cell? ⟨q, 1, none⟩ = some (.int .i64 n) := hg3.cell hq2 (by simpa using hqh); have c3 := conv_own ho3; have c2' := conv_own (own_other HO2.out hg3 HSZ.out); have HP3 := Lib.hid hp3; clear hp3 hg3 ho3)
                refine hK.out _ _ (by assumption) (fun hHeld => ?_)
                clear hK K
                refine wpAnyH_ready (rs := [9]) (by kernel_rfl) (by simp) ?_
                refine AllReadyH.cons rfl (fun K hK => ?_) ?_
                · go_simp
                  refine hK.out _ _ (by assumption) (fun hHeld => ?_)
                  clear hK K
                  refine takeH_at 10 65 (v := ?_) rfl rfl (by kernel_rfl) (by kernel_rfl) (by kernel_rfl) (fun _ _ _ h => h) (Or.inl ⟨by rfl, ?_⟩) (by assumption) ?_
                  rotate_left
                  · (intro wx hSw; (try dsimp only at hSw); go_simp) <;> with_reducible rfl
                  simp only [Act.put, List.setIfInBounds_toArray, List.set_cons_zero, List.set_cons_succ]
                  refine wpAnyH_done (by kernel_rfl) ?_ _
                  refine NoPanic.normal ?_
                  go_wp2
                  generalize takeS st n = s' at HP3
                  have hbad := rbad_pair HP3.out
                  have b1 : ((s'.ys.length : Int) != (s'.ys.length : Int)) = false := by simp
                  have b2 : (s'.bad != s'.bad) = false := by simp
                  have b3 : (doneE s' != doneE s') = false := by simp
                  clear hqd hq2 hq3 HPD HP2
                  go_quiet (first
                    | (go_at_call 25; exact Calls.quiet_of_same (left_pair (HP3.out.drewN _)))
                    | (go_at_call 26; exact Calls.quiet_of (rleft_pair (HP3.out.drewN _)))
                    | (go_at_call 27; exact Calls.quiet_of_same (bad_pair (HP3.out.drewN _)))
                    | (go_at_call 28; exact Calls.quiet_of_same (done_pair (HP3.out.drewN _)))
                    | (go_at_call 29; exact Calls.quiet_of (rdone_pair (HP3.out.drewN _))))
                  go_wp2
                  go_roundw
                  case rel => exact ⟨j + 1, s', by omega, by go_num, HP3.out.drewN _⟩
                  case measure => simp [intOf]; omega
                exact AllReadyH.nil
              exact AllReadyH.nil
            refine AllReadyH.cons rfl (fun K hK => ?_) ?_
            · go_simp
              go_wp2_with (go_at_call 22; refine (rtake_pair HP2.out n hn).mono ?_; rintro e w3 ⟨⟨v3, rfl, ho3, hg3⟩, hp3⟩; have hq3 : w3.cell? ⟨q, 1, none⟩ = some (.int .i64 n) := hg3.cell hq2 (by simpa using hqh); have c3 := conv_own ho3; have c2' := conv_own (own_other HO2.out hg3 HSZ.out); have HP3 := Lib.hid hp3; clear hp3 hg3 ho3)
              refine hK.out _ _ (by assumption) (fun hHeld => ?_)
              clear hK K
              refine wpAnyH_ready (rs := [4, 9]) (by kernel_rfl) (by simp) ?_
              refine AllReadyH.cons rfl (fun K hK => ?_) ?_
              · go_simp
                refine hK.out _ _ (by assumption) (fun hHeld => ?_)
                clear hK K
                refine wpAnyH_ready (rs := [9]) (by kernel_rfl) (by simp) ?_
                refine AllReadyH.cons rfl (fun K hK => ?_) ?_
                · go_simp
                  refine hK.out _ _ (by assumption) (fun hHeld => ?_)
                  clear hK K
                  refine takeH_at 10 65 (v := ?_) rfl rfl (by kernel_rfl) (by kernel_rfl) (by kernel_rfl) (fun _ _ _ h => h) (Or.inl ⟨by rfl, ?_⟩) (by assumption) ?_
                  rotate_left
                  · (intro wx hSw; (try dsimp only at hSw); go_simp) <;> with_reducible rfl
                  simp only [Act.put, List.setIfInBounds_toArray, List.set_cons_zero, List.set_cons_succ]
                  refine wpAnyH_done (by kernel_rfl) ?_ _
                  refine NoPanic.normal ?_
                  go_wp2
                  generalize takeS st n = s' at HP3
                  have hbad := rbad_pair HP3.out
                  have b1 : ((s'.ys.length : Int) != (s'.ys.length : Int)) = false := by simp
                  have b2 : (s'.bad != s'.bad) = false := by simp
                  have b3 : (doneE s' != doneE s') = false := by simp
                  clear hqd hq2 hq3 HPD HP2
                  go_quiet (first
                    | (go_at_call 25; exact Calls.quiet_of_same (left_pair (HP3.out.drewN _)))
                    | (go_at_call 26; exact Calls.quiet_of (rleft_pair (HP3.out.drewN _)))
                    | (go_at_call 27; exact Calls.quiet_of_same (bad_pair (HP3.out.drewN _)))
                    | (go_at_call 28; exact Calls.quiet_of_same (done_pair (HP3.out.drewN _)))
                    | (go_at_call 29; exact Calls.quiet_of (rdone_pair (HP3.out.drewN _))))
                  go_wp2
                  go_roundw
                  case rel => exact ⟨j + 1, s', by omega, by go_num, HP3.out.drewN _⟩
                  case measure => simp [intOf]; omega
                exact AllReadyH.nil
              refine AllReadyH.cons rfl (fun K hK => ?_) ?_
              · go_simp
                refine hK.out _ _ (by assumption) (fun hHeld => ?_)
                clear hK K
                refine wpAnyH_ready (rs := [4]) (by kernel_rfl) (by simp) ?_
                refine AllReadyH.cons rfl (fun K hK => ?_) ?_
                · go_simp
                  refine hK.out _ _ (by assumption) (fun hHeld => ?_)
                  clear hK K
                  refine takeH_at 10 65 (v := ?_) rfl rfl (by kernel_rfl) (by kernel_rfl) (by kernel_rfl) (fun _ _ _ h => h) (Or.inl ⟨by rfl, ?_⟩) (by assumption) ?_
                  rotate_left
                  · (intro wx hSw; (try dsimp only at hSw); go_simp) <;> with_reducible rfl
                  simp only [Act.put, List.setIfInBounds_toArray, List.set_cons_zero, List.set_cons_succ]
                  refine wpAnyH_done (by kernel_rfl) ?_ _
                  refine NoPanic.normal ?_
                  go_wp2
                  generalize takeS st n = s' at HP3
                  have hbad := rbad_pair HP3.out
                  have b1 : ((s'.ys.length : Int) != (s'.ys.length : Int)) = false := by simp
                  have b2 : (s'.bad != s'.bad) = false := by simp
                  have b3 : (doneE s' != doneE s') = false := by simp
                  clear hqd hq2 hq3 HPD HP2
                  go_quiet (first
                    | (go_at_call 25; exact Calls.quiet_of_same (left_pair (HP3.out.drewN _)))
                    | (go_at_call 26; exact Calls.quiet_of (rleft_pair (HP3.out.drewN _)))
                    | (go_at_call 27; exact Calls.quiet_of_same (bad_pair (HP3.out.drewN _)))
                    | (go_at_call 28; exact Calls.quiet_of_same (done_pair (HP3.out.drewN _)))
                    | (go_at_call 29; exact Calls.quiet_of (rdone_pair (HP3.out.drewN _))))
                  go_wp2
                  go_roundw
                  case rel => exact ⟨j + 1, s', by omega, by go_num, HP3.out.drewN _⟩
                  case measure => simp [intOf]; omega
                exact AllReadyH.nil
              exact AllReadyH.nil
            exact AllReadyH.nil
          exact AllReadyH.nil
        · have k0 : (kd == 0) = false := by simpa using h0
          have k1 : (kd == 1) = false := by simpa using h1
          clear h0 h1
          go_wp2
          have hq : (wr.alloc (.cells #[.int .i64 kd, .int .i64 n] 41)).cell? ⟨wr.heap.size, 1, none⟩ = some (.int .i64 n) := by go_simp
          have hpW : Pair w g w1.heap.size A c xs (wr.alloc (.cells #[.int .i64 kd, .int .i64 n] 41)) st st := HP.out.below ((Below.refl _ wr).alloc (Nat.le_refl _) _) (Nat.le_refl _)
          have hqg : ¬ wr.heap.size = g := by omega
          have hqh : ¬ wr.heap.size = w1.heap.size := by omega
          have hsz2 : w1.heap.size < (wr.alloc (.cells #[.int .i64 kd, .int .i64 n] 41)).drew.heap.size := by simp; omega
          generalize wr.heap.size = q at hq hqg hqh ⊢
          generalize wr.alloc (.cells #[.int .i64 kd, .int .i64 n] 41) = W at hq hpW hsz2 ⊢
          have hqd : W.drew.cell? ⟨q, 1, none⟩ = some (.int .i64 n) := hq
          have HPD := Lib.hid hpW.drew
          have HSZ := Lib.hid hsz2
          clear hpW hq HP hcK' hcN' hsz2
          go_region_held3 (fun w' => w'.cell? ⟨q, 1, none⟩ = some (.int .i64 n)) (assumption) (first
            | (go_at_call 23; refine (text_pair HPD.out n hn).mono ?_; rintro e w2 ⟨rfl, hp2, hg2⟩; have hq2 : w2.cell? ⟨q, 1, none⟩ = some (.int .i64 n) := hg2.cell hqd (by simpa using hqg); have HP2 := Lib.hid hp2; clear hp2 hg2)
            | (go_at_call 24; refine (rtext_pair HP2.out n hn).mono ?_; rintro e w3 ⟨rfl, hp3, hg3⟩; have hq3 : w3.cell? ⟨q, 1, none⟩ = some (.int .i64 n) := hg3.cell hq2 (by simpa using hqh); have HP3 := Lib.hid hp3; clear hp3 hg3))
          go_wp2
          generalize txtS st n = s' at HP3
          have hbad := rbad_pair HP3.out
          have b1 : ((s'.ys.length : Int) != (s'.ys.length : Int)) = false := by simp
          have b2 : (s'.bad != s'.bad) = false := by simp
          have b3 : (doneE s' != doneE s') = false := by simp
          clear hqd hq2 hq3 HPD HP2
          go_quiet (first
            | (go_at_call 25; exact Calls.quiet_of_same (left_pair (HP3.out.drewN _)))
            | (go_at_call 26; exact Calls.quiet_of (rleft_pair (HP3.out.drewN _)))
            | (go_at_call 27; exact Calls.quiet_of_same (bad_pair (HP3.out.drewN _)))
            | (go_at_call 28; exact Calls.quiet_of_same (done_pair (HP3.out.drewN _)))
            | (go_at_call 29; exact Calls.quiet_of (rdone_pair (HP3.out.drewN _))))
          go_wp2
          go_roundw
          case rel => exact ⟨j + 1, s', by omega, by go_num, HP3.out.drewN _⟩
          case measure => simp [intOf]; omega
    · obtain rfl : j = l.length := by omega
      have HB := Lib.hid hp.2.2.1
      clear hp HO2
      go_wp2_with (go_at_call 11; refine (lives_from (w := w) HB.out).mono ?_; rintro e w5 ⟨rfl, hb5⟩)
      go_ret
      exact ⟨rfl, hb5⟩

set_option maxRecDepth 100000 in
theorem reads_far (A L : Option Addr) (len c m d : Nat) (w : World) (h1 : len ≤ maxLen) (h2 : m ≤ maxLen) (h : 4000 < len ∨ 200 < m) :
    Calls Try.prog 4 #[.slice A len c, .slice L m d] w fun e w' => e = .returned (.bool true) ∧ Below w.heap.size w w' := by
  unfold maxLen at h1 h2
  by_cases q : 4000 < len
  · clear h
    go_enter Try.func4, Try.ntmps4
    go_wp2_with (go_at_call 11; refine (lives_any _).mono ?_; rintro e w1 ⟨rfl, hb1⟩)
    go_ret
    exact ⟨rfl, hb1⟩
  · have q2 : 200 < m := by omega
    clear h
    go_enter Try.func4, Try.ntmps4
    go_wp2_with (go_at_call 11; refine (lives_any _).mono ?_; rintro e w1 ⟨rfl, hb1⟩)
    go_ret
    exact ⟨rfl, hb1⟩
end Go.Proofs.Yteglihgoccemmaa
