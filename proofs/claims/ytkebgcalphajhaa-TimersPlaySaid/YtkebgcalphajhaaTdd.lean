/- The statements' own table: Due; Ints. Condition: lists of its own. -/
import Derived.Test.YtkebgcalphajhaaTdc
import Derived.Test.YtkebgcalphajhaaTan
namespace Go.Proofs.Ytkebgcalphajhaa
open Go.RowKit Go.Lib
set_option maxRecDepth 100000
set_option maxHeartbeats 1000000
theorem rdue_any (now : Nat) (x : Int × Nat) (w : World) : Calls Try.prog 41 #[.int .u64 (x.2 : Int), .int .u64 (now : Int)] w fun e w' => e = .returned (.bool (dueT now x)) ∧ w' = w := by
  obtain ⟨xk, a⟩ := x
  have hdef : dueT now (xk, a) = (decide (a ≠ 18446744073709551615) && decide (a ≤ now)) := rfl
  rw [hdef]
  clear hdef
  by_cases h1 : a = 18446744073709551615
  · subst h1
    go_enter Try.func41, Try.ntmps41
    go_wp2
    go_ret
    exact ⟨rfl, rfl⟩
  · have h2 : ¬ (a : Int) = 18446744073709551615 := by omega
    have h3 : ((a : Int) != 18446744073709551615) = true := bne_iff_ne.2 h2
    by_cases h4 : a ≤ now
    · have h5 : (now : Int) ≥ (a : Int) := by omega
      rw [decide_eq_true (show a ≠ 18446744073709551615 from h1), decide_eq_true h4]
      clear h1 h4
      go_enter Try.func41, Try.ntmps41
      go_wp2
      go_ret
      exact ⟨rfl, rfl⟩
    · have h5 : ¬ (now : Int) ≥ (a : Int) := by omega
      rw [decide_eq_true (show a ≠ 18446744073709551615 from h1), decide_eq_false h4]
      clear h1 h4
      go_enter Try.func41, Try.ntmps41
      go_wp2
      go_ret
      exact ⟨rfl, rfl⟩
def D1R (w : World) (O : List (Int × Nat)) (now : Nat) (nk ni : Value) (wr : World) : Prop := ∃ i : Nat, ni = .int .i64 (i : Int) ∧ i ≤ O.length ∧ Below w.heap.size w wr ∧ RowAt wr 3 1 nk ((O.take i).filter (dueT now)).length (keysV ((O.take i).filter (dueT now))) ∧ FromB w.heap.size nk
def D2R (w : World) (L : List (Int × Nat)) (now : Nat) (nl ni : Value) (wr : World) : Prop := ∃ i : Nat, ni = .int .i64 (i : Int) ∧ i ≤ L.length ∧ GroT w ((L.take i).filter (fun t => !dueT now t)) nl wr
theorem filter_snoc (p : Int × Nat → Bool) (P : List (Int × Nat)) (x : Int × Nat) : (P ++ [x]).filter p = if p x = true then P.filter p ++ [x] else P.filter p := by
  rw [List.filter_append]
  by_cases h : p x = true <;> simp [h]
/-- What the statements' own Due answers. -/
def RDueIs (w : World) (K R : List (Int × Nat)) (e : Ending) (w' : World) : Prop := ∃ vk vl, e = .returned (.tuple #[vk, vl]) ∧ Below w.heap.size w w' ∧ RowAt w' 3 1 vk K.length (keysV K) ∧ FromB w.heap.size vk ∧ RefAt w' vl R ∧ FromB w.heap.size vl ∧ ∀ b, vk.ownBlock = some b → vl.ownBlock ≠ some b
theorem rdue14 (u : Value) (L : List (Int × Nat)) (now : Nat) (w : World) (h : RefAt w u L) (hl : L.length ≤ 60000) : Calls Try.prog 14 #[u, .int .u64 (now : Int)] w (RDueIs w ((ordT L).filter (dueT now)) (L.filter (fun t => !dueT now t))) := by
  have HO := Lib.hid (order_any u L w h hl)
  have HDU := Lib.hid (fun x W => rdue_any now x W)
  obtain ⟨O, hO⟩ : ∃ O, O = ordT L := ⟨_, rfl⟩
  have hOl : O.length = L.length := by rw [hO, ordT_length]
  rw [← hO] at HO ⊢
  obtain ⟨A, c, rfl, hn⟩ := RowAt.form h
  have H := Lib.hid h
  have hO6 : O.length ≤ 60000 := by omega
  clear h hO hOl
  go_enter Try.func14, Try.ntmps14
  go_wp2_with (first
    | (go_at_call 40; (with_reducible refine HO.out.mono ?_); rintro e W ⟨v, rfl, hG⟩; have HG := Lib.hid hG; obtain ⟨Ao, co, rfl, hno⟩ := RowAt.form hG.2.1))
  have R0 : Hid (D1R W O now (.slice none 0 0) (.int .i64 0) W) := Lib.hid ⟨0, rfl, Nat.zero_le _, Below.refl _ _, RowAt.nil _ 3 1, fun k hk => by cases hk⟩
  clear hG
  go_loopw [6, 9] (D1R W O now) (fun _ i _ => O.length - (RowKit.intOf i).toNat)
  case atStart => exact R0.out
  case round =>
    obtain ⟨i, rfl, hi, hb, hr, hf⟩ := hrel
    clear R0
    by_cases hlt : i < O.length
    · have hlt' : (i : Int) < (O.length : Int) := by omega
      obtain ⟨b, off, cc, e0, hnn⟩ := RowAt.filled HG.out.2.1 (by omega)
      injection e0 with e1 _ e2
      subst e1 e2
      obtain ⟨q1, q2⟩ := RefAt.cells (RowAt.bel HG.out.2.1 hb) rfl i hlt
      have hcs := filter_snoc (dueT now) (O.take i) O[i]!
      rw [← take_snoc O i hlt] at hcs
      have hM : ((O.take i).filter (dueT now)).length ≤ i := by have := List.length_filter_le (dueT now) (O.take i); rw [List.length_take] at this; omega
      have HX := Lib.hid (fun W' => HDU.out O[i]! W')
      cases hd : dueT now O[i]! with
      | false =>
        rw [hd] at HX hcs
        rw [if_neg (by decide)] at hcs
        have HREL : Hid (D1R W O now u6 (.int .i64 ((i : Int) + 1)) wr) := Lib.hid ⟨i + 1, by go_num, by omega, hb, by rw [hcs]; exact hr, hf⟩
        clear H HG hb hr hf hcs hd hM
        generalize O[i]! = x at *
        generalize O.length = n at *
        go_wp2_with (first
          | (go_at_call 41; (with_reducible refine (HX.out _).mono ?_); rintro e w2 ⟨rfl, hw2⟩; rw [hw2]; clear hw2 w2))
        go_roundw
        case rel => exact HREL.out
        case measure => simp [RowKit.intOf]; omega
      | true =>
        rw [hd] at HX hcs
        rw [if_pos rfl] at hcs
        have e1 : keysV ((O.take i).filter (dueT now) ++ [O[i]!]) = keysV ((O.take i).filter (dueT now)) ++ [Value.int .i64 O[i]!.1] := by simp [keysV]
        have HREL : Hid (∀ v5 w5, RowAt w5 3 1 v5 (((O.take i).filter (dueT now)).length + 1) (keysV ((O.take i).filter (dueT now)) ++ [Value.int .i64 O[i]!.1]) → FreshV (wr.alloc (.cells #[.int .i64 O[i]!.1] 3)) u6 v5 → (wr.alloc (.cells #[.int .i64 O[i]!.1] 3)).grownBy w5 u6.ownBlock → D1R W O now v5 (.int .i64 ((i : Int) + 1)) w5) := Lib.hid (fun v5 w5 h1 h2 h3 => by
          obtain ⟨r1, r2⟩ := FromB.grown hf (hb.alloc hb.size _) (hb.alloc hb.size (.cells #[.int .i64 O[i]!.1] 3)).size h3 h2
          refine ⟨i + 1, by go_num, by omega, r1, ?_, r2⟩
          rw [hcs, e1, List.length_append]
          exact h1)
        have HR : Hid (RowAt (wr.alloc (.cells #[.int .i64 O[i]!.1] 3)) 3 1 u6 ((O.take i).filter (dueT now)).length (keysV ((O.take i).filter (dueT now)))) := Lib.hid (RowAt.bel hr ((Below.refl _ wr).alloc (Nat.le_refl _) _))
        have HS : Hid (Src Try.prog 1 39 (.slice (some ⟨wr.heap.size, 0, none⟩) 1 1) 1 [Value.int .i64 O[i]!.1] (wr.alloc (.cells #[.int .i64 O[i]!.1] 3))) := Lib.hid (src_new rowInt wr 1 _ rfl (fun u hu => by rw [List.mem_singleton.1 hu]; rfl) 3 _ rfl)
        have HL : Hid (((O.take i).filter (dueT now)).length + 1 ≤ 100000000) := Lib.hid (by omega)
        clear H HG hb hr hf hcs hd hM e1
        generalize ((O.take i).filter (dueT now)).length = m at *
        generalize keysV ((O.take i).filter (dueT now)) = xs at *
        generalize O[i]! = x at *
        generalize O.length = n at *
        go_wp2_with (first
          | (go_at_call 41; (with_reducible refine (HX.out _).mono ?_); rintro e w2 ⟨rfl, hw2⟩; rw [hw2]; clear hw2 w2)
          | ((with_reducible refine wpList_append_row rowInt (o := ⟨some 33, _, _, _, _, _⟩) rfl (.tmp 26) (.tmp 32) rfl _ m xs ?_ HR.out _ 1 _ ?_ HS.out HL.out ?_); rfl; rfl; intro v5 w5 hr5 hf5 hg5))
        go_roundw
        case rel => exact HREL.out _ _ hr5 hf5 hg5
        case measure => simp [RowKit.intOf]; omega
    · obtain rfl : i = O.length := by omega
      have hlt' : ¬ (O.length : Int) < (O.length : Int) := by omega
      rw [List.take_of_length_le (Nat.le_refl _)] at hr
      have hrow := RowAt.bel (RowAt.bel H.out HG.out.1) hb
      have HR := Lib.hid hr
      have HF := Lib.hid hf
      have HB := Lib.hid (HG.out.1.trans (hb.mono HG.out.1.size))
      have HWS : Hid (w.heap.size ≤ W.heap.size) := Lib.hid HG.out.1.size
      have HROW : Hid (RefAt wr (.slice A L.length c) L) := Lib.hid hrow
      have R2 : Hid (D2R wr L now (.slice none 0 0) (.int .i64 0) wr) := Lib.hid ⟨0, rfl, Nat.zero_le _, GroT.nil wr⟩
      clear H HG hb hr hf hrow HO
      generalize O.length = on at *
      go_wp2_with (first | fail)
      go_loopw [7, 10] (D2R wr L now) (fun _ i _ => L.length - (RowKit.intOf i).toNat)
      case atStart => exact R2.out
      case round =>
        obtain ⟨i, rfl, hi, hG⟩ := hrel
        clear R2
        by_cases hlt : i < L.length
        · have hlt' : (i : Int) < (L.length : Int) := by omega
          obtain ⟨b, off, cc, e0, hnn⟩ := RowAt.filled HROW.out (by omega)
          injection e0 with e1 _ e2
          subst e1 e2
          obtain ⟨q1, q2⟩ := RefAt.cells (RowAt.bel HROW.out hG.1) rfl i hlt
          have hcs := filter_snoc (fun t => !dueT now t) (L.take i) L[i]!
          rw [← take_snoc L i hlt] at hcs
          have HX := Lib.hid (fun W' => HDU.out L[i]! W')
          have hM : ((L.take i).filter (fun t => !dueT now t)).length ≤ i := by have := List.length_filter_le (fun t => !dueT now t) (L.take i); rw [List.length_take] at this; omega
          cases hd : dueT now L[i]! with
          | true =>
            rw [hd] at HX hcs
            rw [if_neg (by decide)] at hcs
            have HREL : Hid (D2R _ L now u7 (.int .i64 ((i : Int) + 1)) wr) := Lib.hid ⟨i + 1, by go_num, by omega, by rw [hcs]; exact hG⟩
            clear HROW hG hcs hd hM
            generalize L[i]! = x at *
            generalize L.length = n at *
            go_wp2_with (first
              | (go_at_call 41; (with_reducible refine (HX.out _).mono ?_); rintro e w2 ⟨rfl, hw2⟩; rw [hw2]; clear hw2 w2))
            go_roundw
            case rel => exact HREL.out
            case measure => simp [RowKit.intOf]; omega
          | false =>
            rw [hd] at HX hcs
            rw [if_pos (by decide)] at hcs
            have HREL : Hid (∀ v5 w5, RowAt w5 35 2 v5 (((L.take i).filter (fun t => !dueT now t)).length + 1) (flatT ((L.take i).filter (fun t => !dueT now t)) ++ encT L[i]!) → FreshV (wr.alloc (.cells #[.int .i64 L[i]!.1, .int .u64 (L[i]!.2 : Int)] 35)) u7 v5 → (wr.alloc (.cells #[.int .i64 L[i]!.1, .int .u64 (L[i]!.2 : Int)] 35)).grownBy w5 u7.ownBlock → D2R _ L now v5 (.int .i64 ((i : Int) + 1)) w5) := Lib.hid (fun v5 w5 h1 h2 h3 => ⟨i + 1, by go_num, by omega, by rw [hcs]; exact hG.push h1 h2 h3⟩)
            have HR : Hid (RowAt (wr.alloc (.cells #[.int .i64 L[i]!.1, .int .u64 (L[i]!.2 : Int)] 35)) 35 2 u7 ((L.take i).filter (fun t => !dueT now t)).length (flatT ((L.take i).filter (fun t => !dueT now t)))) := Lib.hid (RowAt.bel hG.2.1 ((Below.refl _ wr).alloc (Nat.le_refl _) _))
            have HS : Hid (Src Try.prog 2 26 (.slice (some ⟨wr.heap.size, 0, none⟩) 1 1) 1 (encT L[i]!) (wr.alloc (.cells #[.int .i64 L[i]!.1, .int .u64 (L[i]!.2 : Int)] 35))) := Lib.hid (src_new rowR wr 1 _ rfl (fun u hu => by
              simp only [encT, List.mem_cons, List.not_mem_nil, or_false] at hu
              rcases hu with rfl | rfl <;> rfl) 35 _ rfl)
            have HL : Hid (((L.take i).filter (fun t => !dueT now t)).length + 1 ≤ 100000000) := Lib.hid (by omega)
            clear HROW hG hcs hd hM
            generalize ((L.take i).filter (fun t => !dueT now t)).length = m at *
            generalize flatT ((L.take i).filter (fun t => !dueT now t)) = xs at *
            generalize encT L[i]! = ys at *
            generalize L[i]! = x at *
            generalize L.length = n at *
            go_wp2_with (first
              | (go_at_call 41; (with_reducible refine (HX.out _).mono ?_); rintro e w2 ⟨rfl, hw2⟩; rw [hw2]; clear hw2 w2)
              | ((with_reducible refine wpList_append_row rowR (o := ⟨some 54, _, _, _, _, _⟩) rfl (.tmp 48) (.tmp 53) rfl _ m xs ?_ HR.out _ 1 ys ?_ HS.out HL.out ?_); rfl; rfl; intro v5 w5 hr5 hf5 hg5))
            go_roundw
            case rel => exact HREL.out _ _ hr5 hf5 hg5
            case measure => simp [RowKit.intOf]; omega
        · obtain rfl : i = L.length := by omega
          have hlt' : ¬ (L.length : Int) < (L.length : Int) := by omega
          rw [List.take_of_length_le (Nat.le_refl _)] at hG
          have HG := Lib.hid hG
          clear HROW hG
          generalize L.length = n at *
          go_wp2_with (first | fail)
          go_ret2
          have hs := HB.out.size
          have hw := HWS.out
          exact ⟨_, _, rfl, HB.out.trans (HG.out.1.mono hs), RowAt.bel HR.out HG.out.1, fun b hb => Nat.le_trans hw (HF.out b hb), HG.out.2.1, fun b hb => Nat.le_trans hs (HG.out.2.2 b hb), fun b hb hv => by have := HG.out.2.2 b hv; have := RowAt.lt HR.out b hb; omega⟩
end Go.Proofs.Ytkebgcalphajhaa
