/- Contract of Good of signpostref10. Conditions: at most 50,000 bytes. Contract of Split of signpostref10. Conditions: at most 50,000 bytes. -/
import Derived.Test.YtjiiignbejbiiaaXLre
import Derived.Test.YtjiiignbejbiiaaXVpa
import Derived.Test.YtjiiignbejbiiaaXVcb
section
namespace Go.Proofs.Ytjiiignbejbiiaa
open Go.Shelf Go.RowKit Go.Lib Go.Great
set_option maxRecDepth 100000
set_option maxHeartbeats 1000000
theorem svc_ref (s : List UInt8) : svcL s = (goodL s && (decide (3 ≤ (splitD (foldL s)).length) && (decide (2 ≤ (splitD (foldL s))[0]!.length) && (decide ((splitD (foldL s))[0]![0]! = 95) && ((splitD (foldL s))[1]! == tcpL || (splitD (foldL s))[1]! == udpL))))) := by
  rw [← svc_fold, svcL, goodL_fold]
  have h : foldL (splitD (foldL s))[1]! = (splitD (foldL s))[1]! := by rw [splitD_fold, map_get, foldL_foldL]
  rw [h, Bool.eq_iff_iff]
  simp [Bool.and_eq_true, and_assoc]
theorem rsgood_any (s : List UInt8) (ls : s.length ≤ 50000) (w : World) : Calls Try.prog 35 #[.string (bstr s)] w fun e w' => e = .returned (.bool (svcL s)) ∧ Below w.heap.size w w' := by
  have HF : Hid (Calls Try.prog 19 #[.string (bstr s)] w fun e w' => e = .returned (.string (bstr (foldL s))) ∧ Below w.heap.size w w') := Lib.hid (rfold_any s (by omega) w)
  have HP : Hid (∀ W, Below w.heap.size w W → Calls Try.prog 17 #[.string (bstr (foldL s))] W fun e w' => ∃ A c, e = .returned (.slice A (splitD (foldL s)).length c) ∧ SAt w' w'.heap.size A (splitD (foldL s)) ∧ Below w.heap.size w w') := Lib.hid (fun W hW => (rparts_at (foldL s) (by rw [foldL_length]; omega) W).mono (by
    rintro e w' ⟨A, c, rfl, h1, h2, h3⟩
    exact ⟨A, c, rfl, h2, hW.trans (h3.mono hW.size)⟩))
  have HG : Hid (∀ W A, SAt W W.heap.size A (splitD (foldL s)) → Below w.heap.size w W → Calls Try.prog 14 #[.string (bstr s)] W fun e w' => e = .returned (.bool (goodL s)) ∧ SAt w' w'.heap.size A (splitD (foldL s)) ∧ Below w.heap.size w w') := Lib.hid (fun W A hA hW => (rgood_any s (by omega) W).mono (by
    rintro e w' ⟨rfl, h3⟩
    exact ⟨rfl, (hA.below h3).more h3.size, hW.trans (h3.mono hW.size)⟩))
  have HSV := Lib.hid (svc_ref s)
  generalize svcL s = sv at *
  generalize goodL s = gd at *
  generalize splitD (foldL s) = M at *
  generalize bstr (foldL s) = FS at *
  generalize bstr s = S at *
  obtain ⟨n, hn⟩ : ∃ n, n = M.length := ⟨_, rfl⟩
  rw [← hn] at HP HSV
  have HN := Lib.hid hn
  clear hn
  have hbl := bstr_list
  have hct : (⟨#[95, 116, 99, 112]⟩ : ByteArray).toList = tcpL := bstr_list tcpL
  have hcu : (⟨#[95, 117, 100, 112]⟩ : ByteArray).toList = udpL := bstr_list udpL
  go_enter Try.func35, Try.ntmps35
  go_upto_region 2 with (first
    | (go_at_call 19; (with_reducible refine HF.out.mono ?_); rintro e w1 ⟨rfl, hb1⟩)
    | (go_at_call 17; (with_reducible refine (HP.out _ hb1).mono ?_); rintro e w2 ⟨A, c, rfl, hA2, hb2⟩))
  have hsv := HSV.out
  clear HF HP HSV
  cases gd
  · rw [Bool.false_and] at hsv
    have HV := Lib.hid hsv
    clear hsv
    go_wp2_with (go_at_call 14; (with_reducible refine (HG.out _ A hA2 hb2).mono ?_); rintro e w3 ⟨rfl, hA3, hb3⟩)
    go_ret
    exact ⟨by rw [HV.out]; rfl, hb3⟩
  · rw [Bool.true_and] at hsv
    by_cases h3 : 3 ≤ n
    · rw [decide_eq_true h3, Bool.true_and] at hsv
      have h3' : (3 : Int) ≤ (n : Int) := by omega
      have hn0 : (0 : Int) < (n : Int) := by omega
      have hn1 : (1 : Int) < (n : Int) := by omega
      have HCELL : Hid (∀ W, SAt W W.heap.size A M → ∃ g o, A = some ⟨g, o, none⟩ ∧ W.cell? ⟨g, o, none⟩ = some (.string (bstr M[0]!)) ∧ W.cell? ⟨g, o + 1, none⟩ = some (.string (bstr M[1]!))) := Lib.hid (fun W h => by
        rcases h with h0 | ⟨g, o, rfl, hg, hr⟩
        · have := HN.out
          rw [h0] at this
          simp at this
          omega
        · have k0 : 0 < M.length := by rw [← HN.out]; omega
          have k1 : 1 < M.length := by rw [← HN.out]; omega
          exact ⟨g, o, rfl, by rw [getElem!_pos M 0 k0]; exact hr 0 k0, by rw [getElem!_pos M 1 k1]; exact hr 1 k1⟩)
      have hs0 := bstr_size M[0]!
      have HGB := Lib.hid (fun h : 0 < (bstr M[0]!).size => bstr_get M[0]! 0 h)
      generalize M[0]! = m0 at *
      generalize M[1]! = m1 at *
      by_cases hl : 2 ≤ m0.length
      · rw [decide_eq_true hl, Bool.true_and] at hsv
        have hl' : (2 : Int) ≤ (m0.length : Int) := by omega
        have hl0 : (0 : Int) < (m0.length : Int) := by omega
        have hget := HGB.out (by omega)
        have HC : Hid (∀ c : UInt8, c = 95 ↔ c.toNat = 95) := Lib.hid (fun c => ⟨fun h => by rw [h]; rfl, fun h => UInt8.toNat_inj.1 (by rw [h]; rfl)⟩)
        clear HGB
        generalize m0[0]! = ch at *
        by_cases hc : ch = 95
        · rw [decide_eq_true hc, Bool.true_and] at hsv
          have hcn : ch.toNat = 95 := (HC.out ch).1 hc
          have hcb : ((ch.toNat : Int) == 95) = true := by rw [hcn]; rfl
          clear hcn hc HC
          cases ht : (m1 == tcpL)
          · rw [ht] at hsv
            cases hu : (m1 == udpL)
            · rw [hu] at hsv
              have HV := Lib.hid hsv
              clear hsv
              go_wp2_with (go_at_call 14; (with_reducible refine (HG.out _ A hA2 hb2).mono ?_); rintro e w3 ⟨rfl, hA3, hb3⟩; obtain ⟨g1, o1, rfl, hc0, hc1⟩ := HCELL.out _ hA3)
              go_ret
              exact ⟨by rw [HV.out]; rfl, hb3⟩
            · rw [hu] at hsv
              have HV := Lib.hid hsv
              clear hsv
              go_wp2_with (go_at_call 14; (with_reducible refine (HG.out _ A hA2 hb2).mono ?_); rintro e w3 ⟨rfl, hA3, hb3⟩; obtain ⟨g1, o1, rfl, hc0, hc1⟩ := HCELL.out _ hA3)
              go_ret
              exact ⟨by rw [HV.out]; rfl, hb3⟩
          · rw [ht, Bool.true_or] at hsv
            have HV := Lib.hid hsv
            clear hsv
            go_wp2_with (go_at_call 14; (with_reducible refine (HG.out _ A hA2 hb2).mono ?_); rintro e w3 ⟨rfl, hA3, hb3⟩; obtain ⟨g1, o1, rfl, hc0, hc1⟩ := HCELL.out _ hA3)
            go_ret
            exact ⟨by rw [HV.out]; rfl, hb3⟩
        · rw [decide_eq_false hc, Bool.false_and] at hsv
          have hcb : ((ch.toNat : Int) == 95) = false := by
            have : ¬ ch.toNat = 95 := fun h => hc ((HC.out ch).2 h)
            simpa using (by omega : ¬ (ch.toNat : Int) = 95)
          clear hc HC
          have HV := Lib.hid hsv
          clear hsv
          go_wp2_with (go_at_call 14; (with_reducible refine (HG.out _ A hA2 hb2).mono ?_); rintro e w3 ⟨rfl, hA3, hb3⟩; obtain ⟨g1, o1, rfl, hc0, hc1⟩ := HCELL.out _ hA3)
          go_ret
          exact ⟨by rw [HV.out]; rfl, hb3⟩
      · rw [decide_eq_false hl, Bool.false_and] at hsv
        have hl' : ¬ (2 : Int) ≤ (m0.length : Int) := by omega
        clear HGB
        have HV := Lib.hid hsv
        clear hsv
        go_wp2_with (go_at_call 14; (with_reducible refine (HG.out _ A hA2 hb2).mono ?_); rintro e w3 ⟨rfl, hA3, hb3⟩; obtain ⟨g1, o1, rfl, hc0, hc1⟩ := HCELL.out _ hA3)
        go_ret
        exact ⟨by rw [HV.out]; rfl, hb3⟩
    · have h3' : ¬ (3 : Int) ≤ (n : Int) := by omega
      rw [decide_eq_false h3, Bool.false_and] at hsv
      have HV := Lib.hid hsv
      clear hsv
      go_wp2_with (go_at_call 14; (with_reducible refine (HG.out _ A hA2 hb2).mono ?_); rintro e w3 ⟨rfl, hA3, hb3⟩)
      go_ret
      exact ⟨by rw [HV.out]; rfl, hb3⟩
end Go.Proofs.Ytjiiignbejbiiaa
end
section
namespace Go.Proofs.Ytjiiignbejbiiaa
open Go.Shelf Go.RowKit Go.Lib Go.Great
set_option maxRecDepth 100000
set_option maxHeartbeats 1000000
theorem rssplit_any (s : List UInt8) (ls : s.length ≤ 50000) (w : World) : Calls Try.prog 29 #[.string (bstr s)] w fun e w' => e = .returned (tellsS (splitS s)) ∧ Below w.heap.size w w' := by
  have HG := Lib.hid (rsgood_any s ls w)
  cases hs : svcL s with
  | false =>
    rw [hs] at HG
    have he : tellsS (splitS s) = .tuple #[.string ⟨#[]⟩, .string ⟨#[]⟩, .string ⟨#[]⟩, .int .i64 40] := by rw [splitS, hs]; rfl
    rw [he]
    clear hs he
    generalize bstr s = S at *
    go_enter Try.func29, Try.ntmps29
    go_wp2_with (go_at_call 35; (with_reducible refine HG.out.mono ?_); rintro e w1 ⟨rfl, hb1⟩)
    refine bodyPost_ret (v := .tuple #[.string ⟨#[]⟩, .string ⟨#[]⟩, .string ⟨#[]⟩, .int .i64 40]) (results_4 (p := 2) (q := 3) (r := 4) (s := 5) rfl _ _ _ _ _ _ rfl rfl rfl rfl) rfl ?_
    exact ⟨rfl, hb1⟩
  | true =>
    rw [hs] at HG
    have HP : Hid (∀ W, Below w.heap.size w W → Calls Try.prog 17 #[.string (bstr s)] W fun e w' => ∃ A c, e = .returned (.slice A (splitD s).length c) ∧ (splitD s).length ≤ c ∧ SAt w' w'.heap.size A (splitD s) ∧ Below w.heap.size w w') := Lib.hid (fun W hW => (rparts_at s (by omega) W).mono (by
      rintro e w' ⟨A, c, rfl, h1, h2, h3⟩
      exact ⟨A, c, rfl, h1, h2, hW.trans (h3.mono hW.size)⟩))
    obtain ⟨hg, h3, ⟨h4, h5⟩, h6⟩ := (svc_iff s).1 hs
    have he : tellsS (splitS s) = .tuple #[.string (bstr ((splitD s)[0]!.drop 1)), .string (bstr ((splitD s)[1]!.drop 1)), .string (bstr (joinD ((splitD s).drop 2))), .int .i64 0] := by rw [splitS, hs]; rfl
    have h1len : 4 ≤ (splitD s)[1]!.length := by
      rcases h6 with h6 | h6
      · have := congrArg List.length h6; rw [foldL_length] at this; have e : tcpL.length = 4 := rfl; omega
      · have := congrArg List.length h6; rw [foldL_length] at this; have e : udpL.length = 4 := rfl; omega
    have hss := bstr_size s
    have hrest := split_rest s h3
    have hfit : (splitD s)[0]!.length + (splitD s)[1]!.length + 2 ≤ s.length := by
      have e1 := three _ h3
      have h2 : (splitD s).drop 2 ≠ [] := fun e => by
        have := congrArg List.length e
        rw [List.length_drop] at this
        simp at this
        omega
      have e3 := congrArg List.length (joinD_split s)
      generalize (splitD s)[0]! = a at *
      generalize (splitD s)[1]! = b at *
      generalize (splitD s).drop 2 = r at *
      rw [e1, joinD_cons (by simp), joinD_cons h2] at e3
      simp at e3
      omega
    rw [he]
    have HE0 : Hid ((bstr (splitD s)[0]!).extract 1 (splitD s)[0]!.length = bstr ((splitD s)[0]!.drop 1)) := Lib.hid (by rw [bstr_cut, List.take_length])
    have HE1 : Hid ((bstr (splitD s)[1]!).extract 1 (splitD s)[1]!.length = bstr ((splitD s)[1]!.drop 1)) := Lib.hid (by rw [bstr_cut, List.take_length])
    have HE2 : Hid ((bstr s).extract ((splitD s)[0]!.length + (splitD s)[1]!.length + 2) s.length = bstr (joinD ((splitD s).drop 2))) := Lib.hid (by rw [bstr_cut, List.take_length, hrest])
    have hs0 := bstr_size (splitD s)[0]!
    have hs1 := bstr_size (splitD s)[1]!
    clear hs he h5 h6 hg hrest
    generalize splitD s = L at *
    generalize bstr (joinD (L.drop 2)) = J at *
    generalize bstr (L[0]!.drop 1) = X0 at *
    generalize bstr (L[1]!.drop 1) = X1 at *
    generalize bstr s = S at *
    generalize s.length = ns at *
    go_enter Try.func29, Try.ntmps29
    go_upto_region 4 with (first
      | (go_at_call 35; (with_reducible refine HG.out.mono ?_); rintro e w0 ⟨rfl, hb0⟩)
      | (go_at_call 17; (with_reducible refine (HP.out _ hb0).mono ?_); rintro e w1 ⟨A, c, rfl, hc1, hA1, hb1⟩))
    rcases hA1 with h0 | ⟨g1, o1, rfl, hg1, hr⟩
    · rw [h0] at h3
      simp at h3
    have k0 : 0 < L.length := by omega
    have k1 : 1 < L.length := by omega
    have hc0 := hr 0 k0
    have hc1' := hr 1 k1
    rw [← getElem!_pos L 0 k0] at hc0
    rw [← getElem!_pos L 1 k1] at hc1'
    have HL0 : Hid (∀ k : KeptL w1.heap.size w1, (loadVar 9 ⟨g1, o1, none⟩).run Try.prog k.val = .ok (.string (bstr L[0]!)) k.val) := Lib.hid (fun k => ld_str (by rw [k.property.cell hg1]; exact hc0))
    have HL1 : Hid (∀ k : KeptL w1.heap.size w1, (loadVar 9 ⟨g1, o1 + 1, none⟩).run Try.prog k.val = .ok (.string (bstr L[1]!)) k.val) := Lib.hid (fun k => ld_str (by rw [k.property.cell hg1]; exact hc1'))
    have he0 := HE0.out
    have he1 := HE1.out
    have he2 := HE2.out
    have i0 : (0 : Int) < (L.length : Int) := by omega
    have i1 : (1 : Int) < (L.length : Int) := by omega
    have j0 : (1 : Int) ≤ (L[0]!.length : Int) := by omega
    have j1 : (1 : Int) ≤ (L[1]!.length : Int) := by omega
    have HFT := Lib.hid hfit
    have HLS := Lib.hid ls
    have HB1 := Lib.hid hb1
    clear hr hc0 hc1' HE0 HE1 HE2 hg1 hb1 k0 k1 h3 hc1 HP
    generalize bstr L[0]! = P0 at *
    generalize bstr L[1]! = P1 at *
    generalize L[0]!.length = l0 at *
    generalize L[1]!.length = l1 at *
    generalize L.length = n at *
    refine wp_region_keptL w1.heap.size w1 (Below.refl _ _) (by kernel_rfl) (by kernel_rfl) ?_
    repeat (first
      | (go_big_quiet_want; (with_reducible refine quietL_load (o := ⟨some 14, _, _, _, _, _⟩) 9 (.tmp 13) rfl _ ?_ _ HL0.out ?_); rfl; simp only [Act.put, List.setIfInBounds_toArray, List.set_cons_zero, List.set_cons_succ]; go_big_quiet_on)
      | (go_big_quiet_want; (with_reducible refine quietL_load (o := ⟨some 18, _, _, _, _, _⟩) 9 (.tmp 17) rfl _ ?_ _ HL1.out ?_); rfl; simp only [Act.put, List.setIfInBounds_toArray, List.set_cons_zero, List.set_cons_succ]; go_big_quiet_on)
      | (go_big_quiet_want; (with_reducible refine quietL_load (o := ⟨some 23, _, _, _, _, _⟩) 9 (.tmp 22) rfl _ ?_ _ HL0.out ?_); rfl; simp only [Act.put, List.setIfInBounds_toArray, List.set_cons_zero, List.set_cons_succ]; go_big_quiet_on)
      | (go_big_quiet_want; (with_reducible refine quietL_load (o := ⟨some 27, _, _, _, _, _⟩) 9 (.tmp 26) rfl _ ?_ _ HL1.out ?_); rfl; simp only [Act.put, List.setIfInBounds_toArray, List.set_cons_zero, List.set_cons_succ]; go_big_quiet_on)
      | go_big_quiet_step (fail))
    refine wpQuiet_nil ?_
    rintro wk ⟨⟨_, hwk⟩, rfl⟩
    go_wp2
    rw [he2]
    refine bodyPost_ret (v := .tuple #[.string X0, .string X1, .string J, .int .i64 0]) (results_4 (p := 2) (q := 3) (r := 4) (s := 5) rfl _ _ _ _ _ _ rfl rfl rfl rfl) rfl ?_
    exact ⟨rfl, HB1.out.trans (hwk.mono HB1.out.size)⟩
end Go.Proofs.Ytjiiignbejbiiaa
end
