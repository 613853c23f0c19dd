/- Contract of Unwire of signpostref09. Conditions: at most 100,000 bytes. -/
import Derived.Test.YtjiiignbejbiiaaXLrc
import Derived.Test.YtjiiignbejbiiaaXLcm
namespace Go.Proofs.Ytjiiignbejbiiaa
open Go.Shelf Go.RowKit Go.Lib Go.Great
set_option maxRecDepth 100000
set_option maxHeartbeats 1000000
theorem joinD_snoc : ∀ (L : List (List UInt8)) (p : List UInt8), joinD (L ++ [p]) = if L = [] then p else joinD L ++ 46 :: p
  | [], p => by simp [joinD]
  | [x], p => by simp [joinD]
  | x :: y :: r, p => by
    show joinD (x :: ((y :: r) ++ [p])) = _
    rw [joinD_cons (by simp), joinD_snoc (y :: r) p, if_neg (List.cons_ne_nil _ _), if_neg (List.cons_ne_nil _ _), joinD_cons (x := x) (r := y :: r) (List.cons_ne_nil _ _)]
    simp only [List.append_assoc, List.cons_append]
theorem joinD_ne {L : List (List UInt8)} (h : ∀ p ∈ L, partL p = true) (hL : L ≠ []) : 1 ≤ (joinD L).length := by
  cases L with
  | nil => exact absurd rfl hL
  | cons x r =>
    have h1 := (partL_len (h x (by simp))).1
    have h2 := joinD_length (x :: r) (by simp)
    rw [sizeD_cons] at h2
    omega
def URel (b : List UInt8) (k : Nat) (w : World) (v7 v8 : Value) (wr : World) : Prop := ∃ (L : List (List UInt8)) (i : Nat), v7 = .string (bstr (joinD L)) ∧ v8 = .int .i64 (i : Int) ∧ i = k + sizeD L ∧ i ≤ b.length ∧ (∀ p ∈ L, partL p = true) ∧ Below w.heap.size w wr ∧ rd (b.drop k) = (rd (b.drop i)).map fun x => (L ++ x.1, sizeD L + x.2)
theorem runwire_range (A : Option Addr) (c : Nat) (b : List UInt8) (k : Int) (hk : k < 0 ∨ (b.length : Int) ≤ k) (w : World) : Calls Try.prog 26 #[.slice A b.length c, .int .i64 k] w fun e w' => e = .returned (tellsU (unwireL b k)) ∧ Below w.heap.size w w' := by
  rw [unwireL, if_pos hk]
  generalize b.length = n at *
  have he : tellsU ([], 0, 30) = .tuple #[.string ⟨#[]⟩, .int .i64 0, .int .i64 30] := rfl
  rw [he]
  by_cases h : k < 0
  · clear hk
    go_enter Try.func26, Try.ntmps26
    go_wp2
    refine bodyPost_ret (v := .tuple #[.string ⟨#[]⟩, .int .i64 0, .int .i64 30]) (results_3 (p := 4) (q := 5) (r := 6) rfl _ _ _ _ _ rfl rfl rfl) rfl ?_
    exact ⟨rfl, Below.refl _ _⟩
  · have h2 : (n : Int) ≤ k := by omega
    clear hk
    go_enter Try.func26, Try.ntmps26
    go_wp2
    refine bodyPost_ret (v := .tuple #[.string ⟨#[]⟩, .int .i64 0, .int .i64 30]) (results_3 (p := 4) (q := 5) (r := 6) rfl _ _ _ _ _ rfl rfl rfl) rfl ?_
    exact ⟨rfl, Below.refl _ _⟩
theorem runwire_in (A : Option Addr) (c : Nat) (b : List UInt8) (k : Nat) (hk : k < b.length) (hl : b.length ≤ 50000) (hc : b.length ≤ c) (w : World) (hA : BAt w w.heap.size A b) : Calls Try.prog 26 #[.slice A b.length c, .int .i64 (k : Int)] w fun e w' => e = .returned (tellsU (unwireL b (k : Int))) ∧ Below w.heap.size w w' := by
  have hU : unwireL b (k : Int) = pickU (k : Int) (rd (b.drop k)) := by rw [unwireL, if_neg (by omega), Int.toNat_natCast]
  have R0 : Hid (URel b k w (.string ⟨#[]⟩) (.int .i64 (k : Int)) w) := Lib.hid ⟨[], k, rfl, rfl, by simp [sizeD], by omega, by simp, Below.refl _ _, by simp [sizeD]⟩
  have HA := Lib.hid hA
  have HU := Lib.hid hU
  obtain ⟨R, hR⟩ : ∃ R, R = tellsU (unwireL b (k : Int)) := ⟨_, rfl⟩
  have HR : Hid (R = tellsU (pickU (k : Int) (rd (b.drop k)))) := Lib.hid (by rw [hR, hU])
  rw [← hR]
  clear hA hU hR HU
  obtain ⟨n, hn⟩ : ∃ n, n = b.length := ⟨_, rfl⟩
  have HN := Lib.hid hn
  rw [← hn] at hk hl hc ⊢
  clear hn
  have hk' : (k : Int) < (n : Int) := by omega
  go_enter Try.func26, Try.ntmps26
  go_upto_region 5 with fail
  generalize (decide ((k : Int) < 0) || decide (n ≤ k)) = D3
  generalize decide ((k : Int) < 0) = D1
  generalize decide (n ≤ k) = D2
  go_loopw [7, 8] (URel b k w) (fun _ i _ => n - (RowKit.intOf i).toNat)
  case atStart => exact R0.out
  case round =>
    obtain ⟨L, i, rfl, rfl, hiL, hil, hLP, hb, hrd⟩ := hrel
    rw [← HN.out] at hil
    clear R0
    have HX := HA.out.below hb
    have HB := Lib.hid hb
    have HIL := Lib.hid hiL
    have HLP := Lib.hid hLP
    by_cases hlt : i < n
    · have hls : i < b.length := by rw [← HN.out]; exact hlt
      obtain ⟨g, off, rfl, hg, hcell⟩ := HX.some_ (by omega)
      have hc1 := hcell i hls
      have hbyte := b[i].toNat_lt
      have hdrop := rd_at hls
      rw [hdrop] at hrd
      have hlt' : (i : Int) < (n : Int) := by omega
      have hjl : (joinD L).length ≤ 50000 := by
        by_cases hL : L = []
        · rw [hL]; simp [joinD]
        · have := joinD_length L hL
          omega
      by_cases h0 : b[i] = 0
      · have hz : (b[i].toNat : Int) = 0 := by rw [h0]; rfl
        rw [hz] at hc1
        have HE : Hid (rd (b.drop k) = some (L, sizeD L + 1)) := Lib.hid (by rw [hrd, h0, rd_zero]; simp)
        have HG : Hid (Calls Try.prog 14 #[.string (bstr (joinD L))] wr fun e w' => e = .returned (.bool (goodL (joinD L))) ∧ Below w.heap.size w w') := Lib.hid ((rgood_any (joinD L) (by omega) wr).mono (by rintro e w' ⟨rfl, h⟩; exact ⟨rfl, HB.out.trans (h.mono HB.out.size)⟩))
        have HR2 := HR.out
        rw [HE.out] at HR2
        simp only [pickU] at HR2
        have hI1 : (k : Int) + ((sizeD L + 1 : Nat) : Int) = (i : Int) + 1 := by have := HIL.out; omega
        rw [hI1] at HR2
        clear hrd hcell hdrop hb HX hbyte hz h0 HA hg hiL hjl HE HIL HLP hLP hls hI1
        generalize joinD L = J at *
        generalize goodL J = gj at HG HR2
        cases gj with
        | true =>
          rw [if_pos rfl] at HR2
          have hR2 : R = .tuple #[.string (bstr J), .int .i64 ((i : Int) + 1), .int .i64 0] := HR2
          have HR3 := Lib.hid hR2
          clear HR2 hR2
          generalize bstr J = JB at *
          go_wp2_with (go_at_call 14; (with_reducible refine HG.out.mono ?_); rintro e w3 ⟨rfl, hb3⟩)
          refine bodyPost_ret (v := .tuple #[.string JB, .int .i64 ((i : Int) + 1), .int .i64 0]) (results_3 (p := 4) (q := 5) (r := 6) rfl _ _ _ _ _ rfl rfl rfl) rfl ?_
          exact ⟨by rw [HR3.out], hb3⟩
        | false =>
          rw [if_neg (by simp)] at HR2
          have hR2 : R = .tuple #[.string ⟨#[]⟩, .int .i64 0, .int .i64 10] := HR2
          have HR3 := Lib.hid hR2
          clear HR2 hR2
          generalize bstr J = JB at *
          go_wp2_with (go_at_call 14; (with_reducible refine HG.out.mono ?_); rintro e w3 ⟨rfl, hb3⟩)
          refine bodyPost_ret (v := .tuple #[.string ⟨#[]⟩, .int .i64 0, .int .i64 10]) (results_3 (p := 4) (q := 5) (r := 6) rfl _ _ _ _ _ rfl rfl rfl) rfl ?_
          exact ⟨by rw [HR3.out], hb3⟩
      · obtain ⟨q, hq⟩ : ∃ q, q = b[i].toNat := ⟨_, rfl⟩
        have hq0 : ¬ (q : Int) = 0 := fun e => h0 (UInt8.toNat_inj.1 (by rw [← hq, show (0 : UInt8).toNat = 0 from rfl]; omega))
        rw [← hq] at hc1 hbyte
        have HRD := Lib.hid hrd
        have hni : (n : Int) - (i : Int) - 1 = ((n - i - 1 : Nat) : Int) := by omega
        by_cases hsh : i + 1 + q ≤ n
        · have hsh' : ¬ (((n - i - 1 : Nat) : Int) < (q : Int)) := by omega
          have hnl : ¬ (b.drop (i + 1)).length < b[i].toNat := by rw [List.length_drop, ← HN.out, ← hq]; omega
          obtain ⟨p, hp⟩ : ∃ p, p = (b.drop (i + 1)).take q := ⟨_, rfl⟩
          have hpl : p.length = q := by rw [hp, List.length_take, List.length_drop, ← HN.out]; omega
          have hsl : ∀ W, (Instr.slice 29 (.slice (some ⟨g, off, none⟩) n c) (some (.int .i64 ((i : Int) + 1))) (some (.int .i64 ((i : Int) + 1 + (q : Int)))) none).run Try.prog W = .ok (.slice (cutA (some ⟨g, off, none⟩) c (i + 1)) q (c - (i + 1))) W := fun W => by
            rw [run_slice_lh W 29 (some ⟨g, off, none⟩) n c under22 .i64 .i64 _ _ (by omega) (by omega) (by omega), size5]
            simp only [Result.andThen, sliced, cutA]
            congr 2
            · simp [show ((i : Int) + 1).toNat = i + 1 by omega]
            · simp [show ((i : Int) + 1).toNat = i + 1 by omega, show ((i : Int) + 1 + (q : Int)).toNat = i + 1 + q by omega]
          have hBp : BAt wr w.heap.size (cutA (some ⟨g, off, none⟩) c (i + 1)) p := by
            have h1 := HX.cut (c := c) (k := i + 1) (by omega) (by rw [← HN.out]; exact hc)
            rcases h1 with h1 | ⟨g', off', e, hg', hc'⟩
            · rw [h1] at hp
              exact .inl (by simpa using hp)
            · refine .inr ⟨g', off', e, hg', fun j hj => ?_⟩
              have hj2 : j < (b.drop (i + 1)).length := by rw [hp, List.length_take] at hj; omega
              rw [hc' j hj2]
              subst hp
              simp
          have HCV : Hid (∀ W, Below wr.heap.size wr W → (convert 29 9 (.slice (cutA (some ⟨g, off, none⟩) c (i + 1)) q (c - (i + 1)))).run Try.prog W = .ok (.string (bstr p)) W) := Lib.hid (fun W hW => by
            have := run_convert_bat (P := Try.prog) 29 9 5 (c - (i + 1)) Try.underlying29 Try.underlying5 Try.underlying9 (hBp.below (B := w.heap.size) (hW.mono HB.out.size))
            rwa [hpl] at this)
          have hcv := HCV.out wr (Below.refl _ _)
          have HPA := Lib.hid (rpart_any p (by omega) wr)
          have hJe := bstr_empty (joinD L)
          have hJs := bstr_size (joinD L)
          have hps := bstr_size p
          rw [hpl] at hps
          cases hpp : partL p
          · rw [hpp] at HPA
            have hR2 : R = .tuple #[.string ⟨#[]⟩, .int .i64 0, .int .i64 10] := by
              rw [HR.out, HRD.out, rd_bad h0 hnl (by rw [← hq, ← hp]; exact hpp)]
              rfl
            have HR3 := Lib.hid hR2
            clear hR2 hb hiL hLP hcell hdrop HX HA hg hrd hp hBp hnl HRD h0 hpp hq HIL HLP hls
            by_cases hL : (joinD L).length = 0
            · rw [decide_eq_true hL] at hJe
              rw [hL] at hJs
              clear hjl hL
              generalize bstr (joinD L) = JB at *
              generalize bstr p = PB at *
              go_wp2_with (go_at_call 12; (with_reducible refine HPA.out.mono ?_); rintro e w2 ⟨rfl, hb2⟩; have hcv2 := HCV.out _ hb2)
              refine bodyPost_ret (v := .tuple #[.string ⟨#[]⟩, .int .i64 0, .int .i64 10]) (results_3 (p := 4) (q := 5) (r := 6) rfl _ _ _ _ _ rfl rfl rfl) rfl ?_
              exact ⟨by rw [HR3.out], HB.out.trans (hb2.mono HB.out.size)⟩
            · rw [decide_eq_false hL] at hJe
              generalize (joinD L).length = jl at *
              generalize bstr (joinD L) = JB at *
              generalize bstr p = PB at *
              have hs1 : ¬ 9223372036854775807 < JB.size + 1 := by omega
              go_wp2_with (go_at_call 12; (with_reducible refine HPA.out.mono ?_); rintro e w2 ⟨rfl, hb2⟩; have hcv2 := HCV.out _ hb2)
              refine bodyPost_ret (v := .tuple #[.string ⟨#[]⟩, .int .i64 0, .int .i64 10]) (results_3 (p := 4) (q := 5) (r := 6) rfl _ _ _ _ _ rfl rfl rfl) rfl ?_
              exact ⟨by rw [HR3.out], HB.out.trans (hb2.mono HB.out.size)⟩
          · rw [hpp] at HPA
            have HNX : Hid (rd (b.drop k) = (rd (b.drop (i + 1 + q))).map fun x => ((L ++ [p]) ++ x.1, sizeD (L ++ [p]) + x.2)) := Lib.hid (by
              rw [HRD.out, rd_part h0 hnl (by rw [← hq, ← hp]; exact hpp), List.drop_drop, ← hq, ← hp, Option.map_map]
              congr 1
              funext x
              simp only [Function.comp_apply, List.append_assoc, List.singleton_append]
              congr 1
              rw [sizeD_append, sizeD_cons, sizeD_nil, hpl]
              omega)
            have HSZ : Hid (i + 1 + q = k + sizeD (L ++ [p])) := Lib.hid (by rw [sizeD_append, sizeD_cons, hpl, sizeD_nil]; omega)
            have HBS : Hid (i + 1 + q ≤ b.length) := Lib.hid (by rw [← HN.out]; exact hsh)
            have HLP2 : Hid (∀ x ∈ L ++ [p], partL x = true) := Lib.hid (fun x hx => by
              rcases List.mem_append.1 hx with hx | hx
              · exact HLP.out x hx
              · simp at hx
                subst hx
                exact hpp)
            have HJ := Lib.hid (joinD_snoc L p)
            have HJN0 := Lib.hid (fun h : L ≠ [] => joinD_ne hLP h)
            clear hb hiL hLP hcell hdrop HX HA hg hrd hp hBp hnl HRD h0 hpp hq HIL HLP hls
            by_cases hL : L = []
            · have HJN : Hid (bstr (joinD L) ++ bstr p = bstr (joinD (L ++ [p]))) := Lib.hid (by
                rw [HJ.out, if_pos hL, hL, bstr_append]
                rfl)
              have hJ0 : (joinD L).length = 0 := by rw [hL]; rfl
              rw [decide_eq_true hJ0] at hJe
              rw [hJ0] at hJs
              clear hjl hL hJ0 HJN0 HJ
              obtain ⟨NB, hNB⟩ : ∃ NB, NB = bstr (joinD (L ++ [p])) := ⟨_, rfl⟩
              rw [← hNB] at HJN
              have HNB := Lib.hid hNB
              clear hNB
              generalize bstr (joinD L) = JB at *
              generalize bstr p = PB at *
              have hs1 : ¬ 9223372036854775807 < JB.size + PB.size := by omega
              go_wp2_with (go_at_call 12; (with_reducible refine HPA.out.mono ?_); rintro e w2 ⟨rfl, hb2⟩; have hcv2 := HCV.out _ hb2)
              go_roundw
              case rel => exact ⟨L ++ [p], i + 1 + q, by rw [HJN.out, HNB.out], by simp, HSZ.out, HBS.out, HLP2.out, HB.out.trans (hb2.mono HB.out.size), HNX.out⟩
              case measure => simp [RowKit.intOf]; omega
            · have HJN : Hid (bstr (joinD L) ++ ⟨#[46]⟩ ++ bstr p = bstr (joinD (L ++ [p]))) := Lib.hid (by
                rw [HJ.out, if_neg hL, show (⟨#[46]⟩ : ByteArray) = bstr [46] from rfl, bstr_append, bstr_append]
                congr 1
                simp)
              have hJ0 := HJN0.out hL
              rw [decide_eq_false (by omega)] at hJe
              clear hL HJN0 HJ
              obtain ⟨NB, hNB⟩ : ∃ NB, NB = bstr (joinD (L ++ [p])) := ⟨_, rfl⟩
              rw [← hNB] at HJN
              have HNB := Lib.hid hNB
              clear hNB
              generalize (joinD L).length = jl at *
              generalize bstr (joinD L) = JB at *
              generalize bstr p = PB at *
              have hs1 : ¬ 9223372036854775807 < JB.size + 1 := by omega
              have hs2 : ¬ 9223372036854775807 < (JB ++ ⟨#[46]⟩ : ByteArray).size + PB.size := by
                rw [ByteArray.size_append, show (⟨#[46]⟩ : ByteArray).size = 1 from rfl]
                omega
              go_wp2_with (go_at_call 12; (with_reducible refine HPA.out.mono ?_); rintro e w2 ⟨rfl, hb2⟩; have hcv2 := HCV.out _ hb2)
              go_roundw
              case rel => exact ⟨L ++ [p], i + 1 + q, by rw [HJN.out, HNB.out], by simp, HSZ.out, HBS.out, HLP2.out, HB.out.trans (hb2.mono HB.out.size), HNX.out⟩
              case measure => simp [RowKit.intOf]; omega
        · have hsh' : ((n - i - 1 : Nat) : Int) < (q : Int) := by omega
          have hR2 : R = .tuple #[.string ⟨#[]⟩, .int .i64 0, .int .i64 10] := by
            rw [HR.out, HRD.out, rd_short h0 (by rw [List.length_drop, ← HN.out, ← hq]; omega)]
            rfl
          have HR3 := Lib.hid hR2
          clear hR2 hb hiL hLP hcell hdrop HX HA hg hrd HRD h0 hq HIL HLP hls
          generalize joinD L = J at *
          generalize bstr J = JB at *
          go_wp2
          refine bodyPost_ret (v := .tuple #[.string ⟨#[]⟩, .int .i64 0, .int .i64 10]) (results_3 (p := 4) (q := 5) (r := 6) rfl _ _ _ _ _ rfl rfl rfl) rfl ?_
          exact ⟨by rw [HR3.out], HB.out⟩
    · obtain rfl : i = n := by omega
      have hR2 : R = .tuple #[.string ⟨#[]⟩, .int .i64 0, .int .i64 10] := by
        rw [HR.out, hrd, HN.out, List.drop_length]
        rfl
      have HR3 := Lib.hid hR2
      have hlt' : ¬ (i : Int) < (i : Int) := by omega
      clear hrd hb HX HA hiL hLP hR2 HIL HLP
      generalize joinD L = J at *
      generalize bstr J = JB at *
      go_wp2
      refine bodyPost_ret (v := .tuple #[.string ⟨#[]⟩, .int .i64 0, .int .i64 10]) (results_3 (p := 4) (q := 5) (r := 6) rfl _ _ _ _ _ rfl rfl rfl) rfl ?_
      exact ⟨by rw [HR3.out], HB.out⟩
end Go.Proofs.Ytjiiignbejbiiaa
