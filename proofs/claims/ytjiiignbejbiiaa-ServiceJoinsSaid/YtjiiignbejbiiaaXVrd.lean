/- Contract of Join of signpostref10. Conditions: the three have at most 1,500 bytes. Written by mkvrd.py. -/
import Derived.Test.YtjiiignbejbiiaaXVcd
import Derived.Test.YtjiiignbejbiiaaXVra
namespace Go.Proofs.Ytjiiignbejbiiaa
open Go.Shelf Go.RowKit Go.Lib Go.Great
set_option maxRecDepth 100000
set_option maxHeartbeats 1000000
theorem rsjoin_any (a b c : List UInt8) (hl : a.length + b.length + c.length ≤ 1500) (w : World) : Calls Try.prog 37 #[.string (bstr a), .string (bstr b), .string (bstr c)] w fun e w' => e = .returned (tellsC (joinS a b c)) ∧ Below w.heap.size w w' := by
  have HS : Hid (∀ W, Below w.heap.size w W → Calls Try.prog 29 #[.string (bstr (rawJ a b c))] W fun e w' => e = .returned (tellsS (splitS (rawJ a b c))) ∧ Below w.heap.size w w') := Lib.hid (fun W hW => (rssplit_any (rawJ a b c) (by rw [rawJ_length]; omega) W).mono (by
    rintro e w' ⟨rfl, h⟩
    exact ⟨rfl, hW.trans (h.mono hW.size)⟩))
  have h1 : (⟨#[95]⟩ : ByteArray) ++ bstr a = bstr (95 :: a) := bstr_append [95] a
  have h2 : bstr (95 :: a) ++ (⟨#[46, 95]⟩ : ByteArray) = bstr (95 :: a ++ [46, 95]) := bstr_append _ [46, 95]
  have h3 : bstr (95 :: a ++ [46, 95]) ++ bstr b = bstr (95 :: a ++ [46, 95] ++ b) := bstr_append _ _
  have h4 : bstr (95 :: a ++ [46, 95] ++ b) ++ (⟨#[46]⟩ : ByteArray) = bstr (95 :: a ++ [46, 95] ++ b ++ [46]) := bstr_append _ [46]
  have h5 : bstr (95 :: a ++ [46, 95] ++ b ++ [46]) ++ bstr c = bstr (rawJ a b c) := by
    rw [bstr_append, rawJ_eq]
    simp
  have s1 : ¬ 9223372036854775807 < 1 + (bstr a).size := by rw [bstr_size]; omega
  have s2 : ¬ 9223372036854775807 < (bstr (95 :: a)).size + 2 := by rw [bstr_size]; simp; omega
  have s3 : ¬ 9223372036854775807 < (bstr (95 :: a ++ [46, 95])).size + (bstr b).size := by rw [bstr_size, bstr_size]; simp; omega
  have s4 : ¬ 9223372036854775807 < (bstr (95 :: a ++ [46, 95] ++ b)).size + 1 := by rw [bstr_size]; simp; omega
  have s5 : ¬ 9223372036854775807 < (bstr (95 :: a ++ [46, 95] ++ b ++ [46])).size + (bstr c).size := by rw [bstr_size, bstr_size]; simp; omega
  have HB0 := Below.refl w.heap.size w
  obtain ⟨⟨p, q, t, g⟩, hx⟩ : ∃ x, x = splitS (rawJ a b c) := ⟨_, rfl⟩
  have hj : joinS a b c = if ((p, q, t, g) : List UInt8 × List UInt8 × List UInt8 × Int) = (a, b, c, 0) then (rawJ a b c, 0) else ([], 40) := by rw [joinS, hx]
  rw [← hx] at HS
  unfold tellsS at HS
  simp only at HS
  have hlst := bstr_list
  have hE : Hid (¬ (g = 0 ∧ p = a ∧ q = b ∧ t = c) → tellsC (joinS a b c) = .tuple #[.string ⟨#[]⟩, .int .i64 40]) := Lib.hid (fun h => by
    rw [hj, if_neg (fun e => h (by
      injection e with e1 e
      injection e with e2 e
      injection e with e3 e4
      exact ⟨e4, e1, e2, e3⟩))]
    rfl)
  have hT : Hid (g = 0 ∧ p = a ∧ q = b ∧ t = c → tellsC (joinS a b c) = .tuple #[.string (bstr (rawJ a b c)), .int .i64 0]) := Lib.hid (fun ⟨e1, e2, e3, e4⟩ => by
    rw [hj, if_pos (by rw [e1, e2, e3, e4])]
    rfl)
  generalize tellsC (joinS a b c) = V at *
  clear hj hx
  generalize bstr (rawJ a b c) = R at *
  generalize bstr (95 :: a ++ [46, 95] ++ b ++ [46]) = A4 at *
  generalize bstr (95 :: a ++ [46, 95] ++ b) = A3 at *
  generalize bstr (95 :: a ++ [46, 95]) = A2 at *
  generalize bstr (95 :: a) = A1 at *
  go_enter Try.func37, Try.ntmps37
  go_upto_region 3 with (go_at_call 29; (with_reducible refine (HS.out _ HB0).mono ?_); rintro e w2 ⟨rfl, hb2⟩)
  clear HS HB0 h1 h2 h3 h4 h5 s1 s2 s3 s4 s5
  by_cases hg : g = 0
  · subst hg
    by_cases hp : p = a
    · subst hp
      by_cases hq : q = b
      · subst hq
        by_cases ht : t = c
        · subst ht
          have HV := Lib.hid (hT.out ⟨rfl, rfl, rfl, rfl⟩)
          clear hT hE
          go_wp2
          refine bodyPost_ret (v := .tuple #[.string R, .int .i64 0]) (results_2b (p := 6) (q := 7) rfl _ _ _ _ rfl rfl) rfl ?_
          exact ⟨by rw [HV.out], hb2⟩
        · have HV := Lib.hid (hE.out (fun h => ht h.2.2.2))
          have htb : (t == c) = false := by simpa using ht
          clear ht
          clear hT hE
          go_wp2
          refine bodyPost_ret (v := .tuple #[.string ⟨#[]⟩, .int .i64 40]) (results_2b (p := 6) (q := 7) rfl _ _ _ _ rfl rfl) rfl ?_
          exact ⟨by rw [HV.out], hb2⟩
      · have HV := Lib.hid (hE.out (fun h => hq h.2.2.1))
        clear hT hE
        go_wp2
        refine bodyPost_ret (v := .tuple #[.string ⟨#[]⟩, .int .i64 40]) (results_2b (p := 6) (q := 7) rfl _ _ _ _ rfl rfl) rfl ?_
        exact ⟨by rw [HV.out], hb2⟩
    · have HV := Lib.hid (hE.out (fun h => hp h.2.1))
      clear hT hE
      go_wp2
      refine bodyPost_ret (v := .tuple #[.string ⟨#[]⟩, .int .i64 40]) (results_2b (p := 6) (q := 7) rfl _ _ _ _ rfl rfl) rfl ?_
      exact ⟨by rw [HV.out], hb2⟩
  · have HV := Lib.hid (hE.out (fun h => hg h.1))
    clear hT hE
    go_wp2
    refine bodyPost_ret (v := .tuple #[.string ⟨#[]⟩, .int .i64 40]) (results_2b (p := 6) (q := 7) rfl _ _ _ _ rfl rfl) rfl ?_
    exact ⟨by rw [HV.out], hb2⟩
end Go.Proofs.Ytjiiignbejbiiaa
