/- Walk of ServiceJoins. Conditions: what comes in fits 2^47 bytes. -/
import Derived.Test.YtjiiignbejbiiaaXVwt
import Derived.Test.YtjiiignbejbiiaaXVrd
namespace Go.Proofs.Ytjiiignbejbiiaa
open Go.Shelf Go.RowKit Go.Lib Go.Great
set_option maxRecDepth 100000
set_option maxHeartbeats 2000000
theorem sjoins_big (a b c s : List UInt8) (ha : a.length ≤ 140737488355328) (hb : b.length ≤ 140737488355328) (hc : c.length ≤ 140737488355328) (hs : s.length ≤ 140737488355328) (h : 1500 < a.length + b.length + c.length + s.length) (w : World) : Calls Try.prog 8 #[.string (bstr a), .string (bstr b), .string (bstr c), .string (bstr s)] w fun e w' => e = .returned (.bool true) ∧ Below w.heap.size w w' := by
  have hsa := bstr_size a
  have hsb := bstr_size b
  have hsc := bstr_size c
  have hss := bstr_size s
  have HLI := Lib.hid (slives_any w)
  have hn : (1500 : Int) < (a.length : Int) + (b.length : Int) + (c.length : Int) + (s.length : Int) := by omega
  clear h
  generalize bstr a = AB at *
  generalize bstr b = BB at *
  generalize bstr c = CB at *
  generalize bstr s = SB at *
  generalize a.length = la at *
  generalize b.length = lb at *
  generalize c.length = lc at *
  generalize s.length = ls at *
  go_enter Try.func8, Try.ntmps8
  go_wp2_with (go_at_call 27; (with_reducible refine HLI.out.mono ?_); rintro e w1 ⟨rfl, hb1⟩)
  go_ret
  exact ⟨rfl, by assumption⟩
theorem sjoins_gen (A B C S X P Q T P2 Q2 T2 : ByteArray) (e g g2 : Int) (la lb lc ls : Nat) (hsa : A.size = la) (hsb : B.size = lb) (hsc : C.size = lc) (hss : S.size = ls) (h : la + lb + lc + ls ≤ 1500) (w : World)
    (C36 : Hid (∀ W, Below w.heap.size w W → Calls Try.prog 36 #[.string A, .string B, .string C] W fun x w' => x = .returned (.tuple #[.string X, .int .i64 e]) ∧ Below w.heap.size w w'))
    (C37 : Hid (∀ W, Below w.heap.size w W → Calls Try.prog 37 #[.string A, .string B, .string C] W fun x w' => x = .returned (.tuple #[.string X, .int .i64 e]) ∧ Below w.heap.size w w'))
    (C28 : Hid (∀ W, Below w.heap.size w W → Calls Try.prog 28 #[.string X] W fun x w' => x = .returned (.tuple #[.string P, .string Q, .string T, .int .i64 g]) ∧ Below w.heap.size w w'))
    (C28s : Hid (∀ W, Below w.heap.size w W → Calls Try.prog 28 #[.string S] W fun x w' => x = .returned (.tuple #[.string P2, .string Q2, .string T2, .int .i64 g2]) ∧ Below w.heap.size w w'))
    (C36s : Hid (g2 = 0 → ∀ W, Below w.heap.size w W → Calls Try.prog 36 #[.string P2, .string Q2, .string T2] W fun x w' => x = .returned (.tuple #[.string S, .int .i64 0]) ∧ Below w.heap.size w w'))
    (hE : (e = 0 ∧ P = A ∧ Q = B ∧ T = C ∧ g = 0) ∨ e = 40) (hG : g2 = 0 ∨ g2 = 40) :
    Calls Try.prog 8 #[.string A, .string B, .string C, .string S] w fun e w' => e = .returned (.bool true) ∧ Below w.heap.size w w' := by
  have hn : ¬ (1500 : Int) < (la : Int) + (lb : Int) + (lc : Int) + (ls : Int) := by omega
  have HB0 := Below.refl w.heap.size w
  have LV := upB w slives_any
  have hla : la ≤ 1500 := by omega
  have hlb : lb ≤ 1500 := by omega
  have hlc : lc ≤ 1500 := by omega
  have hls : ls ≤ 1500 := by omega
  clear h
  have hSS : (S.toList == S.toList) = true := by simp
  have hXX : (X.toList == X.toList) = true := by simp
  have hAA : (A.toList == A.toList) = true := by simp
  have hBB : (B.toList == B.toList) = true := by simp
  have hCC : (C.toList == C.toList) = true := by simp
  rcases hE with ⟨rfl, rfl, rfl, rfl, rfl⟩ | rfl
  · rcases hG with rfl | rfl
    · have D36 := Lib.hid (C36s.out rfl)
      clear C36s
      go_enter Try.func8, Try.ntmps8
      go_wp2_with (first
        | (go_at_call 36; (with_reducible refine (C36.out _ HB0).mono ?_); rintro e w1 ⟨rfl, hb1⟩)
        | (go_at_call 37; (with_reducible refine (C37.out _ hb1).mono ?_); rintro e w2 ⟨rfl, hb2⟩)
        | (go_at_call 28; (with_reducible refine (C28.out _ hb2).mono ?_); rintro e w3 ⟨rfl, hb3⟩)
        | (go_at_call 28; (with_reducible refine (C28s.out _ hb3).mono ?_); rintro e w4 ⟨rfl, hb4⟩)
        | (go_at_call 36; (with_reducible refine (D36.out _ hb4).mono ?_); rintro e w5 ⟨rfl, hb5⟩)
        | (go_at_call 27; (with_reducible refine (LV.out _ hb5).mono ?_); rintro e w6 ⟨rfl, hb6⟩))
      go_ret
      exact ⟨rfl, hb6⟩
    · clear C36s
      go_enter Try.func8, Try.ntmps8
      go_wp2_with (first
        | (go_at_call 36; (with_reducible refine (C36.out _ HB0).mono ?_); rintro e w1 ⟨rfl, hb1⟩)
        | (go_at_call 37; (with_reducible refine (C37.out _ hb1).mono ?_); rintro e w2 ⟨rfl, hb2⟩)
        | (go_at_call 28; (with_reducible refine (C28.out _ hb2).mono ?_); rintro e w3 ⟨rfl, hb3⟩)
        | (go_at_call 28; (with_reducible refine (C28s.out _ hb3).mono ?_); rintro e w4 ⟨rfl, hb4⟩)
        | (go_at_call 27; (with_reducible refine (LV.out _ hb4).mono ?_); rintro e w6 ⟨rfl, hb6⟩))
      go_ret
      exact ⟨rfl, hb6⟩
  · rcases hG with rfl | rfl
    · have D36 := Lib.hid (C36s.out rfl)
      clear C36s
      go_enter Try.func8, Try.ntmps8
      go_wp2_with (first
        | (go_at_call 36; (with_reducible refine (C36.out _ HB0).mono ?_); rintro e w1 ⟨rfl, hb1⟩)
        | (go_at_call 37; (with_reducible refine (C37.out _ hb1).mono ?_); rintro e w2 ⟨rfl, hb2⟩)
        | (go_at_call 28; (with_reducible refine (C28.out _ hb2).mono ?_); rintro e w3 ⟨rfl, hb3⟩)
        | (go_at_call 28; (with_reducible refine (C28s.out _ hb3).mono ?_); rintro e w4 ⟨rfl, hb4⟩)
        | (go_at_call 36; (with_reducible refine (D36.out _ hb4).mono ?_); rintro e w5 ⟨rfl, hb5⟩)
        | (go_at_call 27; (with_reducible refine (LV.out _ hb5).mono ?_); rintro e w6 ⟨rfl, hb6⟩))
      go_ret
      exact ⟨rfl, hb6⟩
    · clear C36s
      go_enter Try.func8, Try.ntmps8
      go_wp2_with (first
        | (go_at_call 36; (with_reducible refine (C36.out _ HB0).mono ?_); rintro e w1 ⟨rfl, hb1⟩)
        | (go_at_call 37; (with_reducible refine (C37.out _ hb1).mono ?_); rintro e w2 ⟨rfl, hb2⟩)
        | (go_at_call 28; (with_reducible refine (C28.out _ hb2).mono ?_); rintro e w3 ⟨rfl, hb3⟩)
        | (go_at_call 28; (with_reducible refine (C28s.out _ hb3).mono ?_); rintro e w4 ⟨rfl, hb4⟩)
        | (go_at_call 27; (with_reducible refine (LV.out _ hb4).mono ?_); rintro e w6 ⟨rfl, hb6⟩))
      go_ret
      exact ⟨rfl, hb6⟩
theorem sjoins_small (a b c s : List UInt8) (h : a.length + b.length + c.length + s.length ≤ 1500) (w : World) : Calls Try.prog 8 #[.string (bstr a), .string (bstr b), .string (bstr c), .string (bstr s)] w fun e w' => e = .returned (.bool true) ∧ Below w.heap.size w w' := by
  have C36 := upB w (sjoin_any a b c (by omega))
  have C37 := upB w (rsjoin_any a b c (by omega))
  have S2 : ∃ p q t g2, splitS s = (p, q, t, g2) ∧ (g2 = 0 ∨ g2 = 40) ∧ (g2 = 0 → joinS p q t = (s, 0) ∧ p.length + q.length + t.length ≤ 1500) := by
    cases hv : svcL s with
    | true =>
      have hj := join_split s hv
      refine ⟨_, _, _, 0, by rw [splitS, if_pos hv], .inl rfl, fun _ => ⟨hj, ?_⟩⟩
      rw [joinS] at hj
      split at hj
      · injection hj with hr _
        have h1 := congrArg List.length hr
        rw [rawJ_length] at h1
        have := svc_len hv
        omega
      · injection hj with _ h2
        cases h2
    | false => exact ⟨[], [], [], 40, by rw [splitS, hv]; rfl, .inr rfl, fun e => by cases e⟩
  obtain ⟨p, q, t, g2, h1, h2, h3⟩ := S2
  have C28s := upB w (ssplit_any s)
  rw [h1] at C28s
  have C36s : Hid (g2 = 0 → ∀ W, Below w.heap.size w W → Calls Try.prog 36 #[.string (bstr p), .string (bstr q), .string (bstr t)] W fun x w' => x = .returned (.tuple #[.string (bstr s), .int .i64 0]) ∧ Below w.heap.size w w') := Lib.hid (fun e W hW => by
    have h4 := (upB w (sjoin_any p q t (h3 e).2)).out W hW
    rw [(h3 e).1] at h4
    exact h4)
  by_cases hx : splitS (rawJ a b c) = (a, b, c, 0)
  · have hj : joinS a b c = (rawJ a b c, 0) := by rw [joinS, if_pos hx]
    rw [hj] at C36 C37
    have C28 := upB w (ssplit_any (rawJ a b c))
    rw [hx] at C28
    exact sjoins_gen _ _ _ _ _ _ _ _ _ _ _ 0 0 g2 _ _ _ _ (bstr_size a) (bstr_size b) (bstr_size c) (bstr_size s) h w C36 C37 C28 C28s C36s (.inl ⟨rfl, rfl, rfl, rfl, rfl⟩) h2
  · have hj : joinS a b c = ([], 40) := by rw [joinS, if_neg hx]
    rw [hj] at C36 C37
    have C28 := upB w (ssplit_any [])
    exact sjoins_gen _ _ _ _ _ _ _ _ _ _ _ 40 _ g2 _ _ _ _ (bstr_size a) (bstr_size b) (bstr_size c) (bstr_size s) h w C36 C37 C28 C28s C36s (.inr rfl) h2
theorem sjoins_walk (a b c s : List UInt8) (ha : a.length ≤ 140737488355328) (hb : b.length ≤ 140737488355328) (hc : c.length ≤ 140737488355328) (hs : s.length ≤ 140737488355328) (w : World) : Calls Try.prog 8 #[.string (bstr a), .string (bstr b), .string (bstr c), .string (bstr s)] w fun e w' => e = .returned (.bool true) ∧ Below w.heap.size w w' := by
  by_cases h : 1500 < a.length + b.length + c.length + s.length
  · exact sjoins_big a b c s ha hb hc hs h w
  · exact sjoins_small a b c s (by omega) w
end Go.Proofs.Ytjiiignbejbiiaa
