/- At, Next, Cancel of the package timers. Conditions: a table that is made. INTONLY -/
import Derived.Test.YtkebgcalphajhaaTag
namespace Go.Proofs.Ytkebgcalphajhaa
open Go.RowKit Go.Lib
set_option maxRecDepth 100000
set_option maxHeartbeats 400000
/-- At. -/
theorem at_no (g most : Nat) (h0 : 0 < most) (v : Value) (L : List (Int × Nat)) (k : Int) (w : World) (h : Tab w g most v L) (hk : hasT L k = false) :
    Calls Try.prog 47 #[.pointer (some ⟨g, 0, none⟩), Value.int .i64 k] w fun e w' => e = .returned (.tuple #[.int .u64 0, .bool false]) ∧ Below w.heap.size w w' := by
  have HM := Lib.hid (tmade_yes g most h0 w (Obj.c0 h))
  have HP := place_any g most v L k w h
  rw [plT_no hk] at HP
  have HP := Lib.hid HP
  clear h
  go_enter Try.func47, Try.ntmps47
  go_wp2_with (first
    | (go_at_call 35; (with_reducible refine HM.out.mono ?_); rintro e w1 ⟨rfl, rfl⟩)
    | (go_at_call 36; (with_reducible refine HP.out.mono ?_); rintro e w2 ⟨rfl, hb2⟩))
  go_ret2
  exact ⟨rfl, hb2⟩
theorem at_mid (g most : Nat) (h0 : 0 < most) (v : Value) (P D : List (Int × Nat)) (k : Int) (a : Nat) (w : World) (h : Tab w g most v (P ++ (k, a) :: D)) (hk : hasT P k = false) :
    Calls Try.prog 47 #[.pointer (some ⟨g, 0, none⟩), Value.int .i64 k] w fun e w' => e = .returned (.tuple #[.int .u64 (a : Int), .bool true]) ∧ Below w.heap.size w w' := by
  have HM := Lib.hid (tmade_yes g most h0 w (Obj.c0 h))
  have HP := place_any g most v _ k w h
  rw [plT_mid hk] at HP
  have HP := Lib.hid HP
  have hlen := len_mid P D (k, a)
  obtain ⟨b, off, c, rfl, hn⟩ := (Obj.row h).filled (by omega)
  have q4 := fun W hb => (Obj.row (Obj.bel h (w' := W) hb)).cell _ _ (flatT_at _ P.length (by omega)).2
  have e1 : (P ++ (k, a) :: D)[P.length]! = (k, a) := by
    rw [getElem!_pos _ _ (by omega), List.getElem_append_right (Nat.le_refl _)]
    simp
  simp only [e1, ← Nat.add_assoc] at q4
  have HQ := Lib.hid q4
  have HQ1 := Lib.hid (fun W hb => Obj.c1 (Obj.bel h (w' := W) hb))
  have hlt : (P.length : Int) < ((P ++ (k, a) :: D).length : Int) := by omega
  have hlt2 : P.length < (P ++ (k, a) :: D).length := by omega
  clear h q4 e1 hlen
  generalize (P ++ (k, a) :: D).length = n at *
  generalize P.length = p at *
  have hne : ¬ (p : Int) = -1 := by omega
  go_enter Try.func47, Try.ntmps47
  go_wp2_with (first
    | (go_at_call 35; (with_reducible refine HM.out.mono ?_); rintro e w1 ⟨rfl, rfl⟩)
    | (go_at_call 36; (with_reducible refine HP.out.mono ?_); rintro e w2 ⟨rfl, hb2⟩; have q5 := HQ.out _ hb2; have q6 := HQ1.out _ hb2))
  go_ret2
  exact ⟨rfl, hb2⟩
/-- Next. -/
theorem next_nil (g most : Nat) (h0 : 0 < most) (v : Value) (w : World) (h : Tab w g most v []) : Calls Try.prog 19 #[.pointer (some ⟨g, 0, none⟩)] w fun e w' => e = .returned (.tuple #[.int .u64 0, .bool false]) ∧ w' = w := by
  have HL := Lib.hid (tlen_any g most h0 v [] w h)
  clear h
  go_enter Try.func19, Try.ntmps19
  go_wp2_with (first
    | (go_at_call 20; (with_reducible refine HL.out.mono ?_); rintro e w1 ⟨rfl, rfl⟩))
  go_ret2
  exact ⟨rfl, rfl⟩
theorem next_cons (g most : Nat) (h0 : 0 < most) (v : Value) (x : Int × Nat) (L : List (Int × Nat)) (w : World) (h : Tab w g most v (x :: L)) : Calls Try.prog 19 #[.pointer (some ⟨g, 0, none⟩)] w fun e w' => e = .returned (.tuple #[.int .u64 (x.2 : Int), .bool true]) ∧ w' = w := by
  have HL := Lib.hid (tlen_any g most h0 v _ w h)
  obtain ⟨b, off, c, rfl, hn⟩ := (Obj.row h).filled (by simp)
  have q4 := (Obj.row h).cell _ _ (flatT_at _ 0 (by simp)).2
  have q5 := Obj.c1 h
  simp only [Nat.zero_mul, Nat.zero_add] at q4
  have e1 : (x :: L)[0]! = x := rfl
  rw [e1] at q4
  have hne : ¬ ((x :: L).length : Int) = 0 := by rw [List.length_cons]; omega
  have hlt : (0 : Int) < ((x :: L).length : Int) := by rw [List.length_cons]; omega
  clear h e1
  generalize (x :: L).length = n at *
  go_enter Try.func19, Try.ntmps19
  go_wp2_with (first
    | (go_at_call 20; (with_reducible refine HL.out.mono ?_); rintro e w1 ⟨rfl, rfl⟩))
  go_ret2
  exact ⟨rfl, rfl⟩
/-- Cancel. -/
theorem cancel_any (g most : Nat) (h0 : 0 < most) (v : Value) (L : List (Int × Nat)) (k : Int) (w : World) (h : Tab w g most v L) (hu : UniT L) (hL : L.length ≤ 100000) :
    Calls Try.prog 13 #[.pointer (some ⟨g, 0, none⟩), Value.int .i64 k] w (Moved w g most v (cutT L k) (.bool (hasT L k))) := by
  have HM := Lib.hid (tmade_yes g most h0 w (Obj.c0 h))
  have HP := place_any g most v L k w h
  cases hk : hasT L k with
  | false =>
    rw [plT_no hk] at HP
    have HP := Lib.hid HP
    have H := Lib.hid h
    have HC := Lib.hid (cut_none hk)
    clear h
    go_enter Try.func13, Try.ntmps13
    go_wp2_with (first
      | (go_at_call 35; (with_reducible refine HM.out.mono ?_); rintro e w1 ⟨rfl, rfl⟩)
      | (go_at_call 36; (with_reducible refine HP.out.mono ?_); rintro e w2 ⟨rfl, hb2⟩))
    go_ret
    rw [HC.out]
    exact ⟨v, rfl, Obj.bel H.out hb2, Mov.of_below g v hb2⟩
  | true =>
    obtain ⟨P, a, D, rfl, hP⟩ := split_has hk
    rw [plT_mid hP] at HP
    have HP := Lib.hid HP
    have HC := Lib.hid (cut_split hu hP)
    have HR := Lib.hid (fun W hb => remove_any g most v P D (k, a) W (Obj.bel h (w' := W) hb) (by rw [len_mid] at hL; omega))
    have hne : ¬ (P.length : Int) = -1 := by omega
    clear h hL hu hk
    generalize P.length = p at *
    go_enter Try.func13, Try.ntmps13
    go_wp2_with (first
      | (go_at_call 35; (with_reducible refine HM.out.mono ?_); rintro e w1 ⟨rfl, rfl⟩)
      | (go_at_call 36; (with_reducible refine HP.out.mono ?_); rintro e w2 ⟨rfl, hb2⟩)
      | (go_at_call 37; (with_reducible refine (HR.out _ hb2).mono ?_); rintro e w3 ⟨v3, rfl, h3, hm3⟩))
    go_ret
    rw [HC.out]
    exact ⟨v3, rfl, h3, (Mov.of_below g v hb2).trans hm3⟩
end Go.Proofs.Ytkebgcalphajhaa
