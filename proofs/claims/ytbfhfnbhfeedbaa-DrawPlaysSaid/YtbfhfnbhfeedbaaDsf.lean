/- The example of layer 7 (lives). No condition. -/
import Derived.Test.YtbfhfnbhfeedbaaDse
namespace Go.Proofs.Ytbfhfnbhfeedbaa
set_option maxRecDepth 100000
set_option maxHeartbeats 1000000
open Go.RowKit Go.Lib Go.Great
theorem DMade.st {w : World} {h : Nat} {go : Option Nat} {xs : List UInt8} (m : DMade w h go xs) : DSt w (some ⟨h, 0, none⟩) go xs := .inr ⟨h, rfl, .inr m⟩
theorem ordG_length (k : Nat) (l : List Nat) (r : List UInt8) (h : l.length = k) : (ordG k l r).1.length = k := by rw [(ordG_perm k l r h).length_eq, h]
theorem ordOf_length (n : Int) (r : List UInt8) (h : 1 ≤ n ∧ n ≤ 1024) : (ordOf n r).1.length = n.toNat := by
  unfold ordOf; rw [if_pos h]
  exact ordG_length _ _ _ List.length_range
theorem num3 : numL 3 [1, 2, 7] = (1, [2, 7]) := numL_byte (n := 3) (c := 1) (by omega) (by omega) (by omega) [2, 7]
theorem num300 : numL 300 [2, 7] = (219, []) := by
  unfold numL
  rw [if_neg (by omega), show (300 : Int).toNat - 1 = 299 from rfl, numX_step (by omega), show 299 / 256 = 1 from rfl, numX_step (by omega), show 1 / 256 = 0 from rfl, numX_zero]
  rfl
theorem own_slice {w : World} {base e n : Nat} {v : Value} {cs : List Value} (h : w.ownsRow base e 1 v n cs) : ∃ A c, v = .slice A n c := by
  rcases h.2 with ⟨rfl, rfl⟩ | ⟨g, cap, cur, rfl, _⟩
  · exact ⟨_, _, rfl⟩
  · exact ⟨_, _, rfl⟩
theorem below_grown_made {w w1 w2 : World} {h : Nat} (hb : Below w.heap.size w w1) (hh : w.heap.size ≤ h) (hg : w1.grownBy w2 (some h)) : Below w.heap.size w w2 :=
  ⟨hg.os.trans hb.os, hg.tape.trans hb.tape, hg.output.trans hb.output, Nat.le_trans hb.size hg.size, fun k hk => (hg.block k (Nat.lt_of_lt_of_le hk hb.size) (by intro e; injection e with e; omega)).trans (hb.block k hk)⟩
theorem lives_any (w : World) : Calls Try.prog 10 #[] w fun e w' => e = .returned (.bool true) ∧ Below w.heap.size w w' := by
  obtain ⟨W0, hW0⟩ : ∃ W0, W0 = w.alloc (.cells #[.int .u8 1, .int .u8 2, .int .u8 7] 5) := ⟨_, rfl⟩
  have hb0 : Below w.heap.size w W0 := by rw [hW0]; exact (Below.refl _ w).alloc (Nat.le_refl _) _
  have hrow : W0.heap[w.heap.size]? = some (.cells #[.int .u8 1, .int .u8 2, .int .u8 7] 5 (0, 0)) := by rw [hW0]; exact heap_alloc_new w _
  have hA : BAt W0 W0.heap.size (some ⟨w.heap.size, 0, none⟩) [1, 2, 7] := .inr ⟨w.heap.size, 0, rfl, (Array.getElem?_eq_some_iff.1 hrow).1, fun j hj => by
    rw [Nat.zero_add, cell_of_row W0 _ j _ 5 (0, 0) hrow]
    match j, hj with
    | 0, _ => rfl
    | 1, _ => rfl
    | 2, _ => rfl⟩
  have HN := Lib.hid (nnew_any 3 hA (.inr ⟨_, _, rfl⟩) (by simp))
  have HW := Lib.hid hW0
  have HB0 := Lib.hid hb0
  clear hA hrow hb0 hW0
  simp only [List.length_cons, List.length_nil, Nat.zero_add, Nat.reduceAdd] at HN
  go_enter Try.func10, Try.ntmps10
  go_upto_region 2 with (go_at_call 11; rw [← HW.out]; (with_reducible refine HN.out.mono ?_); rintro e w1 ⟨h, go, rfl, hm, hh, hgo, hb1⟩)
  have hbb : Below w.heap.size w w1 := HB0.out.trans (hb1.mono HB0.out.size)
  have hh0 : w.heap.size ≤ h := Nat.le_trans HB0.out.size hh
  have C1 : Hid (Calls Try.prog 14 #[.pointer (some ⟨h, 0, none⟩), .int .i64 3] w1 fun e w2 => e = .returned (.int .i64 1) ∧ DSt w2 (some ⟨h, 0, none⟩) go [2, 7] ∧ Below w.heap.size w w2) := by
    refine Lib.hid ((nnum_any hm.st 3 (by omega)).mono ?_)
    rintro e w2 ⟨rfl, s2, g2⟩
    rw [num3] at s2 ⊢
    exact ⟨rfl, s2, below_grown_made hbb hh0 g2⟩
  have C2 : Hid (∀ w2, DSt w2 (some ⟨h, 0, none⟩) go [2, 7] → Below w.heap.size w w2 → Calls Try.prog 14 #[.pointer (some ⟨h, 0, none⟩), .int .i64 300] w2 fun e w3 => e = .returned (.int .i64 219) ∧ DSt w3 (some ⟨h, 0, none⟩) go [] ∧ Below w.heap.size w w3) := by
    refine Lib.hid (fun w2 s2 b2 => (nnum_any s2 300 (by omega)).mono ?_)
    rintro e w3 ⟨rfl, s3, g3⟩
    rw [num300] at s3 ⊢
    exact ⟨rfl, s3, below_grown_made b2 hh0 g3⟩
  have C3 : Hid (∀ w2, DSt w2 (some ⟨h, 0, none⟩) go [] → Below w.heap.size w w2 → Calls Try.prog 12 #[.pointer (some ⟨h, 0, none⟩)] w2 fun e w3 => e = .returned (.int .u8 0) ∧ DSt w3 (some ⟨h, 0, none⟩) go [] ∧ Below w.heap.size w w3) := by
    refine Lib.hid (fun w2 s2 b2 => (nbyte_any s2).mono ?_)
    rintro e w3 ⟨rfl, s3, g3⟩
    exact ⟨rfl, s3, below_grown_made b2 hh0 g3⟩
  have C4 : Hid (∀ w2, DSt w2 (some ⟨h, 0, none⟩) go [] → Below w.heap.size w w2 → Calls Try.prog 23 #[.pointer (some ⟨h, 0, none⟩)] w2 fun e w3 => e = .returned (.int .i64 0) ∧ DSt w3 (some ⟨h, 0, none⟩) go [] ∧ Below w.heap.size w w3) := by
    refine Lib.hid (fun w2 s2 b2 => (nleft_any s2).mono ?_)
    rintro e w3 ⟨rfl, n, rfl⟩
    exact ⟨rfl, s2, below_grown_made b2 hh0 (grownBy_drewN n _)⟩
  have C5 : Hid (∀ w2, DSt w2 (some ⟨h, 0, none⟩) go [] → Below w.heap.size w w2 → Calls Try.prog 25 #[.pointer (some ⟨h, 0, none⟩), .int .i64 3] w2 fun e w3 => (∃ A c, e = .returned (.slice A 3 c)) ∧ Below w.heap.size w w3) := by
    refine Lib.hid (fun w2 s2 b2 => (norder_any s2 3).mono ?_)
    rintro e w3 ⟨v, rfl, o3, s3, g3⟩
    obtain ⟨A, c, rfl⟩ := own_slice o3
    rw [ordOf_length 3 [] (by omega)]
    exact ⟨⟨A, c, rfl⟩, below_grown_made b2 hh0 g3⟩
  clear hm hbb hgo hb1 HN
  go_wp2_with (first
    | (go_at_call 14; (with_reducible refine C1.out.mono ?_); rintro e w2 ⟨rfl, s2, b2⟩)
    | (go_at_call 14; (with_reducible refine (C2.out _ s2 b2).mono ?_); rintro e w3 ⟨rfl, s3, b3⟩)
    | (go_at_call 12; (with_reducible refine (C3.out _ s3 b3).mono ?_); rintro e w4 ⟨rfl, s4, b4⟩)
    | (go_at_call 23; (with_reducible refine (C4.out _ s4 b4).mono ?_); rintro e w5 ⟨rfl, s5, b5⟩)
    | (go_at_call 25; (with_reducible refine (C5.out _ s5 b5).mono ?_); rintro e w6 ⟨⟨A6, c6, rfl⟩, b6⟩))
  go_ret
  exact ⟨rfl, b6⟩
end Go.Proofs.Ytbfhfnbhfeedbaa
