/- The walk of RingOrder. No condition. -/
import Derived.Test.YtkebgcalphajhaaRaf
namespace Go.Proofs.Ytkebgcalphajhaa
open Go.RowKit Go.Lib
set_option maxRecDepth 100000
set_option maxHeartbeats 400000
/-- The address leads to the bools T. -/
def BoolsAt (w : World) (A : Option Addr) (T : List Bool) : Prop := T = [] ∨ ∃ b off, A = some ⟨b, off, none⟩ ∧ b < w.heap.size ∧ ∀ j, j < T.length → w.cell? ⟨b, off + j, none⟩ = some (.bool T[j]!)
/-- The numbers from o up to i. -/
def seqL (o i : Nat) : List Int := (List.range' o (i - o)).map fun n : Nat => (n : Int)
theorem seqL_length (o i : Nat) : (seqL o i).length = i - o := by simp [seqL]
theorem seqL_push {o i : Nat} (h : o ≤ i) : seqL o i ++ [(i : Int)] = seqL o (i + 1) := by
  unfold seqL
  rw [show i + 1 - o = (i - o) + 1 by omega, List.range'_concat, List.map_append, show o + 1 * (i - o) = i by omega]
  rfl
theorem seqL_pop {o i : Nat} (h : o < i) : seqL o i = (o : Int) :: seqL (o + 1) i := by
  unfold seqL
  rw [show i - o = (i - (o + 1)) + 1 by omega, List.range'_succ]
  rfl
theorem cut_cons (x : Int) (L : List Int) : cutL (x :: L) 0 = L ∧ cutV (x :: L) 0 = x ∧ cutB (x :: L) 0 = true := by
  have h : (0 : Int) ≤ 0 ∧ (0 : Int) < ((x :: L).length : Int) := by simp
  unfold cutL cutV cutB
  rw [if_pos h, if_pos h, decide_eq_true h]
  exact ⟨by simp [cutAt], by simp, rfl⟩
theorem cut_nil : cutL [] 0 = [] ∧ cutV [] 0 = 0 ∧ cutB [] 0 = false := by decide
theorem seqL_nil {o i : Nat} (h : i ≤ o) : seqL o i = [] := by unfold seqL; rw [show i - o = 0 by omega]; rfl
def OrdRel (w1 : World) (g most n : Nat) (ni no nk : Value) (wr : World) : Prop := ∃ k i o : Nat, ∃ v, nk = .int .i64 (k : Int) ∧ ni = .int .i64 (i : Int) ∧ no = .int .i64 (o : Int) ∧ k ≤ n ∧ i ≤ k ∧ o ≤ i ∧ i - o ≤ most ∧ Ring wr g most v (seqL o i) ∧ Mov w1 wr g (.slice none 0 0) v
theorem ringlives_at (w : World) : Hid (∀ W, Below w.heap.size w W → Calls Try.prog 21 #[] W fun e w' => e = .returned (.bool true) ∧ Below w.heap.size w w') := Lib.hid (fun W hW => (ring_lives W).mono (by
  rintro e w' ⟨rfl, hb⟩
  exact ⟨rfl, hW.trans (hb.mono hW.size)⟩))
theorem order_out (z : Int) (A : Option Addr) (n c : Nat) (w : World) (h : z < 1 ∨ 100 < z ∨ 200 < n) : Calls Try.prog 6 #[.int .i64 z, .slice A n c] w fun e w' => e = .returned (.bool true) ∧ Below w.heap.size w w' := by
  have HL := ringlives_at w
  by_cases h1 : z < 1
  · go_enter Try.func6, Try.ntmps6
    go_wp2_with (first | (go_at_call 21; (with_reducible refine (HL.out _ (Below.refl _ _)).mono ?_); rintro e w2 ⟨rfl, hb2⟩))
    go_ret
    exact ⟨rfl, hb2⟩
  · by_cases h2 : 100 < z
    · have h3 : z > 100 := h2
      go_enter Try.func6, Try.ntmps6
      go_wp2_with (first | (go_at_call 21; (with_reducible refine (HL.out _ (Below.refl _ _)).mono ?_); rintro e w2 ⟨rfl, hb2⟩))
      go_ret
      exact ⟨rfl, hb2⟩
    · have h3 : ¬ z > 100 := h2
      have h4 : (n : Int) > 200 := by omega
      go_enter Try.func6, Try.ntmps6
      go_wp2_with (first | (go_at_call 21; (with_reducible refine (HL.out _ (Below.refl _ _)).mono ?_); rintro e w2 ⟨rfl, hb2⟩))
      go_ret
      exact ⟨rfl, hb2⟩
theorem order_in (most : Nat) (A : Option Addr) (c : Nat) (T : List Bool) (w : World) (h0 : 0 < most) (hm : most ≤ 100) (hn : T.length ≤ 200) (hT : BoolsAt w A T) : Calls Try.prog 6 #[.int .i64 (most : Int), .slice A T.length c] w fun e w' => e = .returned (.bool true) ∧ Below w.heap.size w w' := by
  have HL := ringlives_at w
  have HN := Lib.hid (rnew_yes most h0 (by omega) w)
  obtain ⟨w1, hw1⟩ : ∃ w1, w1 = w.alloc (.cells #[.int .i64 (most : Int), .slice none 0 0] 93) := ⟨_, rfl⟩
  have hb1 : Below w.heap.size w w1 := by rw [hw1]; exact (Below.refl _ w).alloc (Nat.le_refl _) _
  have hr1 : Ring w1 w.heap.size most (.slice none 0 0) [] := by rw [hw1]; exact ring_new most w
  have hlt : w.heap.size < w1.heap.size := Obj.lt hr1
  have HB : Hid (∀ W v, Mov w1 W w.heap.size (.slice none 0 0) v → Below w.heap.size w W) := Lib.hid (fun W v h => hb1.trans (h.below (by omega) (Nat.le_refl _) (fun b h => by cases h)))
  have R0 : Hid (OrdRel w1 w.heap.size most T.length (.int .i64 0) (.int .i64 0) (.int .i64 0) w1) := Lib.hid ⟨0, 0, 0, .slice none 0 0, rfl, rfl, rfl, by omega, by omega, by omega, by omega, hr1, Mov.refl _ _ _⟩
  have HT := Lib.hid hT
  have HW1 := Lib.hid hw1
  have h2 : ¬ (most : Int) < 1 := by omega
  have h3 : ¬ (most : Int) > 100 := by omega
  have h4 : ¬ (T.length : Int) > 200 := by omega
  generalize hg : w.heap.size = g at *
  generalize hnn : T.length = n at *
  clear hb1 hr1 hlt hw1 hT
  go_enter Try.func6, Try.ntmps6
  go_wp2_with (first | (go_at_call 22; (with_reducible refine HN.out.mono ?_); rintro e w1 ⟨rfl, rfl⟩; rw [← HW1.out]))
  go_loopw [6, 7, 30] (OrdRel w1 g most n) (fun _ _ i _ => n - (RowKit.intOf i).toNat)
  case atStart => exact R0.out
  case round =>
    obtain ⟨k, i, o, v, rfl, rfl, rfl, hk, hi, ho, hio, hr, hmv⟩ := hrel
    clear R0 HN
    have HR := Lib.hid hr
    have HM := Lib.hid hmv
    have hbw := HB.out _ _ hmv
    have HBW := Lib.hid hbw
    by_cases hlt : k < n
    · have hlt' : (k : Int) < (n : Int) := by omega
      rcases HT.out with e0 | ⟨b, off, rfl, hb, hcl⟩
      · rw [e0] at hnn; simp at hnn; omega
      have q : wr.cell? ⟨b, off + k, none⟩ = some (.bool T[k]!) := (World.cell?_of_block (a := ⟨b, off + k, none⟩) (hbw.block b (by omega))).trans (hcl k (by omega))
      have hsl := seqL_length o i
      have HREL : Hid (∀ i2 o2 v2 wx, i2 ≤ k + 1 → o2 ≤ i2 → i2 - o2 ≤ most → Ring wx g most v2 (seqL o2 i2) → Mov w1 wx g (.slice none 0 0) v2 → OrdRel w1 g most n (.int .i64 (i2 : Int)) (.int .i64 (o2 : Int)) (.int .i64 ((k : Int) + 1)) wx) := Lib.hid (fun i2 o2 v2 wx a1 a2 a3 a4 a5 => ⟨k + 1, i2, o2, v2, by go_num, rfl, rfl, by omega, a1, a2, a3, a4, a5⟩)
      cases ht : T[k]!
      · rw [ht] at q
        by_cases hoi : o < i
        · have HP : Hid (Calls Try.prog 24 #[.pointer (some ⟨g, 0, none⟩)] wr (Cutted wr g most v (seqL (o + 1) i) (.tuple #[.int .i64 (o : Int), .bool true]))) := Lib.hid (by
            have := pop_any g most h0 v _ wr hr (by omega)
            rw [seqL_pop hoi, (cut_cons _ _).1, (cut_cons _ _).2.1, (cut_cons _ _).2.2] at this
            exact this)
          have hoi' : (o : Int) < (i : Int) := by omega
          clear hr hmv hbw hcl hsl ht hnn
          go_wp2_with (first
            | (go_at_call 24; (with_reducible refine HP.out.mono ?_); rintro e w2 ⟨v2, rfl, hr2, hm2⟩))
          go_roundw
          case rel => exact HREL.out i (o + 1) _ _ (by omega) (by omega) (by omega) hr2 (HM.out.trans hm2)
          case measure => simp [RowKit.intOf]; omega
        · have HP : Hid (Calls Try.prog 24 #[.pointer (some ⟨g, 0, none⟩)] wr (Cutted wr g most v (seqL o i) (.tuple #[.int .i64 0, .bool false]))) := Lib.hid (by
            have := pop_any g most h0 v _ wr hr (by omega)
            rw [seqL_nil (by omega : i ≤ o), cut_nil.1, cut_nil.2.1, cut_nil.2.2] at this
            rw [seqL_nil (by omega : i ≤ o)]
            exact this)
          have hoi' : ¬ (o : Int) < (i : Int) := by omega
          clear hr hmv hbw hcl hsl ht hnn
          go_wp2_with (first
            | (go_at_call 24; (with_reducible refine HP.out.mono ?_); rintro e w2 ⟨v2, rfl, hr2, hm2⟩))
          go_roundw
          case rel => exact HREL.out i o _ _ (by omega) ho hio hr2 (HM.out.trans hm2)
          case measure => simp [RowKit.intOf]; omega
      · rw [ht] at q
        by_cases hc : i - o < most
        · have HP : Hid (Calls Try.prog 25 #[.pointer (some ⟨g, 0, none⟩), .int .i64 (i : Int)] wr (Pushed wr g most v (seqL o (i + 1)) 0)) := Lib.hid (by
            have := push_more g most h0 (by omega) v _ (i : Int) wr (by omega) hr
            rw [seqL_push ho] at this
            exact this)
          clear hr hmv hbw hcl hsl ht hnn
          go_wp2_with (first
            | (go_at_call 25; (with_reducible refine HP.out.mono ?_); rintro e w2 ⟨v2, rfl, hr2, hm2⟩))
          go_roundw
          case rel => exact HREL.out (i + 1) o _ _ (by omega) (by omega) (by omega) hr2 (HM.out.trans hm2)
          case measure => simp [RowKit.intOf]; omega
        · have HP : Hid (Calls Try.prog 25 #[.pointer (some ⟨g, 0, none⟩), .int .i64 (i : Int)] wr (Pushed wr g most v (seqL o i) 31)) := Lib.hid (push_full g most h0 (by omega) v _ (i : Int) wr (by omega) hr)
          clear hr hmv hbw hcl hsl ht hnn
          go_wp2_with (first
            | (go_at_call 25; (with_reducible refine HP.out.mono ?_); rintro e w2 ⟨v2, rfl, hr2, hm2⟩))
          go_roundw
          case rel => exact HREL.out i o _ _ (by omega) ho hio hr2 (HM.out.trans hm2)
          case measure => simp [RowKit.intOf]; omega
    · obtain rfl : k = n := by omega
      have hlt' : ¬ (k : Int) < (k : Int) := by omega
      have HLN : Hid (Calls Try.prog 30 #[.pointer (some ⟨g, 0, none⟩)] wr fun e w' => e = .returned (.int .i64 ((i : Int) - (o : Int))) ∧ w' = wr) := Lib.hid (by
        have := rlen_any g most h0 v _ wr hr
        rw [seqL_length, show ((i - o : Nat) : Int) = (i : Int) - (o : Int) by omega] at this
        exact this)
      clear hr hmv hbw
      go_wp2_with (first
        | (go_at_call 30; (with_reducible refine HLN.out.mono ?_); rintro e w2 ⟨rfl, rfl⟩)
        | (go_at_call 21; (with_reducible refine (HL.out _ HBW.out).mono ?_); rintro e w3 ⟨rfl, hb3⟩))
      go_ret
      exact ⟨rfl, hb3⟩
theorem order_walk (z : Int) (A : Option Addr) (c : Nat) (T : List Bool) (w : World) (hT : BoolsAt w A T) : Calls Try.prog 6 #[.int .i64 z, .slice A T.length c] w fun e w' => e = .returned (.bool true) ∧ Below w.heap.size w w' := by
  by_cases h : z < 1 ∨ 100 < z ∨ 200 < T.length
  · exact order_out z A T.length c w h
  · obtain ⟨most, rfl⟩ : ∃ m : Nat, z = (m : Int) := ⟨z.toNat, by omega⟩
    exact order_in most A c T w (by omega) (by omega) (by omega) hT
end Go.Proofs.Ytkebgcalphajhaa
