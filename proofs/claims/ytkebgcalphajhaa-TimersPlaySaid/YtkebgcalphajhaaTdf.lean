/- slices.Clone at timers; All and Clone of the package timers. Conditions: the table is made. -/
import Derived.Test.YtkebgcalphajhaaTde
namespace Go.Proofs.Ytkebgcalphajhaa
open Go.RowKit Go.Lib Go.Shelf
set_option maxRecDepth 100000
set_option maxHeartbeats 400000
theorem tclone45 (v : Value) (L : List (Int × Nat)) (w : World) (hl : L.length ≤ 70000) (h : RowAt w 82 2 v L.length (flatT L)) : Calls Try.prog 45 #[v] w fun e w' => ∃ v', e = .returned v' ∧ NewRow w 82 2 L.length (flatT L) w' v' := by
  have HE0 : Below w.heap.size w (w.alloc (.cells #[] 82)) := (Below.refl _ w).alloc (Nat.le_refl _) _
  have HR0 := Lib.hid (row_new w 82 2 0 [] rfl (by omega) #[] rfl)
  have HS := Lib.hid ((h.bel HE0).src rowTm (flatT_one L))
  have HB := Lib.hid HE0
  have HL : Hid (0 + L.length ≤ 100000000) := Lib.hid (by omega)
  rcases id h.2 with ⟨rfl, h0⟩ | ⟨g, off, cap, cur, rfl, _⟩
  · have H := Lib.hid h
    rw [h0] at *
    have he : (binOp .eql 75 (.slice none 0 0) (.slice none 0 0)).run Try.prog w = .ok (.bool true) w := by kernel_rfl
    clear h HS
    go_enter Try.func45, Try.ntmps45
    go_wp2
    go_ret
    exact ⟨_, rfl, H.out, Below.refl _ _, fun b hb => by cases hb⟩
  · have he : (binOp .eql 75 (.slice (some ⟨g, off, none⟩) L.length cap) (.slice none 0 0)).run Try.prog w = .ok (.bool false) w := by kernel_rfl
    clear h
    generalize hn : L.length = n at *
    go_enter Try.func45, Try.ntmps45
    go_wp2_with (first
      | ((with_reducible refine wpList_append_row rowTm (o := ⟨some 7, _, _, _, _, _⟩) rfl (.tmp 5) (.tmp 6) rfl _ 0 [] ?_ HR0.out _ n (flatT L) ?_ HS.out HL.out ?_); rfl; rfl; intro v3 w3 hr3 hf3 hg3; obtain ⟨A3, c3, rfl, hn3⟩ := hr3.form))
    go_ret
    rw [Nat.zero_add, List.nil_append] at hr3
    refine ⟨_, rfl, hr3, ?_, fun b hb => ?_⟩
    · exact HB.out.grown hg3 HB.out.size (fun k hk => by cases hk; exact Nat.le_refl _)
    · rcases hf3 b (by rw [Nat.zero_add]; exact hb) with h1 | h1
      · cases h1
        exact Nat.le_refl _
      · exact Nat.le_trans HB.out.size h1
/-- What All answers: the function over a box that holds a row of its own. -/
def TAllIs (w1 : World) (L : List (Int × Nat)) (e : Ending) (w' : World) : Prop := ∃ B v', e = .returned (.func (.func 66) #[] #[.pointer (some ⟨B, 0, none⟩)]) ∧ w1.heap.size ≤ B ∧ Boxed w' B 75 v' ∧ NewRow w1 82 2 L.length (flatT L) w' v'
theorem tall_any (g most : Nat) (h0 : 0 < most) (v : Value) (L : List (Int × Nat)) (w : World) (h : Tab w g most v L) (hl : L.length ≤ 70000) : Calls Try.prog 46 #[.pointer (some ⟨g, 0, none⟩)] w (TAllIs w L) := by
  have HM := Lib.hid (tmade_yes g most h0 w (Obj.c0 h))
  have HC := Lib.hid (tclone45 v L w hl h.row)
  have HT : Hid (∀ A n c W, Calls Try.prog 42 #[.slice A n c] W fun e w' => e = .returned (.func (.func 66) #[] #[.pointer (some ⟨W.heap.size, 0, none⟩)]) ∧ w' = W.alloc (.cells #[.slice A n c] 75)) := Lib.hid told_any
  have q1 := Obj.c1 h
  clear h hl
  go_enter Try.func46, Try.ntmps46
  go_wp2_with (first
    | (go_at_call 35; (with_reducible refine HM.out.mono ?_); rintro e w2 ⟨rfl, rfl⟩)
    | (go_at_call 45; (with_reducible refine HC.out.mono ?_); rintro e w3 ⟨v3, rfl, hr3, hb3, hf3⟩; obtain ⟨A3, c3, rfl, hn3⟩ := hr3.form)
    | (go_at_call 42; (with_reducible refine (HT.out _ _ _ _).mono ?_); rintro e w4 ⟨rfl, hw4⟩; rw [hw4]; clear hw4 w4))
  go_ret
  exact ⟨w3.heap.size, _, rfl, hb3.size, Boxed.new w3 75 _, hr3.bel ((Below.refl _ w3).alloc (Nat.le_refl _) _), hb3.alloc hb3.size _, hf3⟩
def TClnIs (w : World) (most : Nat) (L : List (Int × Nat)) (e : Ending) (w' : World) : Prop := ∃ g' v', e = .returned (.pointer (some ⟨g', 0, none⟩)) ∧ Tab w' g' most v' L ∧ Below w.heap.size w w' ∧ w.heap.size ≤ g' ∧ FromB w.heap.size v'
theorem tclone_any (g most : Nat) (h0 : 0 < most) (hm : most ≤ 65536) (v : Value) (L : List (Int × Nat)) (w : World) (h : Tab w g most v L) (hl : L.length ≤ 70000) : Calls Try.prog 17 #[.pointer (some ⟨g, 0, none⟩)] w (TClnIs w most L) := by
  have HM := Lib.hid (tmade_yes g most h0 w (Obj.c0 h))
  have HN := Lib.hid (tnew_yes most h0 hm w)
  have q0 := Obj.c0 h
  obtain ⟨w1, hw1⟩ : ∃ w1, w1 = w.alloc (.cells #[.int .i64 (most : Int), .slice none 0 0] 77) := ⟨_, rfl⟩
  have hb1 : Below w.heap.size w w1 := by rw [hw1]; exact (Below.refl _ w).alloc (Nat.le_refl _) _
  have hn1 : Tab w1 w.heap.size most (.slice none 0 0) [] := by rw [hw1]; exact tab_new most w
  have h1 := Obj.bel h hb1
  have q1 := Obj.c1 h1
  have HC := Lib.hid (tclone45 v L w1 hl h1.row)
  have HW1 := Lib.hid hw1
  have HF : Hid (∀ w3 v3, NewRow w1 82 2 L.length (flatT L) w3 v3 → w3.cell? ⟨w.heap.size, 1, none⟩ = some (.slice none 0 0) ∧ w3.frozen? ⟨w.heap.size, 1, none⟩ = false ∧ TClnIs w most L (.returned (.pointer (some ⟨w.heap.size, 0, none⟩))) (w3.setCell ⟨w.heap.size, 1, none⟩ v3)) := Lib.hid (fun w3 v3 hr => by
    obtain ⟨r1, r2, r3⟩ := hr
    have hbk := r2.block w.heap.size (Obj.lt hn1)
    refine ⟨(World.cell?_of_block (a := ⟨w.heap.size, 1, none⟩) hbk).trans (Obj.c1 hn1), (World.frozen?_of_block (a := ⟨w.heap.size, 1, none⟩) hbk).trans (Obj.fr hn1 1), w.heap.size, v3, rfl, ?_, (hb1.trans (r2.mono hb1.size)).setCell (Nat.le_refl _) _, Nat.le_refl _, fun b hb => Nat.le_trans hb1.size (r3 b hb)⟩
    exact Obj.store hn1 r2.size hbk r1 (fun b hb => .inr (r3 b hb)))
  clear hw1 hb1 h1 h hn1 hl
  go_enter Try.func17, Try.ntmps17
  go_wp2_with (first
    | (go_at_call 35; (with_reducible refine HM.out.mono ?_); rintro e w2 ⟨rfl, rfl⟩)
    | (go_at_call 8; (with_reducible refine HN.out.mono ?_); rintro e w2 ⟨rfl, hw2⟩; rw [hw2, ← HW1.out]; clear hw2)
    | (go_at_call 45; (with_reducible refine HC.out.mono ?_); rintro e w3 ⟨v3, rfl, hr3⟩; obtain ⟨A3, c3, rfl, hn3⟩ := hr3.1.form; obtain ⟨q3, f3, hfin⟩ := HF.out _ _ hr3))
  go_ret
  exact hfin
end Go.Proofs.Ytkebgcalphajhaa
