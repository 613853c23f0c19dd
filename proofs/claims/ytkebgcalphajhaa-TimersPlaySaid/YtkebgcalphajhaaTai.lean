/- Set of the package timers, keys are ints. Conditions: a table that is made, in the order of its ticks. -/
import Derived.Test.YtkebgcalphajhaaTag
import Derived.Deep.RegionLaw
namespace Go.Proofs.Ytkebgcalphajhaa
open Go.RowKit Go.Lib
set_option maxRecDepth 100000
set_option maxHeartbeats 1000000
def setO (O : List (Int × Nat)) (most : Nat) (k : Int) (a : Nat) : List (Int × Nat) := if hasT O k = false ∧ O.length = most then O else insT (cutT O k) (k, a)
def setR (O : List (Int × Nat)) (most : Nat) (k : Int) : Int := if hasT O k = false ∧ O.length = most then 31 else 0
/-- What is known around the region that inserts. -/
structure InsK (w : World) (g most : Nat) (v : Value) (L : List (Int × Nat)) (k : Int) (a : Nat) : Prop where
  beh : ∀ W, Below w.heap.size w W → Calls Try.prog 39 #[.pointer (some ⟨g, 0, none⟩), .int .u64 (a : Int)] W fun e w' => e = .returned (.int .i64 (behT L a : Int)) ∧ Below w.heap.size w w' ∧ Below W.heap.size W w' ∧ w'.cell? ⟨g, 1, none⟩ = some v ∧ ∀ X, (w'.alloc X).cell? ⟨g, 1, none⟩ = some v
  ins : ∀ W bv, Below w.heap.size w W → w.heap.size ≤ bv → W.heap[bv]? = some (.cells #[Value.int .i64 k, .int .u64 (a : Int)] 82 (0, 0)) → Calls Try.prog 38 #[v, .int .i64 (behT L a : Int), .slice (some ⟨bv, 0, none⟩) 1 1] W fun e w' => ∃ A n c, e = .returned (.slice A n c) ∧ w'.cell? ⟨g, 1, none⟩ = some v ∧ w'.frozen? ⟨g, 1, none⟩ = false ∧ Tab (w'.setCell ⟨g, 1, none⟩ (.slice A n c)) g most (.slice A n c) (insT L (k, a)) ∧ Mov w (w'.setCell ⟨g, 1, none⟩ (.slice A n c)) g v (.slice A n c)
  q0 : w.cell? ⟨g, 1, none⟩ = some v
  r0 : ∀ X, (w.alloc X).cell? ⟨g, 1, none⟩ = some v
theorem insK (w : World) (g most : Nat) (v : Value) (L : List (Int × Nat)) (k : Int) (a : Nat) (h : Tab w g most v L) (hs : SrtT L) (hL : L.length ≤ 99999) : InsK w g most v L k a where
  beh := fun W hb => (behind_any g most v L a W (Obj.bel h hb) hs (by omega)).mono (by
    rintro e w' ⟨rfl, h1⟩
    exact ⟨rfl, hb.trans (h1.mono hb.size), h1, Obj.c1 (Obj.bel (Obj.bel h hb) h1), fun X => Obj.c1 (Obj.bel (Obj.bel (Obj.bel h hb) h1) ((Below.refl _ w').alloc (Nat.le_refl _) X))⟩)
  ins := fun W bv hb hbv hc => by
    have hW := Obj.bel h hb
    have e1 := insT_at hs (k, a)
    have hlt : (L.take (behT L a)).length = behT L a := by rw [List.length_take]; have := beh_le L a; omega
    have hll : (L.take (behT L a)).length + (L.drop (behT L a)).length = L.length := by rw [← List.length_append, List.take_append_drop]
    have := insert_any v bv (L.take (behT L a)) (L.drop (behT L a)) (k, a) W (by omega) (by rw [hll, List.take_append_drop]; exact Obj.row hW) hc (fun e => by have := (Obj.row h).lt _ e; omega)
    rw [hlt] at this
    refine this.mono ?_
    rintro e w' ⟨v', rfl, h1, h2, h3⟩
    obtain ⟨A, c, rfl, hc'⟩ := h1.form
    have hbk := h3.block g (Obj.lt hW) (fun e => h.ne e.symm)
    refine ⟨A, _, c, rfl, (World.cell?_of_block (a := ⟨g, 1, none⟩) hbk).trans (Obj.c1 hW), (World.frozen?_of_block (a := ⟨g, 1, none⟩) hbk).trans (Obj.fr hW 1), ?_, (Mov.of_below g v hb).trans (Mov.store h3 h2 _ _)⟩
    have hlen : (insT L (k, a)).length = behT L a + (L.drop (behT L a)).length + 1 := by rw [e1, len_mid, hlt]
    unfold Tab
    rw [hlen]
    rw [← e1] at h1
    exact Obj.store hW h3.size hbk h1 h2
  q0 := Obj.c1 h
  r0 := fun X => Obj.c1 (Obj.bel h ((Below.refl _ w).alloc (Nat.le_refl _) X))
theorem ins_try (g most : Nat) (h0 : 0 < most) (v : Value) (L : List (Int × Nat)) (k : Int) (a : Nat) (w : World) (h : Tab w g most v L) (hs : SrtT L) (hL : L.length < most) (hm : most ≤ 65536) (hk : hasT L k = false) :
    Calls Try.prog 9 #[.pointer (some ⟨g, 0, none⟩), Value.int .i64 k, .int .u64 (a : Int)] w (Moved w g most v (insT L (k, a)) (.int .i64 0)) := by
  have HM := Lib.hid (tmade_yes g most h0 w (Obj.c0 h))
  have HP := place_any g most v L k w h
  rw [plT_no hk] at HP
  have HP := Lib.hid HP
  have H := Lib.hid h
  have HKK := Lib.hid (fun W hb => insK W g most v L k a (Obj.bel h (w' := W) hb) hs (by omega))
  obtain ⟨A, c, rfl, hn⟩ := (Obj.row h).form
  have hl1 : ¬ (L.length : Int) = (most : Int) := by omega
  have hl2 : decide ((L.length : Int) = (most : Int)) = false := decide_eq_false hl1
  clear h hs hL hk
  generalize behT L a = p at *
  generalize L.length = n at *
  go_enter Try.func9, Try.ntmps9
  go_upto_region 4 with (first
    | (go_at_call 35; (with_reducible refine HM.out.mono ?_); rintro e w1 ⟨rfl, hw1⟩; rw [hw1]; clear hw1 w1)
    | (go_at_call 36; (with_reducible refine HP.out.mono ?_); rintro e w2 ⟨rfl, hb2⟩; have q1 := Obj.c1 (Obj.bel H.out hb2); have q0 := Obj.c0 (Obj.bel H.out hb2)))
  go_quiet (fail)
  go_upto_region 8 with (fail)
  obtain ⟨W, hW⟩ : ∃ W, W = w2.drewN nq := ⟨_, rfl⟩
  rw [← hW]
  have hbW : Below w.heap.size w W := by rw [hW]; exact hb2.trans ⟨rfl, rfl, rfl, Nat.le_refl _, fun _ _ => rfl⟩
  have HBW := Lib.hid hbW
  have HK := Lib.hid (HKK.out W hbW)
  have q9 := HK.out.q0
  have r9 := HK.out.r0 (.cells #[Value.int .i64 k, .int .u64 (a : Int)] 82)
  have hb0 : Below W.heap.size W W.drew := (Below.refl _ W).drew
  have HB0 := Lib.hid hb0
  have HB2 : Hid (Below W.heap.size W (W.alloc (.cells #[Value.int .i64 k, .int .u64 (a : Int)] 82)).drew) := Lib.hid (((Below.refl _ W).alloc (Nat.le_refl _) _).drew)
  clear hbW hb0 HKK HM HP H hW
  go_region_law (go_simp; first
    | ((with_reducible refine (HK.out.beh _ (by first | exact HB0.out | exact HB2.out)).mono ?_); rintro e w5 ⟨rfl, hb5, hk5, q5, r5⟩; have r5 := r5 (.cells #[Value.int .i64 k, .int .u64 (a : Int)] 82))
    | ((with_reducible refine Calls.mono (by first | exact HK.out.ins _ _ (hb5.alloc hb5.size _) hb5.size (heap_alloc_new _ _) | exact HK.out.ins _ _ hb5 (Nat.le_refl _) ((hk5.block _ (by simp)).trans (heap_alloc_new _ _))) ?_); rintro e w6 ⟨A6, n6, c6, rfl, q6, f6, hfin⟩))
  all_goals go_wp2
  all_goals go_ret
  all_goals exact ⟨_, rfl, hfin.1, (Mov.of_below g _ HBW.out).trans hfin.2⟩
theorem ins_full (g most : Nat) (h0 : 0 < most) (v : Value) (L : List (Int × Nat)) (k : Int) (a : Nat) (w : World) (h : Tab w g most v L) (hL : L.length = most) (hk : hasT L k = false) :
    Calls Try.prog 9 #[.pointer (some ⟨g, 0, none⟩), Value.int .i64 k, .int .u64 (a : Int)] w (Moved w g most v L (.int .i64 31)) := by
  have HM := Lib.hid (tmade_yes g most h0 w (Obj.c0 h))
  have HP := place_any g most v L k w h
  rw [plT_no hk] at HP
  have HP := Lib.hid HP
  have H := Lib.hid h
  obtain ⟨A, c, rfl, hn⟩ := (Obj.row h).form
  clear h hk
  generalize L.length = n at *
  subst hL
  have hl2 : decide ((n : Int) = (n : Int)) = true := decide_eq_true rfl
  go_enter Try.func9, Try.ntmps9
  go_upto_region 4 with (first
    | (go_at_call 35; (with_reducible refine HM.out.mono ?_); rintro e w1 ⟨rfl, hw1⟩; rw [hw1]; clear hw1 w1)
    | (go_at_call 36; (with_reducible refine HP.out.mono ?_); rintro e w2 ⟨rfl, hb2⟩; have q1 := Obj.c1 (Obj.bel H.out hb2); have q0 := Obj.c0 (Obj.bel H.out hb2)))
  go_quiet (fail)
  go_wp2
  go_ret
  have hbW : Below w.heap.size w (w2.drewN nq) := hb2.trans ⟨rfl, rfl, rfl, Nat.le_refl _, fun _ _ => rfl⟩
  exact ⟨_, rfl, Obj.bel H.out hbW, Mov.of_below g _ hbW⟩
theorem set_old (g most : Nat) (h0 : 0 < most) (v : Value) (P D : List (Int × Nat)) (k : Int) (a0 a : Nat) (w : World) (h : Tab w g most v (P ++ (k, a0) :: D)) (hs : SrtT (P ++ D)) (hL : P.length + D.length < most) (hm : most ≤ 65536) (hk : hasT P k = false) :
    Calls Try.prog 9 #[.pointer (some ⟨g, 0, none⟩), Value.int .i64 k, .int .u64 (a : Int)] w (Moved w g most v (insT (P ++ D) (k, a)) (.int .i64 0)) := by
  have HM := Lib.hid (tmade_yes g most h0 w (Obj.c0 h))
  have HP := place_any g most v _ k w h
  rw [plT_mid hk] at HP
  have HP := Lib.hid HP
  have HR := Lib.hid (fun W hb => remove_any g most v P D (k, a0) W (Obj.bel h (w' := W) hb) (by omega))
  have HKK := Lib.hid (fun W v' h' => insK W g most v' (P ++ D) k a h' hs (by rw [List.length_append]; omega))
  have hne : ¬ (P.length : Int) = -1 := by omega
  have hne2 : ((P.length : Int) == -1) = false := by rw [beq_eq_false_iff_ne]; exact hne
  clear h hs hL hk
  generalize P.length = p at *
  go_enter Try.func9, Try.ntmps9
  go_upto_region 4 with (first
    | (go_at_call 35; (with_reducible refine HM.out.mono ?_); rintro e w1 ⟨rfl, hw1⟩; rw [hw1]; clear hw1 w1)
    | (go_at_call 36; (with_reducible refine HP.out.mono ?_); rintro e w2 ⟨rfl, hb2⟩))
  go_quiet (fail)
  have hb3 : Below w.heap.size w (w2.drewN nq) := hb2.trans ⟨rfl, rfl, rfl, Nat.le_refl _, fun _ _ => rfl⟩
  have HB3 := Lib.hid hb3
  go_upto_region 8 with (first
    | (go_at_call 37; (with_reducible refine (HR.out _ HB3.out).mono ?_); rintro e W ⟨v3, rfl, h3, hm3⟩))
  have HMV := Lib.hid ((Mov.of_below g v HB3.out).trans hm3)
  have HK := Lib.hid (HKK.out W v3 h3)
  have q9 := HK.out.q0
  have r9 := HK.out.r0 (.cells #[Value.int .i64 k, .int .u64 (a : Int)] 82)
  have hb0 : Below W.heap.size W W.drew := (Below.refl _ W).drew
  have HB0 := Lib.hid hb0
  have HB2 : Hid (Below W.heap.size W (W.alloc (.cells #[Value.int .i64 k, .int .u64 (a : Int)] 82)).drew) := Lib.hid (((Below.refl _ W).alloc (Nat.le_refl _) _).drew)
  obtain ⟨A3, c3, rfl, _⟩ := (Obj.row h3).form
  clear hb0 HKK HM HP HR hm3 hb3 HB3 h3
  generalize P ++ D = L3 at *
  generalize L3.length = n3 at *
  go_region_law (go_simp; first
    | ((with_reducible refine (HK.out.beh _ (by first | exact HB0.out | exact HB2.out)).mono ?_); rintro e w5 ⟨rfl, hb5, hk5, q5, r5⟩; have r5 := r5 (.cells #[Value.int .i64 k, .int .u64 (a : Int)] 82))
    | ((with_reducible refine Calls.mono (by first | exact HK.out.ins _ _ (hb5.alloc hb5.size _) hb5.size (heap_alloc_new _ _) | exact HK.out.ins _ _ hb5 (Nat.le_refl _) ((hk5.block _ (by simp)).trans (heap_alloc_new _ _))) ?_); rintro e w6 ⟨A6, n6, c6, rfl, q6, f6, hfin⟩))
  all_goals go_wp2
  all_goals go_ret
  all_goals exact ⟨_, rfl, hfin.1, HMV.out.trans hfin.2⟩
theorem set_any (g most : Nat) (h0 : 0 < most) (hm : most ≤ 65536) (v : Value) (O : List (Int × Nat)) (k : Int) (a : Nat) (w : World) (h : Tab w g most v O) (hs : SrtT O) (hu : UniT O) (hL : O.length ≤ most) :
    Calls Try.prog 9 #[.pointer (some ⟨g, 0, none⟩), Value.int .i64 k, .int .u64 (a : Int)] w (Moved w g most v (setO O most k a) (.int .i64 (setR O most k))) := by
  unfold setO setR
  cases hk : hasT O k with
  | false =>
    by_cases hl : O.length = most
    · rw [if_pos ⟨rfl, hl⟩, if_pos ⟨rfl, hl⟩]
      exact ins_full g most h0 v O k a w h hl hk
    · rw [if_neg (fun x => hl x.2), if_neg (fun x => hl x.2), cut_none hk]
      exact ins_try g most h0 v O k a w h hs (by omega) hm hk
  | true =>
    rw [if_neg (fun x => by cases x.1), if_neg (fun x => by cases x.1)]
    obtain ⟨P, a0, D, rfl, hP⟩ := split_has hk
    have e := cut_split hu hP
    have hs2 : SrtT (cutT (P ++ (k, a0) :: D) k) := hs.filter _
    rw [e] at hs2 ⊢
    rw [len_mid] at hL
    exact set_old g most h0 v P D k a0 a w h hs2 (by omega) hm hP
end Go.Proofs.Ytkebgcalphajhaa
