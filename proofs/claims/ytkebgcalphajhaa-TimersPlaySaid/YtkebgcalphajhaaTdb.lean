/- The statements' own table: Set. Condition: a list of its own. -/
import Derived.Test.YtkebgcalphajhaaTda
import Derived.Deep.RegionHeld3
namespace Go.Proofs.Ytkebgcalphajhaa
open Go.RowKit Go.Lib
set_option maxRecDepth 100000
set_option maxHeartbeats 1000000
/-- What a step answers: the list, behind what was there. -/
def RStp (w : World) (u : Value) (L : List (Int × Nat)) (v : Value) (w' : World) : Prop := Below w.heap.size w w' ∧ RefAt w' v L ∧ FreshV w u v
theorem box35 (w : World) (k : Int) (a : Nat) : ∃ w1, w1 = w.alloc (.cells #[.int .i64 k, .int .u64 (a : Int)] 35) ∧ Below w.heap.size w w1 ∧ w1.heap.size = w.heap.size + 1 ∧ ∀ W, Below w1.heap.size w1 W → W.cell? ⟨w.heap.size, 0, none⟩ = some (.int .i64 k) ∧ W.cell? ⟨w.heap.size, 1, none⟩ = some (.int .u64 (a : Int)) := by
  refine ⟨_, rfl, (Below.refl _ w).alloc (Nat.le_refl _) _, by simp, fun W hW => ?_⟩
  have hlt : w.heap.size < (w.alloc (.cells #[.int .i64 k, .int .u64 (a : Int)] 35)).heap.size := by simp
  refine ⟨(hW.cell (p := ⟨w.heap.size, 0, none⟩) hlt).trans ?_, (hW.cell (p := ⟨w.heap.size, 1, none⟩) hlt).trans ?_⟩
  all_goals
    unfold World.cell?
    rw [heap_alloc_new]
    rfl
theorem plT_neg (L : List (Int × Nat)) (k : Int) : (plT L k < 0) ↔ hasT L k = false := by
  unfold plT
  split <;> simp_all
theorem rset_full (u : Value) (L : List (Int × Nat)) (most : Nat) (k : Int) (a : Nat) (w : World) (h : RefAt w u L) (hk : hasT L k = false) (hf : most ≤ L.length) : Calls Try.prog 10 #[u, .int .i64 (most : Int), .agg #[.int .i64 k, .int .u64 (a : Int)]] w fun e w' => ∃ v, e = .returned (.tuple #[v, .int .i64 31]) ∧ RStp w u L v w' := by
  obtain ⟨w1, hw1, hb1, hs1, hq⟩ := box35 w k a
  obtain ⟨q0, q1⟩ := hq w1 (Below.refl _ _)
  have h1 : RefAt w1 u L := RowAt.bel h hb1
  have HF := Lib.hid (find_any u L k w1 h1)
  have hlt : plT L k < 0 := (plT_neg L k).2 hk
  have HFIN : Hid (RStp w u L u w1) := Lib.hid ⟨hb1, h1, FreshV.refl _ _⟩
  obtain ⟨A, c, rfl, hn⟩ := RowAt.form h
  have hge : (L.length : Int) ≥ (most : Int) := by omega
  have HW1 := Lib.hid hw1
  generalize plT L k = z at *
  generalize L.length = n at *
  clear h h1 hw1 hb1 hs1 hq
  go_enter Try.func10, Try.ntmps10
  go_wp2_with (first
    | rw [← HW1.out]
    | (go_at_call 11; (with_reducible refine HF.out.mono ?_); rintro e w2 ⟨rfl, hw2⟩; rw [hw2]; clear hw2 w2))
  go_ret2
  exact ⟨_, rfl, HFIN.out⟩
theorem rset_more (u : Value) (L : List (Int × Nat)) (most : Nat) (k : Int) (a : Nat) (w : World) (h : RefAt w u L) (hl : L.length ≤ 100000) (hkf : ¬ (hasT L k = false ∧ most ≤ L.length)) : Calls Try.prog 10 #[u, .int .i64 (most : Int), .agg #[.int .i64 k, .int .u64 (a : Int)]] w fun e w' => ∃ v, e = .returned (.tuple #[v, .int .i64 0]) ∧ RStp w u (cutT L k ++ [(k, a)]) v w' := by
  obtain ⟨w1, hw1, hb1, hs1, hq⟩ := box35 w k a
  obtain ⟨q0, q1⟩ := hq w1 (Below.refl _ _)
  have h1 : RefAt w1 u L := RowAt.bel h hb1
  have HF := Lib.hid (find_any u L k w1 h1)
  obtain ⟨D, hD⟩ : ∃ D, D = w1.drew := ⟨_, rfl⟩
  have hDb : Below w1.heap.size w1 D := by rw [hD]; exact (Below.refl _ w1).drew
  have hDs : D.heap.size = w1.heap.size := by rw [hD]; rfl
  have hXb : Below w1.heap.size w1 (w1.alloc (.cells #[.int .i64 k, .int .u64 (a : Int)] 35)).drew := ((Below.refl _ w1).alloc (Nat.le_refl _) _).drew
  have HQ := Lib.hid hq
  have HC : Hid (∀ W, Below w1.heap.size w1 W → Calls Try.prog 12 #[u, .int .i64 k] W fun e w' => ∃ v, e = .returned v ∧ GroT W (cutT L k) v w' ∧ (w'.cell? ⟨w.heap.size, 0, none⟩ = some (.int .i64 k) ∧ w'.cell? ⟨w.heap.size, 1, none⟩ = some (.int .u64 (a : Int))) ∧ ∀ X, (w'.alloc X).cell? ⟨w.heap.size, 0, none⟩ = some (.int .i64 k) ∧ (w'.alloc X).cell? ⟨w.heap.size, 1, none⟩ = some (.int .u64 (a : Int))) := Lib.hid (fun W hW => (rcut_any u L k W (RowAt.bel h1 hW) hl).mono (by
    rintro e w' ⟨v, rfl, hg⟩
    have hb' := hW.trans (hg.1.mono hW.size)
    exact ⟨v, rfl, hg, hq _ hb', fun X => hq _ (hb'.alloc hb'.size X)⟩))
  have hM : (cutT L k).length ≤ L.length := List.length_filter_le _ _
  have HFIN : Hid (∀ B X w6 v5 v6, w1.heap.size ≤ B → Below w1.heap.size w1 X → FromB B v5 → X.grownBy w6 v5.ownBlock → FreshV X v5 v6 → RowAt w6 35 2 v6 ((cutT L k).length + 1) (flatT (cutT L k) ++ encT (k, a)) → RStp w u (cutT L k ++ [(k, a)]) v6 w6 ∧ w6.cell? ⟨w.heap.size, 0, none⟩ = some (.int .i64 k) ∧ w6.cell? ⟨w.heap.size, 1, none⟩ = some (.int .u64 (a : Int))) := Lib.hid (fun B X w6 v5 v6 hB hX h5 g f hr => by
    obtain ⟨r1, r2⟩ := FromB.grown (B := w1.heap.size) (fun b hb => Nat.le_trans hB (h5 b hb)) hX hX.size g f
    have e1 : flatT (cutT L k ++ [(k, a)]) = flatT (cutT L k) ++ encT (k, a) := by rw [flatT_append, flatT_cons]; simp [flatT]
    refine ⟨⟨hb1.trans (r1.mono hb1.size), ?_, fun b hb => .inr (Nat.le_trans hb1.size (r2 b hb))⟩, hq _ r1⟩
    unfold RefAt
    rw [e1, List.length_append]
    exact hr)
  have HL : Hid ((cutT L k).length + 1 ≤ 100000000) := Lib.hid (by omega)
  have oneX : ∀ u ∈ encT (k, a), u.oneCell' = true := fun u hu => by
    simp only [encT, List.mem_cons, List.not_mem_nil, or_false] at hu
    rcases hu with rfl | rfl <;> rfl
  have HS1 : Hid (∀ W : World, Src Try.prog 2 26 (.slice (some ⟨W.heap.size, 0, none⟩) 1 1) 1 (encT (k, a)) (W.alloc (.cells #[.int .i64 k, .int .u64 (a : Int)] 35))) := Lib.hid (fun W => src_new rowR W 1 _ rfl oneX 35 _ rfl)
  have HS2 : Hid (∀ w5 : World, Below (w1.alloc (.cells #[.int .i64 k, .int .u64 (a : Int)] 35)).drew.heap.size (w1.alloc (.cells #[.int .i64 k, .int .u64 (a : Int)] 35)).drew w5 → Src Try.prog 2 26 (.slice (some ⟨w1.heap.size, 0, none⟩) 1 1) 1 (encT (k, a)) w5) := Lib.hid (fun w5 hb => by
    have := row_new w1 35 2 1 (encT (k, a)) rfl (by simp only [maxLen]; omega) #[.int .i64 k, .int .u64 (a : Int)] rfl
    have h2 := RowAt.same (w' := (w1.alloc (.cells #[.int .i64 k, .int .u64 (a : Int)] 35)).drew) this (fun _ _ => rfl)
    exact (h2.bel hb).src rowR oneX)
  have HDB := Lib.hid hDb
  have HXB := Lib.hid hXb
  have HDS : Hid (w1.heap.size ≤ D.heap.size) := Lib.hid (by omega)
  have HXS : Hid (w1.heap.size ≤ (w1.alloc (.cells #[.int .i64 k, .int .u64 (a : Int)] 35)).drew.heap.size) := Lib.hid (by show w1.heap.size ≤ (w1.alloc (.cells #[.int .i64 k, .int .u64 (a : Int)] 35)).heap.size; simp)
  have HUP : Hid (∀ w5, Below D.heap.size D w5 → Below w1.heap.size w1 (w5.alloc (.cells #[.int .i64 k, .int .u64 (a : Int)] 35))) := Lib.hid (fun w5 h => (hDb.trans (h.mono (by omega))).alloc (by have := h.size; omega) _)
  have HUX : Hid (∀ w5, Below (w1.alloc (.cells #[.int .i64 k, .int .u64 (a : Int)] 35)).drew.heap.size (w1.alloc (.cells #[.int .i64 k, .int .u64 (a : Int)] 35)).drew w5 → Below w1.heap.size w1 w5) := Lib.hid (fun w5 h => hXb.trans (h.mono (by show w1.heap.size ≤ (w1.alloc (.cells #[.int .i64 k, .int .u64 (a : Int)] 35)).heap.size; simp)))
  have qD := hq _ hDb
  have qX := hq _ hXb
  have HW1 := Lib.hid hw1
  have hcase : ¬ plT L k < 0 ∨ (plT L k < 0 ∧ ¬ (L.length : Int) ≥ (most : Int)) := by
    by_cases hh : hasT L k = false
    · exact .inr ⟨(plT_neg L k).2 hh, fun x => hkf ⟨hh, by omega⟩⟩
    · exact .inl (fun x => hh ((plT_neg L k).1 x))
  obtain ⟨A, c, rfl, hn⟩ := RowAt.form h
  have HD := Lib.hid hD
  generalize plT L k = z at *
  generalize encT (k, a) = ys at *
  generalize hLL : cutT L k ++ [(k, a)] = LL at *
  generalize hCC : cutT L k = CC at *
  generalize L.length = n at *
  clear h h1 hw1 hb1 hs1 hq hM oneX hDb hDs hXb hkf hLL hCC hl hD
  rcases hcase with hz | ⟨hz, hz2⟩
  · go_enter Try.func10, Try.ntmps10
    go_upto_region 3 with (first
      | rw [← HW1.out]
      | (go_at_call 11; (with_reducible refine HF.out.mono ?_); rintro e w2 ⟨rfl, hw2⟩; rw [hw2]; clear hw2 w2))
    have hD := HD.out
    subst hD
    go_region_held3 (fun w' => w'.cell? ⟨w.heap.size, 0, none⟩ = some (.int .i64 k) ∧ w'.cell? ⟨w.heap.size, 1, none⟩ = some (.int .u64 (a : Int))) (first | assumption) (first
      | (go_at_call 12; (with_reducible refine (HC.out _ HDB.out).mono ?_); rintro e w5 ⟨v5, rfl, hg5, hq5, hx5⟩; have hq6 := hx5 (.cells #[.int .i64 k, .int .u64 (a : Int)] 35))
      | (go_at_call 12; (with_reducible refine (HC.out _ HXB.out).mono ?_); rintro e w5 ⟨v5, rfl, hg5, hq5, hx5⟩; have hq6 := hx5 (.cells #[.int .i64 k, .int .u64 (a : Int)] 35))
      | (refine step_append_row rowR (o := ⟨some 26, _, _, _, _, _⟩) rfl (.tmp 23) (.tmp 25) rfl _ CC.length (flatT CC) rfl (RowAt.bel hg5.2.1 ((Below.refl _ _).alloc (Nat.le_refl _) _)) _ 1 ys rfl (HS1.out _) HL.out ?_; intro v6 w6 hr6 hf6 hg6; have hfin := HFIN.out _ _ _ _ _ HDS.out (HUP.out _ hg5.1) hg5.2.2 hg6 hf6 hr6; have hq7 := hfin.2)
      | (refine step_append_row rowR (o := ⟨some 26, _, _, _, _, _⟩) rfl (.tmp 23) (.tmp 25) rfl _ CC.length (flatT CC) rfl hg5.2.1 _ 1 ys rfl (HS2.out _ hg5.1) HL.out ?_; intro v6 w6 hr6 hf6 hg6; have hfin := HFIN.out _ _ _ _ _ HXS.out (HUX.out _ hg5.1) hg5.2.2 hg6 hf6 hr6; have hq7 := hfin.2)
      | fail)
    all_goals
      have HFN := Lib.hid hfin.1
      clear hfin
      go_wp2
      go_ret2
      exact ⟨_, rfl, HFN.out⟩
  · go_enter Try.func10, Try.ntmps10
    go_upto_region 3 with (first
      | rw [← HW1.out]
      | (go_at_call 11; (with_reducible refine HF.out.mono ?_); rintro e w2 ⟨rfl, hw2⟩; rw [hw2]; clear hw2 w2))
    have hD := HD.out
    subst hD
    go_region_held3 (fun w' => w'.cell? ⟨w.heap.size, 0, none⟩ = some (.int .i64 k) ∧ w'.cell? ⟨w.heap.size, 1, none⟩ = some (.int .u64 (a : Int))) (first | assumption) (first
      | (go_at_call 12; (with_reducible refine (HC.out _ HDB.out).mono ?_); rintro e w5 ⟨v5, rfl, hg5, hq5, hx5⟩; have hq6 := hx5 (.cells #[.int .i64 k, .int .u64 (a : Int)] 35))
      | (go_at_call 12; (with_reducible refine (HC.out _ HXB.out).mono ?_); rintro e w5 ⟨v5, rfl, hg5, hq5, hx5⟩; have hq6 := hx5 (.cells #[.int .i64 k, .int .u64 (a : Int)] 35))
      | (refine step_append_row rowR (o := ⟨some 26, _, _, _, _, _⟩) rfl (.tmp 23) (.tmp 25) rfl _ CC.length (flatT CC) rfl (RowAt.bel hg5.2.1 ((Below.refl _ _).alloc (Nat.le_refl _) _)) _ 1 ys rfl (HS1.out _) HL.out ?_; intro v6 w6 hr6 hf6 hg6; have hfin := HFIN.out _ _ _ _ _ HDS.out (HUP.out _ hg5.1) hg5.2.2 hg6 hf6 hr6; have hq7 := hfin.2)
      | (refine step_append_row rowR (o := ⟨some 26, _, _, _, _, _⟩) rfl (.tmp 23) (.tmp 25) rfl _ CC.length (flatT CC) rfl hg5.2.1 _ 1 ys rfl (HS2.out _ hg5.1) HL.out ?_; intro v6 w6 hr6 hf6 hg6; have hfin := HFIN.out _ _ _ _ _ HXS.out (HUX.out _ hg5.1) hg5.2.2 hg6 hf6 hr6; have hq7 := hfin.2)
      | fail)
    all_goals
      have HFN := Lib.hid hfin.1
      clear hfin
      go_wp2
      go_ret2
      exact ⟨_, rfl, HFN.out⟩
end Go.Proofs.Ytkebgcalphajhaa
