/- step of the statements on the package ring: what is filled. Condition: lists of its own. -/
import Derived.Test.YtkebgcalphajhaaRam
namespace Go.Proofs.Ytkebgcalphajhaa
open Go.RowKit Go.Lib Go.Shelf
set_option maxRecDepth 100000
set_option maxHeartbeats 1000000
/-- A list inside an op. -/
def OpL (w : World) (A : Option Addr) (c : Nat) (K : List Int) : Prop := (c = 0 ∧ K = []) ∨ (0 < c ∧ ∃ b off, A = some ⟨b, off, none⟩ ∧ K.length ≤ c ∧ b < w.heap.size ∧ ∀ j, j < K.length → w.cell? ⟨b, off + j, none⟩ = some (.int .i64 K[j]!))
theorem OpL.below {w w' : World} {A : Option Addr} {c : Nat} {K : List Int} (h : OpL w A c K) (hb : Below w.heap.size w w') : OpL w' A c K := by
  rcases h with h | ⟨h0, b, off, e, hl, hb', hc⟩
  · exact .inl h
  · exact .inr ⟨h0, b, off, e, hl, Nat.lt_of_lt_of_le hb' hb.size, fun j hj => (hb.cell (p := ⟨b, off + j, none⟩) hb').trans (hc j hj)⟩
theorem OpL.len {w : World} {A : Option Addr} {c : Nat} {K : List Int} (h : OpL w A c K) : K.length ≤ c := by
  rcases h with ⟨rfl, rfl⟩ | ⟨_, _, _, _, h, _⟩
  · simp
  · exact h
theorem src_zero (w : World) (A : Option Addr) : Src Try.prog 1 39 (.slice A 0 0) 0 [] w := by
  cases A with
  | none => exact Src.ofNil w rowInt.und 0
  | some ad => exact src_none w ad 0
theorem src_cells (w : World) (b off m c : Nat) (K : List Int) (hm : m ≤ K.length) (hc : ∀ j, j < K.length → w.cell? ⟨b, off + j, none⟩ = some (.int .i64 K[j]!)) : Src Try.prog 1 39 (.slice (some ⟨b, off, none⟩) m c) m (intsV (K.take m)) w := by
  refine Src.ofSlice w rowInt.und _ m c _ (by rw [intsV_length, List.length_take]; omega) (fun j u hu => ?_) (intsV_one _)
  have hlt := (List.getElem?_eq_some_iff.1 hu).1
  rw [intsV_length, List.length_take] at hlt
  rw [Addr.add_lit, hc j (by omega)]
  have := intsV_get K j (by omega)
  unfold intsV at hu this
  rw [List.map_take, List.getElem?_take, if_pos (by omega), this] at hu
  exact hu
theorem step_fillA0 (N : Int) (A : Option Addr) (c : Nat) (L K : List Int) (OA : Option Addr) (oc : Nat) (most : Nat) (w : World) (h : RowAt w 3 1 (.slice A L.length c) L.length (intsV L)) (hl : L.length ≤ most) (hm : most ≤ 65536) (hK : OpL w OA oc K) (hKl : K.length ≤ 65536)
    (hmo : K.length < most - L.length) (hoc : oc = 0) : Calls Try.prog 26 #[.agg #[.int .i64 3, .int .i64 N, .slice OA K.length oc], .slice A L.length c, .int .i64 (most : Int)] w (StpIs w (.slice A L.length c) (fillL most L K) (fillN most L K : Int) true) := by
  obtain ⟨w1, hw1, hb1, q0, q1, q2, hs1⟩ := box57 w 3 N (.slice OA K.length oc)
  have h1 := h.bel hb1
  have hK1 := hK.below hb1
  have bA : Below w1.heap.size w1 (w1.drew.alloc (.cells #[] 3)) := (Below.refl _ w1).drew.alloc (by simp) _
  have HE1 := Lib.hid (row_empty w1.drew)
  have HS1 : Hid (Src Try.prog 1 39 (.slice A L.length c) L.length (intsV L) (w1.drew.alloc (.cells #[] 3))) := Lib.hid ((h1.bel bA).src rowInt (intsV_one L))
  have HP1 : Hid (∀ w5 v5, (w1.drew.alloc (.cells #[] 3)).grownBy w5 (some w1.heap.size) → FreshV (w1.drew.alloc (.cells #[] 3)) (.slice (some ⟨w1.heap.size, 0, none⟩) 0 0) v5 → Below w1.heap.size w1 w5 ∧ FromB w1.heap.size v5) := Lib.hid (fun w5 v5 g f => FromB.grown (v := .slice (some ⟨w1.heap.size, 0, none⟩) 0 0) (fromB_new _ _ _) bA (by simp) g f)
  have hfl : fillN most L K ≤ K.length := by unfold fillN; omega
  have HFIN : Hid (∀ X w6 v5 v6, Below w1.heap.size w1 X → FromB w1.heap.size v5 → X.grownBy w6 v5.ownBlock → FreshV X v5 v6 → RowAt w6 3 1 v6 (0 + L.length + fillN most L K) ([] ++ intsV L ++ intsV (K.take (fillN most L K))) → StpIs w (.slice A L.length c) (fillL most L K) (fillN most L K : Int) true (.returned (.tuple #[v6, .int .i64 (fillN most L K : Int), .bool true])) w6) := Lib.hid (fun X w6 v5 v6 hX h5 g f hr => by
    obtain ⟨r1, r2⟩ := h5.grown hX hX.size g f
    have e1 : intsV (fillL most L K) = intsV L ++ intsV (K.take (fillN most L K)) := by simp [intsV, fillL]
    have e2 : (fillL most L K).length = L.length + fillN most L K := by unfold fillL; rw [List.length_append, List.length_take]; omega
    rw [List.nil_append, Nat.zero_add] at hr
    refine ⟨v6, rfl, ?_, hb1.trans (r1.mono hb1.size), fun k hk => .inr (Nat.le_trans hb1.size (r2 k hk))⟩
    rw [e1, e2]
    exact hr)
  have HQ : Hid (∀ W, Below w1.heap.size w1 W → W.cell? ⟨w.heap.size, 2, none⟩ = some (.slice OA K.length oc)) := Lib.hid (fun W hW => (hW.cell (p := ⟨w.heap.size, 2, none⟩) (by rw [hs1]; exact Nat.lt_succ_self _)).trans q2)
  have HQF : Hid (∀ X w6 v5 v6, Below w1.heap.size w1 X → FromB w1.heap.size v5 → X.grownBy w6 v5.ownBlock → FreshV X v5 v6 → w6.cell? ⟨w.heap.size, 2, none⟩ = some (.slice OA K.length oc)) := Lib.hid (fun X w6 v5 v6 hX h5 g f => HQ.out _ (h5.grown hX hX.size g f).1)
  have HL1 : Hid (0 + L.length ≤ 100000000) := Lib.hid (by omega)
  have HL2 : Hid (0 + L.length + fillN most L K ≤ 100000000) := Lib.hid (by omega)
  have HW1 := Lib.hid hw1
  have qA := HQ.out _ bA
  have hmin : min ((most : Int) - (L.length : Int)) (K.length : Int) = (fillN most L K : Int) := by unfold fillN; omega
  have d0 : (0 : Int) ≤ (most : Int) - (L.length : Int) := by omega
  have HKL : Hid (K.length ≤ oc) := Lib.hid hK.len
  clear hw1 hb1 h hs1 hK bA h1
  clear hmin d0
  rcases hK1 with ⟨rfl, rfl⟩ | ⟨h, _⟩
  rotate_left
  · omega
  have hz : fillN most L [] = 0 := by unfold fillN; simp
  have HS2 : Hid (∀ w5 : World, Src Try.prog 1 39 (.slice OA 0 0) 0 (intsV (([] : List Int).take 0)) w5) := Lib.hid (fun w5 => src_zero w5 OA)
  simp only [hz] at HL2 HFIN HS2 ⊢
  have d1 : L.length < most := by simp at hmo; omega
  generalize intsV (([] : List Int).take 0) = ys at *
  generalize fillL _ L [] = LL at *
  generalize intsV L = xs at *
  generalize L.length = n at *
  simp only [List.length_nil, show ((0 : Nat) : Int) = 0 from rfl] at *
  clear hz hfl hKl hmo hoc HKL
  go_enter Try.func26, Try.ntmps26
  go_upto_region 11 with (rw [← HW1.out])
  go_region_held3 (fun w' => w'.cell? ⟨w.heap.size, 2, none⟩ = some (.slice OA 0 0)) (first | assumption | exact q2) (first
    | (refine step_append_row rowInt (o := ⟨some 43, _, _, _, _, _⟩) rfl (.tmp 41) (.tmp 42) rfl _ 0 [] rfl HE1.out _ n xs rfl HS1.out HL1.out ?_; intro v5 w5 hr5 hf5 hg5; have hp := HP1.out _ _ hg5 hf5; have hq5 := HQ.out _ hp.1)
    | (refine step_append_row rowInt (o := ⟨some 48, _, _, _, _, _⟩) rfl (.tmp 43) (.tmp 47) rfl _ (0 + n) ([] ++ xs) rfl hr5 _ 0 ys rfl (HS2.out w5) HL2.out ?_; intro v6 w6 hr6 hf6 hg6; have hfin := HFIN.out _ _ _ _ hp.1 hp.2 hg6 hf6 hr6; have hq7 := HQF.out _ _ _ _ hp.1 hp.2 hg6 hf6))
  have HF := Lib.hid hfin
  clear hfin
  go_wp2
  go_ret3
  exact HF.out
theorem step_fillA1 (N : Int) (A : Option Addr) (c : Nat) (L K : List Int) (OA : Option Addr) (oc : Nat) (most : Nat) (w : World) (h : RowAt w 3 1 (.slice A L.length c) L.length (intsV L)) (hl : L.length ≤ most) (hm : most ≤ 65536) (hK : OpL w OA oc K) (hKl : K.length ≤ 65536)
    (hmo : K.length < most - L.length) (hoc : 0 < oc) : Calls Try.prog 26 #[.agg #[.int .i64 3, .int .i64 N, .slice OA K.length oc], .slice A L.length c, .int .i64 (most : Int)] w (StpIs w (.slice A L.length c) (fillL most L K) (fillN most L K : Int) true) := by
  obtain ⟨w1, hw1, hb1, q0, q1, q2, hs1⟩ := box57 w 3 N (.slice OA K.length oc)
  have h1 := h.bel hb1
  have hK1 := hK.below hb1
  have bA : Below w1.heap.size w1 (w1.drew.alloc (.cells #[] 3)) := (Below.refl _ w1).drew.alloc (by simp) _
  have HE1 := Lib.hid (row_empty w1.drew)
  have HS1 : Hid (Src Try.prog 1 39 (.slice A L.length c) L.length (intsV L) (w1.drew.alloc (.cells #[] 3))) := Lib.hid ((h1.bel bA).src rowInt (intsV_one L))
  have HP1 : Hid (∀ w5 v5, (w1.drew.alloc (.cells #[] 3)).grownBy w5 (some w1.heap.size) → FreshV (w1.drew.alloc (.cells #[] 3)) (.slice (some ⟨w1.heap.size, 0, none⟩) 0 0) v5 → Below w1.heap.size w1 w5 ∧ FromB w1.heap.size v5) := Lib.hid (fun w5 v5 g f => FromB.grown (v := .slice (some ⟨w1.heap.size, 0, none⟩) 0 0) (fromB_new _ _ _) bA (by simp) g f)
  have hfl : fillN most L K ≤ K.length := by unfold fillN; omega
  have HFIN : Hid (∀ X w6 v5 v6, Below w1.heap.size w1 X → FromB w1.heap.size v5 → X.grownBy w6 v5.ownBlock → FreshV X v5 v6 → RowAt w6 3 1 v6 (0 + L.length + fillN most L K) ([] ++ intsV L ++ intsV (K.take (fillN most L K))) → StpIs w (.slice A L.length c) (fillL most L K) (fillN most L K : Int) true (.returned (.tuple #[v6, .int .i64 (fillN most L K : Int), .bool true])) w6) := Lib.hid (fun X w6 v5 v6 hX h5 g f hr => by
    obtain ⟨r1, r2⟩ := h5.grown hX hX.size g f
    have e1 : intsV (fillL most L K) = intsV L ++ intsV (K.take (fillN most L K)) := by simp [intsV, fillL]
    have e2 : (fillL most L K).length = L.length + fillN most L K := by unfold fillL; rw [List.length_append, List.length_take]; omega
    rw [List.nil_append, Nat.zero_add] at hr
    refine ⟨v6, rfl, ?_, hb1.trans (r1.mono hb1.size), fun k hk => .inr (Nat.le_trans hb1.size (r2 k hk))⟩
    rw [e1, e2]
    exact hr)
  have HQ : Hid (∀ W, Below w1.heap.size w1 W → W.cell? ⟨w.heap.size, 2, none⟩ = some (.slice OA K.length oc)) := Lib.hid (fun W hW => (hW.cell (p := ⟨w.heap.size, 2, none⟩) (by rw [hs1]; exact Nat.lt_succ_self _)).trans q2)
  have HQF : Hid (∀ X w6 v5 v6, Below w1.heap.size w1 X → FromB w1.heap.size v5 → X.grownBy w6 v5.ownBlock → FreshV X v5 v6 → w6.cell? ⟨w.heap.size, 2, none⟩ = some (.slice OA K.length oc)) := Lib.hid (fun X w6 v5 v6 hX h5 g f => HQ.out _ (h5.grown hX hX.size g f).1)
  have HL1 : Hid (0 + L.length ≤ 100000000) := Lib.hid (by omega)
  have HL2 : Hid (0 + L.length + fillN most L K ≤ 100000000) := Lib.hid (by omega)
  have HW1 := Lib.hid hw1
  have qA := HQ.out _ bA
  have hmin : min ((most : Int) - (L.length : Int)) (K.length : Int) = (fillN most L K : Int) := by unfold fillN; omega
  have d0 : (0 : Int) ≤ (most : Int) - (L.length : Int) := by omega
  have HKL : Hid (K.length ≤ oc) := Lib.hid hK.len
  clear hw1 hb1 h hs1 hK bA h1
  clear hmin d0
  rcases hK1 with ⟨h, _⟩ | ⟨_, b, off, rfl, hkc, hb, hcl⟩
  · omega
  have hz : fillN most L K = K.length := by unfold fillN; omega
  have d1 : (K.length : Int) < (most : Int) - (L.length : Int) := by omega
  have d2 : (K.length : Int) ≤ (oc : Int) := by omega
  have HS2 : Hid (∀ w5 : World, Below w1.heap.size w1 w5 → Src Try.prog 1 39 (.slice (some ⟨b, off, none⟩) (fillN most L K) oc) (fillN most L K) (intsV (K.take (fillN most L K))) w5) := Lib.hid (fun w5 h5 => src_cells w5 b off _ oc K hfl (fun j hj => (h5.cell (p := ⟨b, off + j, none⟩) hb).trans (hcl j hj)))
  generalize intsV (K.take (fillN most L K)) = ys at *
  generalize fillL most L K = LL at *
  simp only [hz] at HL2 HFIN HS2 ⊢
  generalize intsV L = xs at *
  generalize K.length = m at *
  generalize L.length = n at *
  clear hz hfl hKl hmo hoc HKL hcl hb
  go_enter Try.func26, Try.ntmps26
  go_upto_region 11 with (rw [← HW1.out])
  go_region_held3 (fun w' => w'.cell? ⟨w.heap.size, 2, none⟩ = some (.slice (some ⟨b, off, none⟩) m oc)) (first | assumption | exact q2) (first
    | (refine step_append_row rowInt (o := ⟨some 43, _, _, _, _, _⟩) rfl (.tmp 41) (.tmp 42) rfl _ 0 [] rfl HE1.out _ n xs rfl HS1.out HL1.out ?_; intro v5 w5 hr5 hf5 hg5; have hp := HP1.out _ _ hg5 hf5; have hq5 := HQ.out _ hp.1)
    | (refine step_append_row rowInt (o := ⟨some 48, _, _, _, _, _⟩) rfl (.tmp 43) (.tmp 47) rfl _ (0 + n) ([] ++ xs) rfl hr5 _ m ys rfl (HS2.out _ hp.1) HL2.out ?_; intro v6 w6 hr6 hf6 hg6; have hfin := HFIN.out _ _ _ _ hp.1 hp.2 hg6 hf6 hr6; have hq7 := HQF.out _ _ _ _ hp.1 hp.2 hg6 hf6))
  have HF := Lib.hid hfin
  clear hfin
  go_wp2
  go_ret3
  exact HF.out
theorem step_fillB0 (N : Int) (A : Option Addr) (c : Nat) (L K : List Int) (OA : Option Addr) (oc : Nat) (most : Nat) (w : World) (h : RowAt w 3 1 (.slice A L.length c) L.length (intsV L)) (hl : L.length ≤ most) (hm : most ≤ 65536) (hK : OpL w OA oc K) (hKl : K.length ≤ 65536)
    (hmo : ¬ K.length < most - L.length) (hoc : oc = 0) : Calls Try.prog 26 #[.agg #[.int .i64 3, .int .i64 N, .slice OA K.length oc], .slice A L.length c, .int .i64 (most : Int)] w (StpIs w (.slice A L.length c) (fillL most L K) (fillN most L K : Int) true) := by
  obtain ⟨w1, hw1, hb1, q0, q1, q2, hs1⟩ := box57 w 3 N (.slice OA K.length oc)
  have h1 := h.bel hb1
  have hK1 := hK.below hb1
  have bA : Below w1.heap.size w1 (w1.drew.alloc (.cells #[] 3)) := (Below.refl _ w1).drew.alloc (by simp) _
  have HE1 := Lib.hid (row_empty w1.drew)
  have HS1 : Hid (Src Try.prog 1 39 (.slice A L.length c) L.length (intsV L) (w1.drew.alloc (.cells #[] 3))) := Lib.hid ((h1.bel bA).src rowInt (intsV_one L))
  have HP1 : Hid (∀ w5 v5, (w1.drew.alloc (.cells #[] 3)).grownBy w5 (some w1.heap.size) → FreshV (w1.drew.alloc (.cells #[] 3)) (.slice (some ⟨w1.heap.size, 0, none⟩) 0 0) v5 → Below w1.heap.size w1 w5 ∧ FromB w1.heap.size v5) := Lib.hid (fun w5 v5 g f => FromB.grown (v := .slice (some ⟨w1.heap.size, 0, none⟩) 0 0) (fromB_new _ _ _) bA (by simp) g f)
  have hfl : fillN most L K ≤ K.length := by unfold fillN; omega
  have HFIN : Hid (∀ X w6 v5 v6, Below w1.heap.size w1 X → FromB w1.heap.size v5 → X.grownBy w6 v5.ownBlock → FreshV X v5 v6 → RowAt w6 3 1 v6 (0 + L.length + fillN most L K) ([] ++ intsV L ++ intsV (K.take (fillN most L K))) → StpIs w (.slice A L.length c) (fillL most L K) (fillN most L K : Int) true (.returned (.tuple #[v6, .int .i64 (fillN most L K : Int), .bool true])) w6) := Lib.hid (fun X w6 v5 v6 hX h5 g f hr => by
    obtain ⟨r1, r2⟩ := h5.grown hX hX.size g f
    have e1 : intsV (fillL most L K) = intsV L ++ intsV (K.take (fillN most L K)) := by simp [intsV, fillL]
    have e2 : (fillL most L K).length = L.length + fillN most L K := by unfold fillL; rw [List.length_append, List.length_take]; omega
    rw [List.nil_append, Nat.zero_add] at hr
    refine ⟨v6, rfl, ?_, hb1.trans (r1.mono hb1.size), fun k hk => .inr (Nat.le_trans hb1.size (r2 k hk))⟩
    rw [e1, e2]
    exact hr)
  have HQ : Hid (∀ W, Below w1.heap.size w1 W → W.cell? ⟨w.heap.size, 2, none⟩ = some (.slice OA K.length oc)) := Lib.hid (fun W hW => (hW.cell (p := ⟨w.heap.size, 2, none⟩) (by rw [hs1]; exact Nat.lt_succ_self _)).trans q2)
  have HQF : Hid (∀ X w6 v5 v6, Below w1.heap.size w1 X → FromB w1.heap.size v5 → X.grownBy w6 v5.ownBlock → FreshV X v5 v6 → w6.cell? ⟨w.heap.size, 2, none⟩ = some (.slice OA K.length oc)) := Lib.hid (fun X w6 v5 v6 hX h5 g f => HQ.out _ (h5.grown hX hX.size g f).1)
  have HL1 : Hid (0 + L.length ≤ 100000000) := Lib.hid (by omega)
  have HL2 : Hid (0 + L.length + fillN most L K ≤ 100000000) := Lib.hid (by omega)
  have HW1 := Lib.hid hw1
  have qA := HQ.out _ bA
  have hmin : min ((most : Int) - (L.length : Int)) (K.length : Int) = (fillN most L K : Int) := by unfold fillN; omega
  have d0 : (0 : Int) ≤ (most : Int) - (L.length : Int) := by omega
  have HKL : Hid (K.length ≤ oc) := Lib.hid hK.len
  clear hw1 hb1 h hs1 hK bA h1
  clear hmin d0
  rcases hK1 with ⟨rfl, rfl⟩ | ⟨h, _⟩
  rotate_left
  · omega
  have hz : fillN most L [] = 0 := by unfold fillN; simp
  have HS2 : Hid (∀ w5 : World, Src Try.prog 1 39 (.slice OA 0 0) 0 (intsV (([] : List Int).take 0)) w5) := Lib.hid (fun w5 => src_zero w5 OA)
  simp only [hz] at HL2 HFIN HS2 ⊢
  obtain rfl : most = L.length := by simp at hmo; omega
  generalize intsV (([] : List Int).take 0) = ys at *
  generalize fillL _ L [] = LL at *
  generalize intsV L = xs at *
  generalize L.length = n at *
  simp only [List.length_nil, show ((0 : Nat) : Int) = 0 from rfl] at *
  clear hz hfl hKl hmo hoc HKL
  go_enter Try.func26, Try.ntmps26
  go_upto_region 11 with (rw [← HW1.out])
  go_region_held3 (fun w' => w'.cell? ⟨w.heap.size, 2, none⟩ = some (.slice OA 0 0)) (first | assumption | exact q2) (first
    | (refine step_append_row rowInt (o := ⟨some 43, _, _, _, _, _⟩) rfl (.tmp 41) (.tmp 42) rfl _ 0 [] rfl HE1.out _ n xs rfl HS1.out HL1.out ?_; intro v5 w5 hr5 hf5 hg5; have hp := HP1.out _ _ hg5 hf5; have hq5 := HQ.out _ hp.1)
    | (refine step_append_row rowInt (o := ⟨some 48, _, _, _, _, _⟩) rfl (.tmp 43) (.tmp 47) rfl _ (0 + n) ([] ++ xs) rfl hr5 _ 0 ys rfl (HS2.out w5) HL2.out ?_; intro v6 w6 hr6 hf6 hg6; have hfin := HFIN.out _ _ _ _ hp.1 hp.2 hg6 hf6 hr6; have hq7 := HQF.out _ _ _ _ hp.1 hp.2 hg6 hf6))
  have HF := Lib.hid hfin
  clear hfin
  go_wp2
  go_ret3
  exact HF.out
theorem step_fillB1 (N : Int) (A : Option Addr) (c : Nat) (L K : List Int) (OA : Option Addr) (oc : Nat) (most : Nat) (w : World) (h : RowAt w 3 1 (.slice A L.length c) L.length (intsV L)) (hl : L.length ≤ most) (hm : most ≤ 65536) (hK : OpL w OA oc K) (hKl : K.length ≤ 65536)
    (hmo : ¬ K.length < most - L.length) (hoc : 0 < oc) : Calls Try.prog 26 #[.agg #[.int .i64 3, .int .i64 N, .slice OA K.length oc], .slice A L.length c, .int .i64 (most : Int)] w (StpIs w (.slice A L.length c) (fillL most L K) (fillN most L K : Int) true) := by
  obtain ⟨w1, hw1, hb1, q0, q1, q2, hs1⟩ := box57 w 3 N (.slice OA K.length oc)
  have h1 := h.bel hb1
  have hK1 := hK.below hb1
  have bA : Below w1.heap.size w1 (w1.drew.alloc (.cells #[] 3)) := (Below.refl _ w1).drew.alloc (by simp) _
  have HE1 := Lib.hid (row_empty w1.drew)
  have HS1 : Hid (Src Try.prog 1 39 (.slice A L.length c) L.length (intsV L) (w1.drew.alloc (.cells #[] 3))) := Lib.hid ((h1.bel bA).src rowInt (intsV_one L))
  have HP1 : Hid (∀ w5 v5, (w1.drew.alloc (.cells #[] 3)).grownBy w5 (some w1.heap.size) → FreshV (w1.drew.alloc (.cells #[] 3)) (.slice (some ⟨w1.heap.size, 0, none⟩) 0 0) v5 → Below w1.heap.size w1 w5 ∧ FromB w1.heap.size v5) := Lib.hid (fun w5 v5 g f => FromB.grown (v := .slice (some ⟨w1.heap.size, 0, none⟩) 0 0) (fromB_new _ _ _) bA (by simp) g f)
  have hfl : fillN most L K ≤ K.length := by unfold fillN; omega
  have HFIN : Hid (∀ X w6 v5 v6, Below w1.heap.size w1 X → FromB w1.heap.size v5 → X.grownBy w6 v5.ownBlock → FreshV X v5 v6 → RowAt w6 3 1 v6 (0 + L.length + fillN most L K) ([] ++ intsV L ++ intsV (K.take (fillN most L K))) → StpIs w (.slice A L.length c) (fillL most L K) (fillN most L K : Int) true (.returned (.tuple #[v6, .int .i64 (fillN most L K : Int), .bool true])) w6) := Lib.hid (fun X w6 v5 v6 hX h5 g f hr => by
    obtain ⟨r1, r2⟩ := h5.grown hX hX.size g f
    have e1 : intsV (fillL most L K) = intsV L ++ intsV (K.take (fillN most L K)) := by simp [intsV, fillL]
    have e2 : (fillL most L K).length = L.length + fillN most L K := by unfold fillL; rw [List.length_append, List.length_take]; omega
    rw [List.nil_append, Nat.zero_add] at hr
    refine ⟨v6, rfl, ?_, hb1.trans (r1.mono hb1.size), fun k hk => .inr (Nat.le_trans hb1.size (r2 k hk))⟩
    rw [e1, e2]
    exact hr)
  have HQ : Hid (∀ W, Below w1.heap.size w1 W → W.cell? ⟨w.heap.size, 2, none⟩ = some (.slice OA K.length oc)) := Lib.hid (fun W hW => (hW.cell (p := ⟨w.heap.size, 2, none⟩) (by rw [hs1]; exact Nat.lt_succ_self _)).trans q2)
  have HQF : Hid (∀ X w6 v5 v6, Below w1.heap.size w1 X → FromB w1.heap.size v5 → X.grownBy w6 v5.ownBlock → FreshV X v5 v6 → w6.cell? ⟨w.heap.size, 2, none⟩ = some (.slice OA K.length oc)) := Lib.hid (fun X w6 v5 v6 hX h5 g f => HQ.out _ (h5.grown hX hX.size g f).1)
  have HL1 : Hid (0 + L.length ≤ 100000000) := Lib.hid (by omega)
  have HL2 : Hid (0 + L.length + fillN most L K ≤ 100000000) := Lib.hid (by omega)
  have HW1 := Lib.hid hw1
  have qA := HQ.out _ bA
  have hmin : min ((most : Int) - (L.length : Int)) (K.length : Int) = (fillN most L K : Int) := by unfold fillN; omega
  have d0 : (0 : Int) ≤ (most : Int) - (L.length : Int) := by omega
  have HKL : Hid (K.length ≤ oc) := Lib.hid hK.len
  clear hw1 hb1 h hs1 hK bA h1
  clear hmin d0
  rcases hK1 with ⟨h, _⟩ | ⟨_, b, off, rfl, hkc, hb, hcl⟩
  · omega
  have hz : fillN most L K = most - L.length := by unfold fillN; omega
  have d1 : ¬ (K.length : Int) < (most : Int) - (L.length : Int) := by omega
  have d2 : ((most - L.length : Nat) : Int) ≤ (oc : Int) := by omega
  have d3 : (most : Int) - (L.length : Int) = ((most - L.length : Nat) : Int) := by omega
  have d4 : ¬ K.length < most - L.length := hmo
  have d5 : most - L.length ≤ oc := by omega
  have HS2 : Hid (∀ w5 : World, Below w1.heap.size w1 w5 → Src Try.prog 1 39 (.slice (some ⟨b, off, none⟩) (fillN most L K) oc) (fillN most L K) (intsV (K.take (fillN most L K))) w5) := Lib.hid (fun w5 h5 => src_cells w5 b off _ oc K hfl (fun j hj => (h5.cell (p := ⟨b, off + j, none⟩) hb).trans (hcl j hj)))
  generalize intsV (K.take (fillN most L K)) = ys at *
  generalize fillL most L K = LL at *
  simp only [hz] at HL2 HFIN HS2 ⊢
  generalize intsV L = xs at *
  generalize most - L.length = m at *
  generalize K.length = kk at *
  generalize L.length = n at *
  clear hz hfl hKl hmo hoc HKL hcl hb
  go_enter Try.func26, Try.ntmps26
  go_upto_region 11 with (rw [← HW1.out])
  go_region_held3 (fun w' => w'.cell? ⟨w.heap.size, 2, none⟩ = some (.slice (some ⟨b, off, none⟩) kk oc)) (first | assumption | exact q2) (first
    | (refine step_append_row rowInt (o := ⟨some 43, _, _, _, _, _⟩) rfl (.tmp 41) (.tmp 42) rfl _ 0 [] rfl HE1.out _ n xs rfl HS1.out HL1.out ?_; intro v5 w5 hr5 hf5 hg5; have hp := HP1.out _ _ hg5 hf5; have hq5 := HQ.out _ hp.1)
    | (refine step_append_row rowInt (o := ⟨some 48, _, _, _, _, _⟩) rfl (.tmp 43) (.tmp 47) rfl _ (0 + n) ([] ++ xs) rfl hr5 _ m ys rfl (HS2.out _ hp.1) HL2.out ?_; intro v6 w6 hr6 hf6 hg6; have hfin := HFIN.out _ _ _ _ hp.1 hp.2 hg6 hf6 hr6; have hq7 := HQF.out _ _ _ _ hp.1 hp.2 hg6 hf6))
  have HF := Lib.hid hfin
  clear hfin
  go_wp2
  go_ret3
  exact HF.out
theorem step_fill (N : Int) (v : Value) (L K : List Int) (OA : Option Addr) (oc : Nat) (most : Nat) (w : World) (h : RowAt w 3 1 v L.length (intsV L)) (hl : L.length ≤ most) (hm : most ≤ 65536) (hK : OpL w OA oc K) (hKl : K.length ≤ 65536) : Calls Try.prog 26 #[.agg #[.int .i64 3, .int .i64 N, .slice OA K.length oc], v, .int .i64 (most : Int)] w (StpIs w v (fillL most L K) (fillN most L K : Int) true) := by
  obtain ⟨A, c, rfl, hn⟩ := h.form
  by_cases h1 : K.length < most - L.length <;> by_cases h2 : oc = 0
  · exact step_fillA0 N A c L K OA oc most w h hl hm hK hKl h1 h2
  · exact step_fillA1 N A c L K OA oc most w h hl hm hK hKl h1 (by omega)
  · exact step_fillB0 N A c L K OA oc most w h hl hm hK hKl h1 h2
  · exact step_fillB1 N A c L K OA oc most w h hl hm hK hKl h1 (by omega)
end Go.Proofs.Ytkebgcalphajhaa
