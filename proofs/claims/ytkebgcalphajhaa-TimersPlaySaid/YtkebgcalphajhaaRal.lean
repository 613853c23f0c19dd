/- step of the statements on the package ring. Condition: a list of its own. -/
import Derived.Test.YtkebgcalphajhaaRak
namespace Go.Proofs.Ytkebgcalphajhaa
open Go.RowKit Go.Lib Go.Shelf
set_option maxRecDepth 100000
set_option maxHeartbeats 1000000
/-- What step answers: the list, behind what was there; x; ok. -/
def StpIs (w : World) (v : Value) (L : List Int) (x : Int) (ok : Bool) (e : Ending) (w' : World) : Prop := ∃ v', e = .returned (.tuple #[v', .int .i64 x, .bool ok]) ∧ RowAt w' 3 1 v' L.length (intsV L) ∧ Below w.heap.size w w' ∧ FreshV w v v'
theorem box57 (w : World) (k N : Int) (u : Value) : ∃ w1, w1 = w.alloc (.cells #[.int .i64 k, .int .i64 N, u] 57) ∧ Below w.heap.size w w1 ∧ w1.cell? ⟨w.heap.size, 0, none⟩ = some (.int .i64 k) ∧ w1.cell? ⟨w.heap.size, 1, none⟩ = some (.int .i64 N) ∧ w1.cell? ⟨w.heap.size, 2, none⟩ = some u ∧ w1.heap.size = w.heap.size + 1 := by
  refine ⟨_, rfl, (Below.refl _ w).alloc (Nat.le_refl _) _, ?_, ?_, ?_, by simp⟩
  all_goals
    unfold World.cell?
    rw [heap_alloc_new]
    rfl
theorem step_same (k N : Int) (u : Value) (v : Value) (L : List Int) (most : Nat) (w : World) (h : RowAt w 3 1 v L.length (intsV L))
    (hc : (k = 0 ∧ most ≤ L.length) ∨ (k = 1 ∧ L = []) ∨ (k ≠ 0 ∧ k ≠ 1 ∧ k ≠ 3 ∧ (N < 0 ∨ (L.length : Int) ≤ N))) : Calls Try.prog 26 #[.agg #[.int .i64 k, .int .i64 N, u], v, .int .i64 (most : Int)] w (StpIs w v L 0 false) := by
  obtain ⟨w1, hw1, hb1, q0, q1, q2, hs1⟩ := box57 w k N u
  have HR := Lib.hid (h.bel hb1)
  obtain ⟨A, c, rfl, hn⟩ := h.form
  have HW1 := Lib.hid hw1
  have HB := Lib.hid hb1
  clear hw1 hb1 h hs1
  rcases hc with ⟨rfl, hm⟩ | ⟨rfl, rfl⟩ | ⟨h1, h2, h3, hN⟩
  · have hm1 : ¬ (L.length : Int) < (most : Int) := by omega
    go_enter Try.func26, Try.ntmps26
    go_wp2_with (rw [← HW1.out])
    go_ret3
    exact ⟨_, rfl, HR.out, HB.out, FreshV.refl _ _⟩
  · go_enter Try.func26, Try.ntmps26
    go_wp2_with (rw [← HW1.out])
    go_ret3
    exact ⟨_, rfl, HR.out, HB.out, FreshV.refl _ _⟩
  · have e1 : (k == 0) = false := by simp [h1]
    have e2 : (k == 1) = false := by simp [h2]
    have e3 : (k == 3) = false := by simp [h3]
    generalize hln : L.length = n at *
    rcases hN with hN | hN
    · go_enter Try.func26, Try.ntmps26
      go_wp2_with (rw [← HW1.out])
      go_ret3
      exact ⟨_, rfl, by rw [hln]; exact HR.out, HB.out, FreshV.refl _ _⟩
    · have e4 : ¬ N < 0 := by omega
      have e5 : N ≥ (n : Int) := hN
      go_enter Try.func26, Try.ntmps26
      go_wp2_with (rw [← HW1.out])
      go_ret3
      exact ⟨_, rfl, by rw [hln]; exact HR.out, HB.out, FreshV.refl _ _⟩
section
variable {w : World} {b off n c : Nat} {L : List Int}
theorem RowAt.srcTake (h : RowAt w 3 1 (.slice (some ⟨b, off, none⟩) n c) n (intsV L)) (j c' : Nat) (hj : j ≤ n) : Src Try.prog 1 39 (.slice (some ⟨b, off, none⟩) j c') j ((intsV L).take j) w := by
  have hl := h.1
  rw [intsV_length, Nat.mul_one] at hl
  refine Src.ofSlice w rowInt.und _ j c' _ (by rw [List.length_take, intsV_length]; omega) (fun i u hu => ?_) (fun u hu => intsV_one L u (List.mem_of_mem_take hu))
  rw [Addr.add_lit]
  refine h.cell i u ?_
  have hlt := (List.getElem?_eq_some_iff.1 hu).1
  rw [List.length_take] at hlt
  rw [List.getElem?_take, if_pos (by omega)] at hu
  exact hu
theorem RowAt.srcDrop (h : RowAt w 3 1 (.slice (some ⟨b, off, none⟩) n c) n (intsV L)) (i c' : Nat) (hi : i ≤ n) : Src Try.prog 1 39 (.slice (some ⟨b, off + i, none⟩) (n - i) c') (n - i) ((intsV L).drop i) w := by
  have hl := h.1
  rw [intsV_length, Nat.mul_one] at hl
  refine Src.ofSlice w rowInt.und _ (n - i) c' _ (by rw [List.length_drop, intsV_length]; omega) (fun k u hu => ?_) (fun u hu => intsV_one L u (List.mem_of_mem_drop hu))
  rw [Addr.add_lit, Nat.add_assoc]
  refine h.cell (i + k) u ?_
  rw [List.getElem?_drop] at hu
  exact hu
end
theorem src_none (w : World) (ad : Addr) (c : Nat) : Src Try.prog 1 39 (.slice (some ad) 0 c) 0 [] w := Src.ofSlice w rowInt.und ad 0 c [] rfl (fun j u hu => by cases hu) (fun u hu => absurd hu (by simp))
theorem row_empty (W : World) : RowAt (W.alloc (.cells #[] 3)) 3 1 (.slice (some ⟨W.heap.size, 0, none⟩) 0 0) 0 [] := row_new W 3 1 0 [] rfl (by omega) #[] rfl
theorem step_cut1e (k N : Int) (u : Value) (b off c : Nat) (L : List Int) (most j : Nat) (w : World) (h : RowAt w 3 1 (.slice (some ⟨b, off, none⟩) L.length c) L.length (intsV L)) (hj : j < L.length) (hl : L.length ≤ 65536)
    (hc : k = 1 ∧ j = 0) (hcc : c = j + 1) : Calls Try.prog 26 #[.agg #[.int .i64 k, .int .i64 N, u], .slice (some ⟨b, off, none⟩) L.length c, .int .i64 (most : Int)] w (StpIs w (.slice (some ⟨b, off, none⟩) L.length c) (cutAt L j) L[j]! true) := by
  obtain ⟨w1, hw1, hb1, q0, q1, q2, hs1⟩ := box57 w k N u
  have hn : L.length ≤ c := by
    rcases h.2 with ⟨e, h0⟩ | ⟨g', off', cap', cur, e, _, hn, _⟩
    · omega
    · cases e; exact hn
  have h1 := h.bel hb1
  have qa := h1.cell j _ (intsV_get L j hj)
  have hbl : b < w.heap.size := h.lt b rfl
  have h1e : RowAt (w1.drew.alloc (.cells #[] 3)) 3 1 (.slice (some ⟨b, off, none⟩) L.length c) L.length (intsV L) := h1.bel ((Below.refl _ w1).drew.alloc (by simp) _)
  have qe := h1e.cell j _ (intsV_get L j hj)
  have HE0 := Lib.hid (row_empty w1.drew)
  have HS1 := Lib.hid (h1e.srcTake j c (by omega))
  have HL1 : Hid (0 + j ≤ 100000000) := Lib.hid (by omega)
  have HL2 : Hid (0 + j + (L.length - (j + 1)) ≤ 100000000) := Lib.hid (by omega)
  have HFIN : Hid (∀ v6 w6, RowAt w6 3 1 v6 (0 + j + (L.length - (j + 1))) ([] ++ (intsV L).take j ++ (intsV L).drop (j + 1)) → RowAt w6 3 1 v6 (cutAt L j).length (intsV (cutAt L j))) := Lib.hid (fun v6 w6 h6 => by
    rw [cutAt_length hj, cutAt, ← (intsV_cut L j hj).1]
    rw [List.nil_append, show 0 + j + (L.length - (j + 1)) = L.length - 1 by omega] at h6
    exact h6)
  have HFB : Hid (∀ w5 w6 : World, ∀ v5 v6 : Value, (w1.drew.alloc (.cells #[] 3)).grownBy w5 (some w1.heap.size) → FreshV (w1.drew.alloc (.cells #[] 3)) (.slice (some ⟨w1.heap.size, 0, none⟩) 0 0) v5 → w5.grownBy w6 v5.ownBlock → FreshV w5 v5 v6 → Below w.heap.size w w6 ∧ FreshV w (.slice (some ⟨b, off, none⟩) L.length c) v6) := Lib.hid (fun w5 w6 v5 v6 g5 f5 g6 f6 => by
    have hs : (w1.drew.alloc (.cells #[] 3)).heap.size = w1.heap.size + 1 := by simp
    have g5s := g5.size
    have own5 : ∀ k, v5.ownBlock = some k → w1.heap.size ≤ k := fun k hk => by
      rcases f5 k hk with e | e
      · cases e; exact Nat.le_refl _
      · omega
    have b5 : Below w1.heap.size w1 w5 := ((Below.refl _ w1).drew.alloc (by simp) _).grown g5 (by omega) (fun k hk => by cases hk; exact Nat.le_refl _)
    have b6 : Below w1.heap.size w1 w6 := b5.grown g6 b5.size own5
    refine ⟨hb1.trans (b6.mono hb1.size), fun k hk => .inr ?_⟩
    rcases f6 k hk with e | e
    · have := own5 k e; omega
    · have := b5.size; omega)
  have HSD : Hid (∀ w5 : World, (w1.drew.alloc (.cells #[] 3)).grownBy w5 (some w1.heap.size) → RowAt w5 3 1 (.slice (some ⟨b, off, none⟩) L.length c) L.length (intsV L)) := Lib.hid (fun w5 g5 => h1e.grown g5 (fun k hk => by
    cases hk
    simp
    omega))
  have HQ5 : Hid (∀ w5 : World, (w1.drew.alloc (.cells #[] 3)).grownBy w5 (some w1.heap.size) → w5.cell? ⟨b, off + j, none⟩ = some (.int .i64 L[j]!)) := Lib.hid (fun w5 g5 => (HSD.out w5 g5).cell j _ (intsV_get L j hj))
  have HQ6 : Hid (∀ w5 w6 : World, ∀ v5 : Value, (w1.drew.alloc (.cells #[] 3)).grownBy w5 (some w1.heap.size) → FreshV (w1.drew.alloc (.cells #[] 3)) (.slice (some ⟨w1.heap.size, 0, none⟩) 0 0) v5 → w5.grownBy w6 v5.ownBlock → w6.cell? ⟨b, off + j, none⟩ = some (.int .i64 L[j]!)) := Lib.hid (fun w5 w6 v5 g5 f5 g6 => ((HSD.out w5 g5).grown g6 (fun k hk e => by
    cases hk
    rcases f5 b e.symm with e1 | e1
    · have e1 : some w1.heap.size = some b := e1
      injection e1 with e1
      have := hb1.size
      omega
    · have : (w1.drew.alloc (.cells #[] 3)).heap.size = w1.heap.size + 1 := by simp
      have := hb1.size
      omega)).cell j _ (intsV_get L j hj))
  have HW1 := Lib.hid hw1
  have HB := Lib.hid hb1
  have p1 : ¬ (j : Int) < 0 := by omega
  have p2 : ¬ (j : Int) ≥ (L.length : Int) := by omega
  have p3 : (j : Int) < (L.length : Int) := by omega
  have p4 : IntKind.i64.wrap ((j : Int) + 1) = (j : Int) + 1 := by rw [IntKind.wrap_i64]; omega
  have p5 : (j : Int) ≤ (c : Int) := by omega
  have p6 : (j : Int) + 1 ≤ (L.length : Int) := by omega
  have p7 : 0 ≤ (j : Int) + 1 := by omega
  have p8 : j + 1 ≤ L.length := by omega
  have p9 : j ≤ c := by omega
  clear hw1 hb1 h h1 h1e hs1 hl
  have HS2 : Hid (∀ w5 : World, Src Try.prog 1 39 (.slice (some ⟨b, off, none⟩) 0 0) 0 ((intsV L).drop (j + 1)) w5) := Lib.hid (fun w5 => by
    rw [List.drop_eq_nil_of_le (by rw [intsV_length]; omega)]
    exact src_none w5 _ _)
  have HL3 : Hid (0 + j + 0 ≤ 100000000) := Lib.hid (by have := HL1.out; omega)
  clear hj
  generalize (intsV L).take j = X1 at *
  generalize (intsV L).drop (j + 1) = X2 at *
  generalize L[j]! = y at *
  generalize cutAt L j = LC at *
  generalize L.length = n at *
  obtain rfl : n = j + 1 := by omega
  subst hcc
  have HFIN2 : Hid (∀ v6 w6, RowAt w6 3 1 v6 (0 + j + 0) ([] ++ X1 ++ X2) → RowAt w6 3 1 v6 LC.length (intsV LC)) := Lib.hid (fun v6 w6 h6 => HFIN.out v6 w6 (by rw [Nat.sub_self]; exact h6))
  obtain ⟨rfl, rfl⟩ := hc
  clear p1 p2 p3 p4 p5 p6 p7 p8 p9 hn
  simp only [show ((0 : Nat) : Int) = 0 from rfl, Nat.add_zero, Nat.zero_add] at *
  have r1 : IntKind.i64.wrap 1 = 1 := by rw [IntKind.wrap_i64]; omega
  go_enter Try.func26, Try.ntmps26
  go_upto_region 14 with (rw [← HW1.out])
  go_region_held3 (fun w' => w'.cell? ⟨b, off, none⟩ = some (.int .i64 y)) (first | assumption | exact qa) (first
    | (refine step_append_row rowInt (o := ⟨some 63, _, _, _, _, _⟩) rfl (.tmp 59) (.tmp 62) rfl _ 0 [] rfl HE0.out _ 0 X1 rfl HS1.out HL1.out ?_; intro v5 w5 hr5 hf5 hg5; have qb := HQ5.out _ hg5)
    | (refine step_append_row rowInt (o := ⟨some 68, _, _, _, _, _⟩) rfl (.tmp 63) (.tmp 67) rfl _ 0 ([] ++ X1) rfl hr5 _ 0 X2 rfl (HS2.out w5) HL3.out ?_; intro v6 w6 hr6 hf6 hg6; have qc := HQ6.out _ _ _ hg5 hf5 hg6))
  go_wp2
  go_ret3
  obtain ⟨r1, r2⟩ := HFB.out _ _ _ _ hg5 hf5 hg6 hf6
  exact ⟨_, rfl, HFIN2.out _ _ hr6, r1, r2⟩
theorem step_cut1m (k N : Int) (u : Value) (b off c : Nat) (L : List Int) (most j : Nat) (w : World) (h : RowAt w 3 1 (.slice (some ⟨b, off, none⟩) L.length c) L.length (intsV L)) (hj : j < L.length) (hl : L.length ≤ 65536)
    (hc : k = 1 ∧ j = 0) (hcc : ¬ c = j + 1) : Calls Try.prog 26 #[.agg #[.int .i64 k, .int .i64 N, u], .slice (some ⟨b, off, none⟩) L.length c, .int .i64 (most : Int)] w (StpIs w (.slice (some ⟨b, off, none⟩) L.length c) (cutAt L j) L[j]! true) := by
  obtain ⟨w1, hw1, hb1, q0, q1, q2, hs1⟩ := box57 w k N u
  have hn : L.length ≤ c := by
    rcases h.2 with ⟨e, h0⟩ | ⟨g', off', cap', cur, e, _, hn, _⟩
    · omega
    · cases e; exact hn
  have h1 := h.bel hb1
  have qa := h1.cell j _ (intsV_get L j hj)
  have hbl : b < w.heap.size := h.lt b rfl
  have h1e : RowAt (w1.drew.alloc (.cells #[] 3)) 3 1 (.slice (some ⟨b, off, none⟩) L.length c) L.length (intsV L) := h1.bel ((Below.refl _ w1).drew.alloc (by simp) _)
  have qe := h1e.cell j _ (intsV_get L j hj)
  have HE0 := Lib.hid (row_empty w1.drew)
  have HS1 := Lib.hid (h1e.srcTake j c (by omega))
  have HL1 : Hid (0 + j ≤ 100000000) := Lib.hid (by omega)
  have HL2 : Hid (0 + j + (L.length - (j + 1)) ≤ 100000000) := Lib.hid (by omega)
  have HFIN : Hid (∀ v6 w6, RowAt w6 3 1 v6 (0 + j + (L.length - (j + 1))) ([] ++ (intsV L).take j ++ (intsV L).drop (j + 1)) → RowAt w6 3 1 v6 (cutAt L j).length (intsV (cutAt L j))) := Lib.hid (fun v6 w6 h6 => by
    rw [cutAt_length hj, cutAt, ← (intsV_cut L j hj).1]
    rw [List.nil_append, show 0 + j + (L.length - (j + 1)) = L.length - 1 by omega] at h6
    exact h6)
  have HFB : Hid (∀ w5 w6 : World, ∀ v5 v6 : Value, (w1.drew.alloc (.cells #[] 3)).grownBy w5 (some w1.heap.size) → FreshV (w1.drew.alloc (.cells #[] 3)) (.slice (some ⟨w1.heap.size, 0, none⟩) 0 0) v5 → w5.grownBy w6 v5.ownBlock → FreshV w5 v5 v6 → Below w.heap.size w w6 ∧ FreshV w (.slice (some ⟨b, off, none⟩) L.length c) v6) := Lib.hid (fun w5 w6 v5 v6 g5 f5 g6 f6 => by
    have hs : (w1.drew.alloc (.cells #[] 3)).heap.size = w1.heap.size + 1 := by simp
    have g5s := g5.size
    have own5 : ∀ k, v5.ownBlock = some k → w1.heap.size ≤ k := fun k hk => by
      rcases f5 k hk with e | e
      · cases e; exact Nat.le_refl _
      · omega
    have b5 : Below w1.heap.size w1 w5 := ((Below.refl _ w1).drew.alloc (by simp) _).grown g5 (by omega) (fun k hk => by cases hk; exact Nat.le_refl _)
    have b6 : Below w1.heap.size w1 w6 := b5.grown g6 b5.size own5
    refine ⟨hb1.trans (b6.mono hb1.size), fun k hk => .inr ?_⟩
    rcases f6 k hk with e | e
    · have := own5 k e; omega
    · have := b5.size; omega)
  have HSD : Hid (∀ w5 : World, (w1.drew.alloc (.cells #[] 3)).grownBy w5 (some w1.heap.size) → RowAt w5 3 1 (.slice (some ⟨b, off, none⟩) L.length c) L.length (intsV L)) := Lib.hid (fun w5 g5 => h1e.grown g5 (fun k hk => by
    cases hk
    simp
    omega))
  have HQ5 : Hid (∀ w5 : World, (w1.drew.alloc (.cells #[] 3)).grownBy w5 (some w1.heap.size) → w5.cell? ⟨b, off + j, none⟩ = some (.int .i64 L[j]!)) := Lib.hid (fun w5 g5 => (HSD.out w5 g5).cell j _ (intsV_get L j hj))
  have HQ6 : Hid (∀ w5 w6 : World, ∀ v5 : Value, (w1.drew.alloc (.cells #[] 3)).grownBy w5 (some w1.heap.size) → FreshV (w1.drew.alloc (.cells #[] 3)) (.slice (some ⟨w1.heap.size, 0, none⟩) 0 0) v5 → w5.grownBy w6 v5.ownBlock → w6.cell? ⟨b, off + j, none⟩ = some (.int .i64 L[j]!)) := Lib.hid (fun w5 w6 v5 g5 f5 g6 => ((HSD.out w5 g5).grown g6 (fun k hk e => by
    cases hk
    rcases f5 b e.symm with e1 | e1
    · have e1 : some w1.heap.size = some b := e1
      injection e1 with e1
      have := hb1.size
      omega
    · have : (w1.drew.alloc (.cells #[] 3)).heap.size = w1.heap.size + 1 := by simp
      have := hb1.size
      omega)).cell j _ (intsV_get L j hj))
  have HW1 := Lib.hid hw1
  have HB := Lib.hid hb1
  have p1 : ¬ (j : Int) < 0 := by omega
  have p2 : ¬ (j : Int) ≥ (L.length : Int) := by omega
  have p3 : (j : Int) < (L.length : Int) := by omega
  have p4 : IntKind.i64.wrap ((j : Int) + 1) = (j : Int) + 1 := by rw [IntKind.wrap_i64]; omega
  have p5 : (j : Int) ≤ (c : Int) := by omega
  have p6 : (j : Int) + 1 ≤ (L.length : Int) := by omega
  have p7 : 0 ≤ (j : Int) + 1 := by omega
  have p8 : j + 1 ≤ L.length := by omega
  have p9 : j ≤ c := by omega
  clear hw1 hb1 h h1 h1e hs1 hl
  have HS2 : Hid (∀ w5 : World, (w1.drew.alloc (.cells #[] 3)).grownBy w5 (some w1.heap.size) → Src Try.prog 1 39 (.slice (some ⟨b, off + (j + 1), none⟩) (L.length - (j + 1)) (c - (j + 1))) (L.length - (j + 1)) ((intsV L).drop (j + 1)) w5) := Lib.hid (fun w5 g5 => (HSD.out w5 g5).srcDrop (j + 1) _ p8)
  clear hj
  generalize (intsV L).take j = X1 at *
  generalize (intsV L).drop (j + 1) = X2 at *
  generalize L[j]! = y at *
  generalize cutAt L j = LC at *
  generalize L.length = n at *
  obtain ⟨rfl, rfl⟩ := hc
  simp only [show ((0 : Nat) : Int) = 0 from rfl, Nat.add_zero] at *
  have r1 : IntKind.i64.wrap 1 = 1 := by rw [IntKind.wrap_i64]; omega
  have r1' : IntKind.i64.wrap (0 + 1) = 1 := by rw [IntKind.wrap_i64]; omega
  have r2 : (0 : Int) < (n : Int) := by omega
  have r3 : (1 : Int) ≤ (n : Int) := by omega
  have r4 : (1 : Int) ≤ (c : Int) := by omega
  have r5 : ¬ c = 1 := by omega
  have r6 : 0 < n := by omega
  have r7 : 1 ≤ n := by omega
  clear p4 hcc
  go_enter Try.func26, Try.ntmps26
  go_upto_region 14 with (rw [← HW1.out])
  go_region_held3 (fun w' => w'.cell? ⟨b, off, none⟩ = some (.int .i64 y)) (first | assumption | exact qa) (first
    | (refine step_append_row rowInt (o := ⟨some 63, _, _, _, _, _⟩) rfl (.tmp 59) (.tmp 62) rfl _ 0 [] rfl HE0.out _ 0 X1 rfl HS1.out HL1.out ?_; intro v5 w5 hr5 hf5 hg5; have qb := HQ5.out _ hg5)
    | (refine step_append_row rowInt (o := ⟨some 68, _, _, _, _, _⟩) rfl (.tmp 63) (.tmp 67) rfl _ (0 + 0) ([] ++ X1) rfl hr5 _ (n - (0 + 1)) X2 rfl (HS2.out _ hg5) HL2.out ?_; intro v6 w6 hr6 hf6 hg6; have qc := HQ6.out _ _ _ hg5 hf5 hg6))
  go_wp2
  go_ret3
  obtain ⟨r1, r2⟩ := HFB.out _ _ _ _ hg5 hf5 hg6 hf6
  exact ⟨_, rfl, HFIN.out _ _ hr6, r1, r2⟩
theorem step_cut2e (k N : Int) (u : Value) (b off c : Nat) (L : List Int) (most j : Nat) (w : World) (h : RowAt w 3 1 (.slice (some ⟨b, off, none⟩) L.length c) L.length (intsV L)) (hj : j < L.length) (hl : L.length ≤ 65536)
    (hc : k ≠ 0 ∧ k ≠ 1 ∧ k ≠ 3 ∧ N = (j : Int)) (hcc : c = j + 1) : Calls Try.prog 26 #[.agg #[.int .i64 k, .int .i64 N, u], .slice (some ⟨b, off, none⟩) L.length c, .int .i64 (most : Int)] w (StpIs w (.slice (some ⟨b, off, none⟩) L.length c) (cutAt L j) L[j]! true) := by
  obtain ⟨w1, hw1, hb1, q0, q1, q2, hs1⟩ := box57 w k N u
  have hn : L.length ≤ c := by
    rcases h.2 with ⟨e, h0⟩ | ⟨g', off', cap', cur, e, _, hn, _⟩
    · omega
    · cases e; exact hn
  have h1 := h.bel hb1
  have qa := h1.cell j _ (intsV_get L j hj)
  have hbl : b < w.heap.size := h.lt b rfl
  have h1e : RowAt (w1.drew.alloc (.cells #[] 3)) 3 1 (.slice (some ⟨b, off, none⟩) L.length c) L.length (intsV L) := h1.bel ((Below.refl _ w1).drew.alloc (by simp) _)
  have qe := h1e.cell j _ (intsV_get L j hj)
  have HE0 := Lib.hid (row_empty w1.drew)
  have HS1 := Lib.hid (h1e.srcTake j c (by omega))
  have HL1 : Hid (0 + j ≤ 100000000) := Lib.hid (by omega)
  have HL2 : Hid (0 + j + (L.length - (j + 1)) ≤ 100000000) := Lib.hid (by omega)
  have HFIN : Hid (∀ v6 w6, RowAt w6 3 1 v6 (0 + j + (L.length - (j + 1))) ([] ++ (intsV L).take j ++ (intsV L).drop (j + 1)) → RowAt w6 3 1 v6 (cutAt L j).length (intsV (cutAt L j))) := Lib.hid (fun v6 w6 h6 => by
    rw [cutAt_length hj, cutAt, ← (intsV_cut L j hj).1]
    rw [List.nil_append, show 0 + j + (L.length - (j + 1)) = L.length - 1 by omega] at h6
    exact h6)
  have HFB : Hid (∀ w5 w6 : World, ∀ v5 v6 : Value, (w1.drew.alloc (.cells #[] 3)).grownBy w5 (some w1.heap.size) → FreshV (w1.drew.alloc (.cells #[] 3)) (.slice (some ⟨w1.heap.size, 0, none⟩) 0 0) v5 → w5.grownBy w6 v5.ownBlock → FreshV w5 v5 v6 → Below w.heap.size w w6 ∧ FreshV w (.slice (some ⟨b, off, none⟩) L.length c) v6) := Lib.hid (fun w5 w6 v5 v6 g5 f5 g6 f6 => by
    have hs : (w1.drew.alloc (.cells #[] 3)).heap.size = w1.heap.size + 1 := by simp
    have g5s := g5.size
    have own5 : ∀ k, v5.ownBlock = some k → w1.heap.size ≤ k := fun k hk => by
      rcases f5 k hk with e | e
      · cases e; exact Nat.le_refl _
      · omega
    have b5 : Below w1.heap.size w1 w5 := ((Below.refl _ w1).drew.alloc (by simp) _).grown g5 (by omega) (fun k hk => by cases hk; exact Nat.le_refl _)
    have b6 : Below w1.heap.size w1 w6 := b5.grown g6 b5.size own5
    refine ⟨hb1.trans (b6.mono hb1.size), fun k hk => .inr ?_⟩
    rcases f6 k hk with e | e
    · have := own5 k e; omega
    · have := b5.size; omega)
  have HSD : Hid (∀ w5 : World, (w1.drew.alloc (.cells #[] 3)).grownBy w5 (some w1.heap.size) → RowAt w5 3 1 (.slice (some ⟨b, off, none⟩) L.length c) L.length (intsV L)) := Lib.hid (fun w5 g5 => h1e.grown g5 (fun k hk => by
    cases hk
    simp
    omega))
  have HQ5 : Hid (∀ w5 : World, (w1.drew.alloc (.cells #[] 3)).grownBy w5 (some w1.heap.size) → w5.cell? ⟨b, off + j, none⟩ = some (.int .i64 L[j]!)) := Lib.hid (fun w5 g5 => (HSD.out w5 g5).cell j _ (intsV_get L j hj))
  have HQ6 : Hid (∀ w5 w6 : World, ∀ v5 : Value, (w1.drew.alloc (.cells #[] 3)).grownBy w5 (some w1.heap.size) → FreshV (w1.drew.alloc (.cells #[] 3)) (.slice (some ⟨w1.heap.size, 0, none⟩) 0 0) v5 → w5.grownBy w6 v5.ownBlock → w6.cell? ⟨b, off + j, none⟩ = some (.int .i64 L[j]!)) := Lib.hid (fun w5 w6 v5 g5 f5 g6 => ((HSD.out w5 g5).grown g6 (fun k hk e => by
    cases hk
    rcases f5 b e.symm with e1 | e1
    · have e1 : some w1.heap.size = some b := e1
      injection e1 with e1
      have := hb1.size
      omega
    · have : (w1.drew.alloc (.cells #[] 3)).heap.size = w1.heap.size + 1 := by simp
      have := hb1.size
      omega)).cell j _ (intsV_get L j hj))
  have HW1 := Lib.hid hw1
  have HB := Lib.hid hb1
  have p1 : ¬ (j : Int) < 0 := by omega
  have p2 : ¬ (j : Int) ≥ (L.length : Int) := by omega
  have p3 : (j : Int) < (L.length : Int) := by omega
  have p4 : IntKind.i64.wrap ((j : Int) + 1) = (j : Int) + 1 := by rw [IntKind.wrap_i64]; omega
  have p5 : (j : Int) ≤ (c : Int) := by omega
  have p6 : (j : Int) + 1 ≤ (L.length : Int) := by omega
  have p7 : 0 ≤ (j : Int) + 1 := by omega
  have p8 : j + 1 ≤ L.length := by omega
  have p9 : j ≤ c := by omega
  clear hw1 hb1 h h1 h1e hs1 hl
  have HS2 : Hid (∀ w5 : World, Src Try.prog 1 39 (.slice (some ⟨b, off, none⟩) 0 0) 0 ((intsV L).drop (j + 1)) w5) := Lib.hid (fun w5 => by
    rw [List.drop_eq_nil_of_le (by rw [intsV_length]; omega)]
    exact src_none w5 _ _)
  have HL3 : Hid (0 + j + 0 ≤ 100000000) := Lib.hid (by have := HL1.out; omega)
  clear hj
  generalize (intsV L).take j = X1 at *
  generalize (intsV L).drop (j + 1) = X2 at *
  generalize L[j]! = y at *
  generalize cutAt L j = LC at *
  generalize L.length = n at *
  obtain rfl : n = j + 1 := by omega
  subst hcc
  have HFIN2 : Hid (∀ v6 w6, RowAt w6 3 1 v6 (0 + j + 0) ([] ++ X1 ++ X2) → RowAt w6 3 1 v6 LC.length (intsV LC)) := Lib.hid (fun v6 w6 h6 => HFIN.out v6 w6 (by rw [Nat.sub_self]; exact h6))
  obtain ⟨h1, h2, h3, rfl⟩ := hc
  have s1 : (j : Int) ≤ (j : Int) + 1 := by omega
  have s2 : (j : Int) + 1 ≤ (j : Int) + 1 := by omega
  have e1 : (k == 0) = false := by simp [h1]
  have e2 : (k == 1) = false := by simp [h2]
  have e3 : (k == 3) = false := by simp [h3]
  go_enter Try.func26, Try.ntmps26
  go_upto_region 14 with (rw [← HW1.out])
  go_region_held3 (fun w' => w'.cell? ⟨b, off + j, none⟩ = some (.int .i64 y)) (first | assumption | exact qa) (first
    | (refine step_append_row rowInt (o := ⟨some 63, _, _, _, _, _⟩) rfl (.tmp 59) (.tmp 62) rfl _ 0 [] rfl HE0.out _ j X1 rfl HS1.out HL1.out ?_; intro v5 w5 hr5 hf5 hg5; have qb := HQ5.out _ hg5)
    | (refine step_append_row rowInt (o := ⟨some 68, _, _, _, _, _⟩) rfl (.tmp 63) (.tmp 67) rfl _ (0 + j) ([] ++ X1) rfl hr5 _ 0 X2 rfl (HS2.out w5) HL3.out ?_; intro v6 w6 hr6 hf6 hg6; have qc := HQ6.out _ _ _ hg5 hf5 hg6))
  go_wp2
  go_ret3
  obtain ⟨r1, r2⟩ := HFB.out _ _ _ _ hg5 hf5 hg6 hf6
  exact ⟨_, rfl, HFIN2.out _ _ hr6, r1, r2⟩
theorem step_cut2m (k N : Int) (u : Value) (b off c : Nat) (L : List Int) (most j : Nat) (w : World) (h : RowAt w 3 1 (.slice (some ⟨b, off, none⟩) L.length c) L.length (intsV L)) (hj : j < L.length) (hl : L.length ≤ 65536)
    (hc : k ≠ 0 ∧ k ≠ 1 ∧ k ≠ 3 ∧ N = (j : Int)) (hcc : ¬ c = j + 1) : Calls Try.prog 26 #[.agg #[.int .i64 k, .int .i64 N, u], .slice (some ⟨b, off, none⟩) L.length c, .int .i64 (most : Int)] w (StpIs w (.slice (some ⟨b, off, none⟩) L.length c) (cutAt L j) L[j]! true) := by
  obtain ⟨w1, hw1, hb1, q0, q1, q2, hs1⟩ := box57 w k N u
  have hn : L.length ≤ c := by
    rcases h.2 with ⟨e, h0⟩ | ⟨g', off', cap', cur, e, _, hn, _⟩
    · omega
    · cases e; exact hn
  have h1 := h.bel hb1
  have qa := h1.cell j _ (intsV_get L j hj)
  have hbl : b < w.heap.size := h.lt b rfl
  have h1e : RowAt (w1.drew.alloc (.cells #[] 3)) 3 1 (.slice (some ⟨b, off, none⟩) L.length c) L.length (intsV L) := h1.bel ((Below.refl _ w1).drew.alloc (by simp) _)
  have qe := h1e.cell j _ (intsV_get L j hj)
  have HE0 := Lib.hid (row_empty w1.drew)
  have HS1 := Lib.hid (h1e.srcTake j c (by omega))
  have HL1 : Hid (0 + j ≤ 100000000) := Lib.hid (by omega)
  have HL2 : Hid (0 + j + (L.length - (j + 1)) ≤ 100000000) := Lib.hid (by omega)
  have HFIN : Hid (∀ v6 w6, RowAt w6 3 1 v6 (0 + j + (L.length - (j + 1))) ([] ++ (intsV L).take j ++ (intsV L).drop (j + 1)) → RowAt w6 3 1 v6 (cutAt L j).length (intsV (cutAt L j))) := Lib.hid (fun v6 w6 h6 => by
    rw [cutAt_length hj, cutAt, ← (intsV_cut L j hj).1]
    rw [List.nil_append, show 0 + j + (L.length - (j + 1)) = L.length - 1 by omega] at h6
    exact h6)
  have HFB : Hid (∀ w5 w6 : World, ∀ v5 v6 : Value, (w1.drew.alloc (.cells #[] 3)).grownBy w5 (some w1.heap.size) → FreshV (w1.drew.alloc (.cells #[] 3)) (.slice (some ⟨w1.heap.size, 0, none⟩) 0 0) v5 → w5.grownBy w6 v5.ownBlock → FreshV w5 v5 v6 → Below w.heap.size w w6 ∧ FreshV w (.slice (some ⟨b, off, none⟩) L.length c) v6) := Lib.hid (fun w5 w6 v5 v6 g5 f5 g6 f6 => by
    have hs : (w1.drew.alloc (.cells #[] 3)).heap.size = w1.heap.size + 1 := by simp
    have g5s := g5.size
    have own5 : ∀ k, v5.ownBlock = some k → w1.heap.size ≤ k := fun k hk => by
      rcases f5 k hk with e | e
      · cases e; exact Nat.le_refl _
      · omega
    have b5 : Below w1.heap.size w1 w5 := ((Below.refl _ w1).drew.alloc (by simp) _).grown g5 (by omega) (fun k hk => by cases hk; exact Nat.le_refl _)
    have b6 : Below w1.heap.size w1 w6 := b5.grown g6 b5.size own5
    refine ⟨hb1.trans (b6.mono hb1.size), fun k hk => .inr ?_⟩
    rcases f6 k hk with e | e
    · have := own5 k e; omega
    · have := b5.size; omega)
  have HSD : Hid (∀ w5 : World, (w1.drew.alloc (.cells #[] 3)).grownBy w5 (some w1.heap.size) → RowAt w5 3 1 (.slice (some ⟨b, off, none⟩) L.length c) L.length (intsV L)) := Lib.hid (fun w5 g5 => h1e.grown g5 (fun k hk => by
    cases hk
    simp
    omega))
  have HQ5 : Hid (∀ w5 : World, (w1.drew.alloc (.cells #[] 3)).grownBy w5 (some w1.heap.size) → w5.cell? ⟨b, off + j, none⟩ = some (.int .i64 L[j]!)) := Lib.hid (fun w5 g5 => (HSD.out w5 g5).cell j _ (intsV_get L j hj))
  have HQ6 : Hid (∀ w5 w6 : World, ∀ v5 : Value, (w1.drew.alloc (.cells #[] 3)).grownBy w5 (some w1.heap.size) → FreshV (w1.drew.alloc (.cells #[] 3)) (.slice (some ⟨w1.heap.size, 0, none⟩) 0 0) v5 → w5.grownBy w6 v5.ownBlock → w6.cell? ⟨b, off + j, none⟩ = some (.int .i64 L[j]!)) := Lib.hid (fun w5 w6 v5 g5 f5 g6 => ((HSD.out w5 g5).grown g6 (fun k hk e => by
    cases hk
    rcases f5 b e.symm with e1 | e1
    · have e1 : some w1.heap.size = some b := e1
      injection e1 with e1
      have := hb1.size
      omega
    · have : (w1.drew.alloc (.cells #[] 3)).heap.size = w1.heap.size + 1 := by simp
      have := hb1.size
      omega)).cell j _ (intsV_get L j hj))
  have HW1 := Lib.hid hw1
  have HB := Lib.hid hb1
  have p1 : ¬ (j : Int) < 0 := by omega
  have p2 : ¬ (j : Int) ≥ (L.length : Int) := by omega
  have p3 : (j : Int) < (L.length : Int) := by omega
  have p4 : IntKind.i64.wrap ((j : Int) + 1) = (j : Int) + 1 := by rw [IntKind.wrap_i64]; omega
  have p5 : (j : Int) ≤ (c : Int) := by omega
  have p6 : (j : Int) + 1 ≤ (L.length : Int) := by omega
  have p7 : 0 ≤ (j : Int) + 1 := by omega
  have p8 : j + 1 ≤ L.length := by omega
  have p9 : j ≤ c := by omega
  clear hw1 hb1 h h1 h1e hs1 hl
  have HS2 : Hid (∀ w5 : World, (w1.drew.alloc (.cells #[] 3)).grownBy w5 (some w1.heap.size) → Src Try.prog 1 39 (.slice (some ⟨b, off + (j + 1), none⟩) (L.length - (j + 1)) (c - (j + 1))) (L.length - (j + 1)) ((intsV L).drop (j + 1)) w5) := Lib.hid (fun w5 g5 => (HSD.out w5 g5).srcDrop (j + 1) _ p8)
  clear hj
  generalize (intsV L).take j = X1 at *
  generalize (intsV L).drop (j + 1) = X2 at *
  generalize L[j]! = y at *
  generalize cutAt L j = LC at *
  generalize L.length = n at *
  obtain ⟨h1, h2, h3, rfl⟩ := hc
  have e1 : (k == 0) = false := by simp [h1]
  have e2 : (k == 1) = false := by simp [h2]
  have e3 : (k == 3) = false := by simp [h3]
  go_enter Try.func26, Try.ntmps26
  go_upto_region 14 with (rw [← HW1.out])
  go_region_held3 (fun w' => w'.cell? ⟨b, off + j, none⟩ = some (.int .i64 y)) (first | assumption | exact qa) (first
    | (refine step_append_row rowInt (o := ⟨some 63, _, _, _, _, _⟩) rfl (.tmp 59) (.tmp 62) rfl _ 0 [] rfl HE0.out _ j X1 rfl HS1.out HL1.out ?_; intro v5 w5 hr5 hf5 hg5; have qb := HQ5.out _ hg5)
    | (refine step_append_row rowInt (o := ⟨some 68, _, _, _, _, _⟩) rfl (.tmp 63) (.tmp 67) rfl _ (0 + j) ([] ++ X1) rfl hr5 _ (n - (j + 1)) X2 rfl (HS2.out _ hg5) HL2.out ?_; intro v6 w6 hr6 hf6 hg6; have qc := HQ6.out _ _ _ hg5 hf5 hg6))
  go_wp2
  go_ret3
  obtain ⟨r1, r2⟩ := HFB.out _ _ _ _ hg5 hf5 hg6 hf6
  exact ⟨_, rfl, HFIN.out _ _ hr6, r1, r2⟩
theorem step_cut (k N : Int) (u : Value) (v : Value) (L : List Int) (most j : Nat) (w : World) (h : RowAt w 3 1 v L.length (intsV L)) (hj : j < L.length) (hl : L.length ≤ 65536)
    (hc : (k = 1 ∧ j = 0) ∨ (k ≠ 0 ∧ k ≠ 1 ∧ k ≠ 3 ∧ N = (j : Int))) : Calls Try.prog 26 #[.agg #[.int .i64 k, .int .i64 N, u], v, .int .i64 (most : Int)] w (StpIs w v (cutAt L j) L[j]! true) := by
  obtain ⟨b, off, c, rfl, hn⟩ := h.filled (by omega)
  rcases hc with hc | hc <;> by_cases hcc : c = j + 1
  · exact step_cut1e k N u b off c L most j w h hj hl hc hcc
  · exact step_cut1m k N u b off c L most j w h hj hl hc hcc
  · exact step_cut2e k N u b off c L most j w h hj hl hc hcc
  · exact step_cut2m k N u b off c L most j w h hj hl hc hcc
end Go.Proofs.Ytkebgcalphajhaa
