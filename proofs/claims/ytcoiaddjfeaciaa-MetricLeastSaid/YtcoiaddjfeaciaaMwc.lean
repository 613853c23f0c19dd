/- The walk of the statement MetricLeast of this seat: it answers true for any ids. No condition. -/
import Derived.Test.YtcoiaddjfeaciaaMwb
namespace Go.Proofs.Ytcoiaddjfeaciaa
set_option maxRecDepth 100000
set_option maxHeartbeats 4000000
open Go.RowKit Go.Lib Go.Great

theorem mleast_far (T : Array Value) (A : Option Addr) (n c : Nat) (k : Int) (h : 50 < n ∨ k < 0 ∨ 100 < k) (w : World) : Calls Try.prog 11 #[.agg T, .slice A n c, .int .i64 k] w fun e w' => e = .returned (.bool true) ∧ Below w.heap.size w w' := by
  have hb0 : Hid (Below w.heap.size w (w.alloc (.cells T 26))) := Lib.hid ((Below.refl _ w).alloc (Nat.le_refl _) _)
  have hq : ((50 : Int) < (n : Int)) ∨ (¬ (50 : Int) < (n : Int) ∧ k < 0) ∨ (¬ (50 : Int) < (n : Int) ∧ ¬ k < 0 ∧ 100 < k) := by omega
  clear h
  rcases hq with h1 | ⟨h1, h2⟩ | ⟨h1, h2, h3⟩
  all_goals
    go_enter Try.func11, Try.ntmps11
    go_wp2_with (go_at_call 43; (with_reducible refine (mlives_any _).mono ?_); rintro e w2 ⟨rfl, hb2⟩)
    go_ret
    exact ⟨rfl, hb0.out.trans (hb2.mono hb0.out.size)⟩

/-- v has the n nearest ones of M. -/
def NrIs (t : IDv) (M : List IDv) (n : Int) (v : Value) (W : World) : Prop := ∃ S, IsSet (kM t) S M ∧ SlIs (S.take n.toNat) v W
theorem NrIs.keep {t : IDv} {M : List IDv} {n : Int} (v : Value) (w w' : World) (hb : Below w.heap.size w w') (h : NrIs t M n v w) : NrIs t M n v w' := by
  obtain ⟨S, h1, h2⟩ := h
  exact ⟨S, h1, SlIs.keep _ _ _ hb h2⟩
theorem nr_step (t : IDv) (M : List IDv) (n : Int) (hn : n ≤ 100) (v : Value) (x : IDv) (W : World) (h : NrIs t M n v W) :
    Calls Try.prog 44 #[.agg (encID t).toArray, v, .agg (encID x).toArray, .int .i64 n] W fun e w' => ∃ v' b, e = .returned (.tuple #[v', .bool b]) ∧ NrIs t (M ++ [x]) n v' w' ∧ Below W.heap.size W w' := by
  obtain ⟨S, h1, A, c, rfl, h2, h3⟩ := h
  refine (minsert_any t A c (S.take n.toNat) x n W (by rw [List.length_take]; omega) h3).mono ?_
  rintro e w' ⟨⟨v', S', rfl, k1, _, k3⟩, k4⟩
  have hT := insK_set (kM_inj t) x h1
  refine ⟨v', _, rfl, ⟨_, hT, ?_⟩, k4⟩
  have := take_step (kM_inj t) x n.toNat h1 k1 hT
  rw [← this]
  exact SlIs.of_own k3
def LsRel (W : World) (t : IDv) (L : List IDv) (n : Int) (m : Nat) (a b i : Value) (wr : World) : Prop := ∃ j : Nat, j ≤ m ∧ i = .int .i64 (j : Int) ∧ NrIs t (L.take j) n a wr ∧ NrIs t (L.reverse.take j) n b wr ∧ Below W.heap.size W wr

theorem mleast_near (t : IDv) (A : Option Addr) (c : Nat) (L : List IDv) (n : Int) (w : World) (hL : L.length ≤ 50) (hn0 : 0 ≤ n) (hn1 : n ≤ 100) (hA : IAt w w.heap.size A L) :
    Calls Try.prog 11 #[.agg (encID t).toArray, .slice A L.length c, .int .i64 n] w fun e w' => e = .returned (.bool true) ∧ Below w.heap.size w w' := by
  have hb0 : Below w.heap.size w (w.alloc (.cells (encID t).toArray 26)) := (Below.refl _ w).alloc (Nat.le_refl _) _
  obtain ⟨W0, hW0⟩ : ∃ W0, W0 = w.alloc (.cells (encID t).toArray 26) := ⟨_, rfl⟩
  have h1 := heap_alloc_new w (.cells (encID t).toArray 26)
  rw [← hW0] at h1 hb0
  have g1 := (Array.getElem?_eq_some_iff.1 h1).1
  have L1 : Hid (∀ W, Below W0.heap.size W0 W → (loadVar 26 ⟨w.heap.size, 0, none⟩).run Try.prog W = .ok (.agg (encID t).toArray) W) := Lib.hid (fun W h => range_load26 (range_keep (row_range h1) (h.block _ g1)))
  have K1 : Hid (∀ W, Below W0.heap.size W0 W → ∀ n : Kept W.heap.size W, (loadVar 26 ⟨w.heap.size, 0, none⟩).run Try.prog n.val = .ok (.agg (encID t).toArray) n.val) := Lib.hid (fun W h => kept_range26 (Nat.lt_of_lt_of_le g1 h.size) (range_keep (row_range h1) (h.block _ g1)))
  have HA : Hid (∀ W, Below W0.heap.size W0 W → IAt W W.heap.size A L) := Lib.hid (fun W h => (((hA.below hb0).more hb0.size).below h).more h.size)
  obtain ⟨m, hm⟩ : ∃ m, m = L.length := ⟨_, rfl⟩
  obtain ⟨S0, hS0⟩ := set_exists (key := kM t) (kM_inj t) L
  have F49 : Hid (∀ W, Below W0.heap.size W0 W → Calls Try.prog 49 #[.agg (encID t).toArray, .slice A m c, .int .i64 n] W fun e w' => ∃ v, e = .returned v ∧ SlIs (S0.take n.toNat) v w' ∧ Below W.heap.size W w') := Lib.hid (fun W h => by
    rw [hm]
    refine (mleast_any t A c L n W (by omega) (HA.out W h)).mono ?_
    rintro e w' ⟨v, rfl, ⟨S, k1, _, k3⟩, k5⟩
    rw [k1.unique hS0] at k3
    exact ⟨_, rfl, SlIs.of_own k3, k5⟩)
  have F44 : Hid (∀ (M : List IDv) v (x : IDv) W, NrIs t M n v W → Calls Try.prog 44 #[.agg (encID t).toArray, v, .agg (encID x).toArray, .int .i64 n] W fun e w' => ∃ v' b, e = .returned (.tuple #[v', .bool b]) ∧ NrIs t (M ++ [x]) n v' w' ∧ Below W.heap.size W w') := Lib.hid (fun M v x W h => nr_step t M n hn1 v x W h)
  have F51 : Hid (∀ (x : IDv) W, Below W0.heap.size W0 W → Calls Try.prog 51 #[.agg (encID t).toArray, .agg (encID x).toArray, .slice A m c] W fun e w' => e = .returned (.int .i64 (rankK (kM t) x S0 : Int)) ∧ Below W.heap.size W w') := Lib.hid (fun x W h => by
    rw [hm]
    refine (mrank_any t x A c L W (by omega) (HA.out W h)).mono ?_
    rintro e w' ⟨⟨S, k1, rfl⟩, k5⟩
    exact ⟨by rw [k1.unique hS0], k5⟩)
  have HW := Lib.hid hW0
  have HB0 := Lib.hid hb0
  have HS0 := Lib.hid hS0
  have HM : Hid (m = L.length) := Lib.hid hm
  have hL' : ¬ (50 : Int) < (m : Int) := by omega
  have hn0' : ¬ n < 0 := by omega
  have hn1' : ¬ 100 < n := by omega
  have hz1 := fun W => zero26 W
  obtain ⟨Z, hZ⟩ : ∃ Z, Z = (bcells (List.replicate 20 0)).toArray := ⟨_, rfl⟩
  have hZs : Z.size = 20 := by rw [hZ, List.size_toArray, bcells_length, List.length_replicate]
  rw [← hZ] at hz1
  rw [← hm]
  generalize (encID t).toArray = T at L1 K1 F44 F49 F51 HW ⊢
  clear hA h1 hb0 hW0 g1 hm hL hS0 hZ hn0 hn1
  go_enter Try.func11, Try.ntmps11
  go_upto_region 1 with fail
  rw [← HW.out]
  have HB : Below W0.heap.size W0 W0 := Below.refl _ _
  go_upto_region 6 with (first
    | ((with_reducible refine wpList_loadV (op := ⟨some 26, _, _, _, _, _⟩) rfl 26 (.tmp 3) rfl _ ?_ _ (L1.out _ HB) ?_); rfl)
    | (go_at_call 49; (with_reducible refine (F49.out _ HB).mono ?_); rintro e W1 ⟨v7, rfl, hv7, hbn⟩; replace HB := HB.trans (hbn.mono HB.size); clear hbn))
  have HBW := Lib.hid HB
  have HV7 := Lib.hid hv7
  have R0 : Hid (LsRel W1 t L n m (.slice none 0 0) (.slice none 0 0) (.int .i64 0) W1) := Lib.hid ⟨0, by omega, rfl, ⟨[], IsSet.nil, none, 0, by simp, by simp, by simpa using IAt.nil_⟩, ⟨[], IsSet.nil, none, 0, by simp, by simp, by simpa using IAt.nil_⟩, Below.refl _ _⟩
  clear HB hv7 F49
  go_loopw [8, 9, 32] (LsRel W1 t L n m) (fun _ _ i _ => m - (intOf i).toNat)
  case atStart => exact R0.out
  case round =>
    obtain ⟨j, hj, rfl, ha, hb, hbe⟩ := hrel
    clear R0
    have HBE := Lib.hid hbe
    have HBR := Lib.hid (HBW.out.trans (hbe.mono HBW.out.size))
    have HNA := Lib.hid ha
    have HNB := Lib.hid hb
    clear ha hb hbe
    by_cases hlt : j < m
    · obtain ⟨x, hx⟩ : ∃ x, L[j]? = some x := ⟨L[j]'(by have := HM.out; omega), List.getElem?_eq_getElem _⟩
      obtain ⟨y, hy⟩ : ∃ y, L[m - 1 - j]? = some y := ⟨L[m - 1 - j]'(by have := HM.out; omega), List.getElem?_eq_getElem _⟩
      have HTX := Lib.hid (take_snoc hx)
      have HTY : Hid (L.reverse.take (j + 1) = L.reverse.take j ++ [y]) := Lib.hid (take_snoc (by rw [List.getElem?_reverse (by have := HM.out; omega), ← HM.out]; exact hy))
      obtain ⟨g, off, rfl, hg, hr⟩ := (HA.out _ HBR.out).some_ (by have := HM.out; omega)
      have HL := Lib.hid (range_load26 (range_part hr hx))
      have HGY : Hid (g < wr.heap.size ∧ wr.rangeAt g (off + (m - 1 - j) * 20) (encID y)) := Lib.hid ⟨hg, range_part hr hy⟩
      have S1 : Hid ((Try.prog.info? 26).map (·.size) = some (encID x).toArray.size) := Lib.hid (by rw [enc_size]; exact size26)
      have S2 : Hid (Z.size = (encID x).toArray.size) := Lib.hid (by rw [enc_size]; exact hZs)
      have S3 : Hid ((encID x).toArray.all (·.oneCell') = true) := Lib.hid (enc_all x)
      have S4 := Lib.hid (heap_alloc_new wr (.cells Z 26))
      clear hr hx hy hg
      go_upto_region 8 with (first
        | ((with_reducible refine wpList_loadV (op := ⟨some 36, _, _, _, _, _⟩) rfl 26 (.tmp 35) rfl _ ?_ _ HL.out ?_); rfl)
        | ((with_reducible refine wpList_store_row rfl 26 (.tmp 11) (.tmp 36) rfl wr.heap.size (encID x).toArray ?_ ?_ 26 Z S4.out S1.out S2.out S3.out ?_); rfl; rfl))
      have K5 := alloc_setP wr Z (encID x).toArray 26 _ rfl
      generalize (wr.alloc (.cells Z 26)).setRow wr.heap.size (encID x).toArray = W5 at K5 ⊢
      obtain ⟨q1, q2⟩ := K5
      have HL5 := Lib.hid (range_load26 (row_range q1))
      have HB5 := Lib.hid (HBR.out.trans (q2.mono HBR.out.size))
      have HQ2 := Lib.hid q2
      have HNA5 := Lib.hid (NrIs.keep _ _ _ q2 HNA.out)
      clear q1 q2 S1 S2 S3 S4 HL
      simp only [Act.put]
      go_upto_region 9 with (first
        | ((with_reducible refine wpList_loadV (op := ⟨some 38, _, _, _, _, _⟩) rfl 26 (.tmp 3) rfl _ ?_ _ (L1.out _ HB5.out) ?_); rfl)
        | ((with_reducible refine wpList_loadV (op := ⟨some 40, _, _, _, _, _⟩) rfl 26 (.tmp 11) rfl _ ?_ _ HL5.out ?_); rfl)
        | (go_at_call 44; (with_reducible refine (F44.out _ _ x _ HNA5.out).mono ?_); rintro e W6 ⟨v8, bb, rfl, hv8, hbn⟩))
      have HW6 := Lib.hid ((HQ2.out.trans (hbn.mono HQ2.out.size)))
      have HB6 := Lib.hid (HB5.out.trans (hbn.mono HB5.out.size))
      have HN8 := Lib.hid (NrIs.keep _ _ _ (Below.refl _ W6).drew hv8)
      have hb6d : Below wr.heap.size wr W6.drew := HW6.out.drew
      have HNB6 := Lib.hid (NrIs.keep _ _ _ hb6d HNB.out)
      have HSd : Hid (Below wr.heap.size wr W6.drew) := Lib.hid hb6d
      have HLT : Hid (∀ W, Below wr.heap.size wr W → (loadVar 26 ⟨w.heap.size, 0, none⟩).run Try.prog W = .ok (.agg T) W) := Lib.hid (fun W h => L1.out W (HBR.out.trans (h.mono HBR.out.size)))
      have HLY : Hid (∀ W, Below wr.heap.size wr W → (loadVar 26 ⟨g, off + (m - 1 - j) * 20, none⟩).run Try.prog W = .ok (.agg (encID y).toArray) W) := Lib.hid (fun W h => range_load26 (range_keep HGY.out.2 (h.block g HGY.out.1)))
      have hidx : (m : Int) - 1 - (j : Int) = ((m - 1 - j : Nat) : Int) := by omega
      have hidx2 : m - 1 - j < m := by omega
      obtain ⟨p, hp⟩ : ∃ p, p = m - 1 - j := ⟨_, rfl⟩
      rw [← hp] at HLY hidx hidx2
      have HWR : Hid (IntKind.i64.wrap (IntKind.i64.wrap ((m : Int) - 1) - (j : Int)) = (p : Int)) := Lib.hid (by rw [IntKind.wrap_i64 ((m : Int) - 1), IntKind.wrap_i64]; omega)
      clear hidx
      clear hv8 hbn hb6d HNA5 HL5 HB5 HQ2 HW6 HNA HNB HGY hp
      refine wp_region_noPanic ?_
      refine wp_region_held_drew (S := fun w' => Below wr.heap.size wr w') (by kernel_rfl) HSd.out (fun hHeld => ?_)
      refine takeH_at 0 46 (v := .agg T) rfl rfl (by kernel_rfl) (by kernel_rfl) (by kernel_rfl) (fun _ _ _ h => h) (yieldsIf_loadQ (by rfl) 26 (.tmp 3) rfl _ rfl _ HLT.out) (by assumption) ?_
      simp only [Act.put, List.setIfInBounds_toArray, List.set_cons_zero, List.set_cons_succ]
      refine takeH_at 1 47 (v := ?_) rfl rfl (by kernel_rfl) (by kernel_rfl) (by kernel_rfl) (fun _ _ _ h => h) (Or.inl ⟨by rfl, ?_⟩) (by assumption) ?_
      rotate_left
      · (intro wx hSw; clear hSw; go_simp) <;> with_reducible rfl
      simp only [Act.put, List.setIfInBounds_toArray, List.set_cons_zero, List.set_cons_succ]
      refine takeH_at 2 48 (v := ?_) rfl rfl (by kernel_rfl) (by kernel_rfl) (by kernel_rfl) (fun _ _ _ h => h) (Or.inl ⟨by rfl, ?_⟩) (by assumption) ?_
      rotate_left
      · (intro wx hSw; clear hSw; go_simp) <;> with_reducible rfl
      simp only [Act.put, List.setIfInBounds_toArray, List.set_cons_zero, List.set_cons_succ]
      refine takeH_at 3 49 (v := ?_) rfl rfl (by kernel_rfl) (by kernel_rfl) (by kernel_rfl) (fun _ _ _ h => h) (Or.inl ⟨by rfl, ?_⟩) (by assumption) ?_
      rotate_left
      · (intro wx hSw; clear hSw; go_simp) <;> with_reducible rfl
      simp only [Act.put, List.setIfInBounds_toArray, List.set_cons_zero, List.set_cons_succ]
      refine takeH_at 4 50 (v := ?_) rfl rfl (by kernel_rfl) (by kernel_rfl) (by kernel_rfl) (fun _ _ _ h => h) (Or.inl ⟨by rfl, ?_⟩) (by assumption) ?_
      rotate_left
      · (intro wx hSw; clear hSw; go_simp) <;> with_reducible rfl
      simp only [Act.put, List.setIfInBounds_toArray, List.set_cons_zero, List.set_cons_succ]
      refine takeH_at 5 51 (v := ?_) rfl rfl (by kernel_rfl) (by kernel_rfl) (by kernel_rfl) (fun _ _ _ h => h) (Or.inl ⟨by rfl, ?_⟩) (by assumption) ?_
      rotate_left
      · (intro wx hSw; clear hSw; go_simp) <;> with_reducible rfl
      simp only [Act.put, List.setIfInBounds_toArray, List.set_cons_zero, List.set_cons_succ]
      refine takeH_at 6 52 (v := ?_) rfl rfl (by kernel_rfl) (by kernel_rfl) (by kernel_rfl) (fun _ _ _ h => h) (Or.inl ⟨by rfl, ?_⟩) (by assumption) ?_
      rotate_left
      · (intro wx hSw; clear hSw; go_simp) <;> with_reducible rfl
      simp only [Act.put, List.setIfInBounds_toArray, List.set_cons_zero, List.set_cons_succ]
      refine takeH_at 7 53 (v := ?_) rfl rfl (by kernel_rfl) (by kernel_rfl) (by kernel_rfl) (fun _ _ _ h => h) (Or.inl ⟨by rfl, ?_⟩) (by assumption) ?_
      rotate_left
      · (intro wx hSw; clear hSw; go_simp) <;> with_reducible rfl
      simp only [Act.put, List.setIfInBounds_toArray, List.set_cons_zero, List.set_cons_succ]
      rw [HWR.out]
      refine takeH_at 8 54 (v := ?_) rfl rfl (by kernel_rfl) (by kernel_rfl) (by kernel_rfl) (fun _ _ _ h => h) (Or.inl ⟨by rfl, ?_⟩) (by assumption) ?_
      rotate_left
      · (intro wx hSw; clear hSw; go_simp) <;> with_reducible rfl
      simp only [Act.put, List.setIfInBounds_toArray, List.set_cons_zero, List.set_cons_succ]
      refine takeH_at 9 55 (v := .agg (encID y).toArray) rfl rfl (by kernel_rfl) (by kernel_rfl) (by kernel_rfl) (fun _ _ _ h => h) (yieldsIf_loadQ (by rfl) 26 (.tmp 54) rfl _ rfl _ HLY.out) (by assumption) ?_
      simp only [Act.put, List.setIfInBounds_toArray, List.set_cons_zero, List.set_cons_succ]
      refine takeH_at 10 56 (v := ?_) rfl rfl (by kernel_rfl) (by kernel_rfl) (by kernel_rfl) (fun _ _ _ h => h) (Or.inl ⟨by rfl, ?_⟩) (by assumption) ?_
      rotate_left
      · (intro wx hSw; clear hSw; go_simp) <;> with_reducible rfl
      simp only [Act.put, List.setIfInBounds_toArray, List.set_cons_zero, List.set_cons_succ]
      refine single 11 57 rfl rfl (by kernel_rfl) (by rfl) (fun v w' => ∃ v9 b, v = .tuple #[v9, .bool b] ∧ NrIs t (L.reverse.take j ++ [y]) n v9 w') (looseR_call 44 rfl (enters_of Try.func44 (by kernel_rfl) rfl) _ (by simp only [List.map_toArray, List.map_cons, List.map_nil]; rfl) ((F44.out _ _ y _ HNB6.out).mono (by rintro e w' ⟨v9, b, rfl, k1, k2⟩; exact ⟨_, rfl, hHeld.trans (k2.mono hHeld.size), k2, v9, b, rfl, k1⟩))) ?_
      intro v57 w7 hS7 hb7 hv57
      obtain ⟨v9, b9, rfl, hv9⟩ := hv57
      simp only [Act.put, List.setIfInBounds_toArray, List.set_cons_zero, List.set_cons_succ]
      refine takeH_at 12 45 (v := ?_) rfl rfl (by kernel_rfl) (by kernel_rfl) (by kernel_rfl) (fun _ _ _ h => h) (Or.inl ⟨by rfl, ?_⟩) (by assumption) ?_
      rotate_left
      · (intro wx hSw; clear hSw; go_simp) <;> with_reducible rfl
      simp only [Act.put, List.setIfInBounds_toArray, List.set_cons_zero, List.set_cons_succ]
      refine takeH_at 13 58 (v := ?_) rfl rfl (by kernel_rfl) (by kernel_rfl) (by kernel_rfl) (fun _ _ _ h => h) (Or.inl ⟨by rfl, ?_⟩) (by assumption) ?_
      rotate_left
      · (intro wx hSw; clear hSw; go_simp) <;> with_reducible rfl
      simp only [Act.put, List.setIfInBounds_toArray, List.set_cons_zero, List.set_cons_succ]
      refine takeH_at 14 59 (v := ?_) rfl rfl (by kernel_rfl) (by kernel_rfl) (by kernel_rfl) (fun _ _ _ h => h) (Or.inl ⟨by rfl, ?_⟩) (by assumption) ?_
      rotate_left
      · (intro wx hSw; clear hSw; go_simp) <;> with_reducible rfl
      simp only [Act.put, List.setIfInBounds_toArray, List.set_cons_zero, List.set_cons_succ]
      refine takeH_at 15 9 (v := ?_) rfl rfl (by kernel_rfl) (by kernel_rfl) (by kernel_rfl) (fun _ _ _ h => h) (Or.inl ⟨by rfl, ?_⟩) (by assumption) ?_
      rotate_left
      · (intro wx hSw; clear hSw; go_simp) <;> with_reducible rfl
      simp only [Act.put, List.setIfInBounds_toArray, List.set_cons_zero, List.set_cons_succ]
      refine wpAnyH_done (by kernel_rfl) ?_ _
      refine NoPanic.normal ?_
      have HREL : Hid (LsRel W1 t L n m v8 v9 (.int .i64 ((j : Int) + 1)) w7) := Lib.hid ⟨j + 1, by omega, by go_num, by rw [HTX.out]; exact NrIs.keep _ _ _ hb7 HN8.out, by rw [HTY.out]; exact hv9, HBE.out.trans (hS7.mono HBE.out.size)⟩
      clear hS7 hb7 hv9 hHeld HSd HN8 HNB6 HLT HLY hidx2 HB6 HWR
      go_wp2
      go_roundw
      case rel => exact HREL.out
      case measure => simp [intOf]; omega
    · have hjm : j = L.length := by have := HM.out; omega
      have hO8 : SlIs (S0.take n.toNat) u8 wr := by
        obtain ⟨S, k1, k2⟩ := HNA.out
        rw [hjm, List.take_length] at k1
        rw [← k1.unique HS0.out]
        exact k2
      have hO9 : SlIs (S0.take n.toNat) u9 wr := by
        obtain ⟨S, k1, k2⟩ := HNB.out
        rw [hjm, List.take_of_length_le (by simp)] at k1
        rw [← (k1.mem (fun y => List.mem_reverse)).unique HS0.out]
        exact k2
      have hO7 : SlIs (S0.take n.toNat) v7 wr := SlIs.keep _ _ _ HBE.out HV7.out
      have hrank : ∀ i x, (S0.take n.toNat)[i]? = some x → rankK (kM t) x S0 = i := fun i x hx => by
        rw [List.getElem?_take] at hx
        split at hx
        · exact rank_at HS0.out.1 hx
        · cases hx
      have hol : (S0.take n.toNat).length ≤ 100 := by rw [List.length_take]; omega
      generalize S0.take n.toNat = O at hO7 hO8 hO9 hrank hol
      obtain ⟨A8, c8, rfl, _, hA8⟩ := hO8
      obtain ⟨A9, c9, rfl, _, hA9⟩ := hO9
      obtain ⟨A7, c7, rfl, _, hA7⟩ := hO7
      obtain ⟨k, hk⟩ : ∃ k, k = O.length := ⟨_, rfl⟩
      rw [← hk] at hol ⊢
      have HK : Hid (k = O.length) := Lib.hid hk
      have HA7 := Lib.hid hA7
      have HA8 := Lib.hid hA8
      have HA9 := Lib.hid hA9
      have HRK := Lib.hid hrank
      have HBE2 := HBE
      obtain ⟨wo, rfl⟩ : ∃ wo, wo = wr := ⟨wr, rfl⟩
      have R1 : Hid (LoopRel2 wo k (.int .i64 0) wo) := Lib.hid ⟨0, by omega, rfl, Below.refl _ _⟩
      clear hA7 hA8 hA9 hrank hk HNA HNB hjm F44 HV7 HBE2
      go_upto_region 14 with fail
      go_loopw [75] (LoopRel2 wo k) (fun i _ => k - (intOf i).toNat)
      case atStart => exact R1.out
      case round =>
        obtain ⟨i, hi, rfl, hb⟩ := hrel
        clear R1
        have HBI := Lib.hid (HBR.out.trans (hb.mono HBR.out.size))
        by_cases hli : i < k
        · obtain ⟨x, hx⟩ : ∃ x, O[i]? = some x := ⟨O[i]'(by have := HK.out; omega), List.getElem?_eq_getElem _⟩
          obtain ⟨g7, o7, rfl, hg7, hr7⟩ := (HA7.out.below hb).some_ (by have := HK.out; omega)
          obtain ⟨g8, o8, rfl, hg8, hr8⟩ := (HA8.out.below hb).some_ (by have := HK.out; omega)
          obtain ⟨g9, o9, rfl, hg9, hr9⟩ := (HA9.out.below hb).some_ (by have := HK.out; omega)
          have HL := Lib.hid (range_load26 (range_part hr7 hx))
          have H8 : Hid (g8 < wr.heap.size ∧ wr.rangeAt g8 (o8 + i * 20) (encID x)) := Lib.hid ⟨Nat.lt_of_lt_of_le hg8 hb.size, range_part hr8 hx⟩
          have H9 : Hid (g9 < wr.heap.size ∧ wr.rangeAt g9 (o9 + i * 20) (encID x)) := Lib.hid ⟨Nat.lt_of_lt_of_le hg9 hb.size, range_part hr9 hx⟩
          have S1 : Hid ((Try.prog.info? 26).map (·.size) = some (encID x).toArray.size) := Lib.hid (by rw [enc_size]; exact size26)
          have S2 : Hid (Z.size = (encID x).toArray.size) := Lib.hid (by rw [enc_size]; exact hZs)
          have S3 : Hid ((encID x).toArray.all (·.oneCell') = true) := Lib.hid (enc_all x)
          have S4 := Lib.hid (heap_alloc_new wr (.cells Z 26))
          have HBL := Lib.hid hb
          have hrk := HRK.out i x hx
          have HF := Lib.hid (F51.out x)
          rw [hrk] at HF
          have hE : ∀ W, (Op.equalIn 10000 26 (.agg (encID x).toArray) (.agg (encID x).toArray)).run Try.prog W = .ok true W := fun W => by
            have := eq61 x.val x.val x.property x.property W
            rw [beq_self_eq_true] at this
            exact this
          clear hr7 hr8 hr9 hx hb hg7 hg8 hg9 hrk
          go_upto_region 16 with (first
            | ((with_reducible refine wpList_loadV (op := ⟨some 79, _, _, _, _, _⟩) rfl 26 (.tmp 78) rfl _ ?_ _ HL.out ?_); rfl)
            | ((with_reducible refine wpList_store_row rfl 26 (.tmp 13) (.tmp 79) rfl wr.heap.size (encID x).toArray ?_ ?_ 26 Z S4.out S1.out S2.out S3.out ?_); rfl; rfl))
          have K5 := alloc_setP wr Z (encID x).toArray 26 _ rfl
          generalize (wr.alloc (.cells Z 26)).setRow wr.heap.size (encID x).toArray = W5 at K5 ⊢
          obtain ⟨q1, q2⟩ := K5
          have HL5 := Lib.hid (kept_range26 (Array.getElem?_eq_some_iff.1 q1).1 (row_range q1))
          have HL8 := Lib.hid (kept_range26 (Nat.lt_of_lt_of_le H8.out.1 q2.size) (range_keep H8.out.2 (q2.block g8 H8.out.1)))
          have HL9 := Lib.hid (kept_range26 (Nat.lt_of_lt_of_le H9.out.1 q2.size) (range_keep H9.out.2 (q2.block g9 H9.out.1)))
          have HB5 := Lib.hid (HBL.out.trans (q2.mono HBL.out.size))
          have hBI5 := HBI.out.trans (q2.mono HBI.out.size)
          have HLT := Lib.hid (K1.out W5 hBI5)
          have HF5 : Hid (∀ n : Kept W5.heap.size W5, Calls Try.prog 51 #[.agg T, .agg (encID x).toArray, .slice A m c] n.val fun e w' => e = .returned (.int .i64 (i : Int)) ∧ Below n.val.heap.size n.val w') := Lib.hid (fun n => HF.out n.val (hBI5.trans (n.property.mono hBI5.size)))
          clear q1 q2 S1 S2 S3 S4 HL H8 H9 HBL hBI5 HF
          simp only [Act.put]
          refine wp_region_kept W5.heap.size W5 (Below.refl _ _) (by kernel_rfl) (by kernel_rfl) ?_
          repeat (first
            | (go_big_quiet_want; (with_reducible refine quiet_loadV 26 (.tmp 13) rfl _ ?_ _ HL5.out ?_); rfl; simp only [Act.put, List.setIfInBounds_toArray, List.set_cons_zero, List.set_cons_succ]; go_big_quiet_on)
            | (go_big_quiet_want; (with_reducible refine quiet_loadV 26 (.tmp 82) rfl _ ?_ _ HL8.out ?_); rfl; simp only [Act.put, List.setIfInBounds_toArray, List.set_cons_zero, List.set_cons_succ]; go_big_quiet_on)
            | (go_big_quiet_want; (with_reducible refine quiet_loadV 26 (.tmp 89) rfl _ ?_ _ HL9.out ?_); rfl; simp only [Act.put, List.setIfInBounds_toArray, List.set_cons_zero, List.set_cons_succ]; go_big_quiet_on)
            | (go_big_quiet_want; (with_reducible refine quiet_loadV 26 (.tmp 3) rfl _ ?_ _ HLT.out ?_); rfl; simp only [Act.put, List.setIfInBounds_toArray, List.set_cons_zero, List.set_cons_succ]; go_big_quiet_on)
            | go_big_quiet_step (first | (go_at_call 51; with_reducible exact kept_ofS (Nat.le_refl _) HF5.out _)))
          refine wpQuiet_nil ?_
          rintro wk ⟨⟨_, hwk⟩, rfl⟩
          have HREL : Hid (LoopRel2 wo k (.int .i64 ((i : Int) + 1)) wk) := Lib.hid ⟨i + 1, by omega, by go_num, HB5.out.trans (hwk.mono HB5.out.size)⟩
          clear hwk HL5 HL8 HL9 HB5 HLT HF5
          go_wp2
          go_roundw
          case rel => exact HREL.out
          case measure => simp [intOf]; omega
        · clear hb
          go_wp2_with (go_at_call 43; (with_reducible refine (mlives_any _).mono ?_); rintro e wl ⟨rfl, hbl⟩)
          go_ret
          refine ⟨rfl, ?_⟩
          have h2 := HB0.out.trans (HBI.out.mono HB0.out.size)
          exact h2.trans (hbl.mono h2.size)
theorem mleast_walk (t : IDv) (A : Option Addr) (c : Nat) (L : List IDv) (n : Int) (w : World) (hA : IAt w w.heap.size A L) :
    Calls Try.prog 11 #[.agg (encID t).toArray, .slice A L.length c, .int .i64 n] w fun e w' => e = .returned (.bool true) ∧ Below w.heap.size w w' := by
  by_cases h : 50 < L.length ∨ n < 0 ∨ 100 < n
  · exact mleast_far _ A L.length c n h w
  · exact mleast_near t A c L n w (by omega) (by omega) (by omega) hA
end Go.Proofs.Ytcoiaddjfeaciaa
