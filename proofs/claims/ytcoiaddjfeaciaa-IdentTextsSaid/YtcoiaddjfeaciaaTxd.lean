/- Contract of the reference's Text. Conditions: an id has 20 bytes. -/
import Derived.Test.YtcoiaddjfeaciaaTxc
import Derived.Deep.RegionHeld3
namespace Go.Proofs.Ytcoiaddjfeaciaa
set_option maxRecDepth 100000
set_option maxHeartbeats 400000
open Go.RowKit Go.Great

def RTextRel (w : World) (xs : List UInt8) (v i : Value) (wr : World) : Prop :=
  ∃ j : Nat, j ≤ 20 ∧ i = .int .i64 (j : Int) ∧ wr.ownsRow (w.heap.size + 1) 5 1 v (2 * j) (bcells (textL (xs.take j))) ∧ wr.heap[w.heap.size]? = some (.cells (bcells xs).toArray 42 (0, 0)) ∧ Below w.heap.size w wr ∧ w.heap.size + 1 ≤ wr.heap.size

theorem rtext_any (xs : List UInt8) (hx : xs.length = 20) (w : World) :
    Calls Try.prog 38 #[.agg (bcells xs).toArray] w fun e w' => e = .returned (.string (bstr (textL xs))) ∧ Below w.heap.size w w' := by
  have R0 : Hid (RTextRel w xs (.slice none 0 0) (.int .i64 0) (w.alloc (.cells (bcells xs).toArray 42))) := Lib.hid ⟨0, by omega, rfl, by simpa [textL, bcells] using World.ownsRow_nil (w.alloc (.cells (bcells xs).toArray 42)) (w.heap.size + 1) 5 1, heap_alloc_new w _, (Below.refl _ w).alloc (Nat.le_refl _) _, by simp⟩
  have HX := Lib.hid hx
  generalize (bcells xs).toArray = X at R0 ⊢
  clear hx
  obtain ⟨i0, hi, hz0, hz1, hz2⟩ := info_parts info5
  go_enter Try.func38, Try.ntmps38
  go_wp2
  go_loopw [3, 4] (RTextRel w xs) (fun _ i _ => 20 - (intOf i).toNat)
  case atStart => exact R0.out
  case round =>
    obtain ⟨j, hj, rfl, hown, hrow, hb, hsz⟩ := hrel
    clear R0
    by_cases hlt : j < 20
    · have hlt' : (j : Int) < 20 := by omega
      have hc := row_byte hrow j (by have := HX.out; omega)
      have hb8 := (xs.getD j 0).toNat_lt
      obtain ⟨q, hq⟩ : ∃ q, (xs.getD j 0).toNat / 16 = q := ⟨_, rfl⟩
      obtain ⟨r, hr⟩ : ∃ r, (xs.getD j 0).toNat % 16 = r := ⟨_, rfl⟩
      have hbq : ((xs.getD j 0).toNat : Int) / 16 = (q : Int) := by omega
      have hbr : ((xs.getD j 0).toNat : Int) % 16 = (r : Int) := by omega
      have hwb : wrap64 ((xs.getD j 0).toNat : Int) = ((xs.getD j 0).toNat : Int) := by unfold wrap64; omega
      have hwq : IntKind.i64.wrap (q : Int) = (q : Int) := by rw [IntKind.wrap_i64]; omega
      have hwr : IntKind.i64.wrap (r : Int) = (r : Int) := by rw [IntKind.wrap_i64]; omega
      have hwb2 : IntKind.i64.wrap ((xs.getD j 0).toNat : Int) = ((xs.getD j 0).toNat : Int) := by rw [IntKind.wrap_i64]; omega
      have htd : ((xs.getD j 0).toNat : Int).tdiv 16 = (q : Int) := by rw [Int.tdiv_eq_ediv_of_nonneg (by omega)]; omega
      have htm : ((xs.getD j 0).toNat : Int).tmod 16 = (r : Int) := by rw [Int.tmod_eq_emod_of_nonneg (by omega)]; omega
      have HDQ := Lib.hid (fun W => digit_any q (by omega) W)
      have HDR := Lib.hid (fun W => digit_any r (by omega) W)
      have HT := Lib.hid (textL_take xs j (by have := HX.out; omega))
      have HH : Hid (hexL (xs.getD j 0) = [digL q, digL r]) := Lib.hid (by unfold hexL; rw [hq, hr])
      have HROW := Lib.hid hrow
      have HB := Lib.hid hb
      have HSZ := Lib.hid hsz
      generalize (xs.getD j 0).toNat = b at hc hbq hbr hwb hwb2 htd htm
      clear hb8 hq hr hrow hb hsz
      go_upto_region 5 with fail
      have hS0 : (fun w' : World => w'.cell? ⟨w.heap.size, j, none⟩ = some (.int .u8 (b : Int))) wr.drew := hc
      refine wp_region_noPanic ?_
      refine wp_region_held_drew (S := fun w' => w'.cell? ⟨w.heap.size, j, none⟩ = some (.int .u8 (b : Int))) (by kernel_rfl) hS0 (fun hHeld => ?_)
      refine takeH_at 0 9 (v := ?_) rfl rfl (by kernel_rfl) (by kernel_rfl) (by kernel_rfl) (fun _ _ _ h => h) (Or.inl ⟨by rfl, ?_⟩) (by assumption) ?_
      rotate_left
      · (intro wx hSw; (try dsimp only at hSw); go_simp) <;> with_reducible rfl
      simp only [Act.put, List.setIfInBounds_toArray, List.set_cons_zero, List.set_cons_succ]
      refine takeH_at 1 10 (v := ?_) rfl rfl (by kernel_rfl) (by kernel_rfl) (by kernel_rfl) (fun _ _ _ h => h) (Or.inl ⟨by rfl, ?_⟩) (by assumption) ?_
      rotate_left
      · (intro wx hSw; (try dsimp only at hSw); go_simp) <;> with_reducible rfl
      simp only [Act.put, List.setIfInBounds_toArray, List.set_cons_zero, List.set_cons_succ]
      refine takeH_at 2 11 (v := ?_) rfl rfl (by kernel_rfl) (by kernel_rfl) (by kernel_rfl) (fun _ _ _ h => h) (Or.inl ⟨by rfl, ?_⟩) (by assumption) ?_
      rotate_left
      · (intro wx hSw; (try dsimp only at hSw); go_simp) <;> with_reducible rfl
      simp only [Act.put, List.setIfInBounds_toArray, List.set_cons_zero, List.set_cons_succ]
      refine takeH_at 3 12 (v := ?_) rfl rfl (by kernel_rfl) (by kernel_rfl) (by kernel_rfl) (fun _ _ _ h => h) (Or.inl ⟨by rfl, ?_⟩) (by assumption) ?_
      rotate_left
      · (intro wx hSw; (try dsimp only at hSw); go_simp) <;> with_reducible rfl
      simp only [Act.put, List.setIfInBounds_toArray, List.set_cons_zero, List.set_cons_succ]
      refine takeH_at 4 13 (v := ?_) rfl rfl (by kernel_rfl) (by kernel_rfl) (by kernel_rfl) (fun _ _ _ h => h) (Or.inl ⟨by rfl, ?_⟩) (by assumption) ?_
      rotate_left
      · (intro wx hSw; (try dsimp only at hSw); go_simp) <;> with_reducible rfl
      simp only [Act.put, List.setIfInBounds_toArray, List.set_cons_zero, List.set_cons_succ]
      refine takeH_at 5 14 (v := ?_) rfl rfl (by kernel_rfl) (by kernel_rfl) (by kernel_rfl) (fun _ _ _ h => h) (Or.inl ⟨by rfl, ?_⟩) (by assumption) ?_
      rotate_left
      · (intro wx hSw; (try dsimp only at hSw); go_simp) <;> with_reducible rfl
      simp only [Act.put, List.setIfInBounds_toArray, List.set_cons_zero, List.set_cons_succ]
      refine takeH_at 7 16 (v := ?_) rfl rfl (by kernel_rfl) (by kernel_rfl) (by kernel_rfl) (fun _ _ _ h => h) (Or.inl ⟨by rfl, ?_⟩) (by assumption) ?_
      rotate_left
      · (intro wx hSw; (try dsimp only at hSw); go_simp) <;> with_reducible rfl
      simp only [Act.put, List.setIfInBounds_toArray, List.set_cons_zero, List.set_cons_succ]
      refine takeH_at 8 17 (v := ?_) rfl rfl (by kernel_rfl) (by kernel_rfl) (by kernel_rfl) (fun _ _ _ h => h) (Or.inl ⟨by rfl, ?_⟩) (by assumption) ?_
      rotate_left
      · (intro wx hSw; (try dsimp only at hSw); go_simp) <;> with_reducible rfl
      simp only [Act.put, List.setIfInBounds_toArray, List.set_cons_zero, List.set_cons_succ]
      refine takeH_at 9 18 (v := ?_) rfl rfl (by kernel_rfl) (by kernel_rfl) (by kernel_rfl) (fun _ _ _ h => h) (Or.inl ⟨by rfl, ?_⟩) (by assumption) ?_
      rotate_left
      · (intro wx hSw; (try dsimp only at hSw); go_simp) <;> with_reducible rfl
      simp only [Act.put, List.setIfInBounds_toArray, List.set_cons_zero, List.set_cons_succ]
      refine takeH_at 10 19 (v := ?_) rfl rfl (by kernel_rfl) (by kernel_rfl) (by kernel_rfl) (fun _ _ _ h => h) (Or.inl ⟨by rfl, ?_⟩) (by assumption) ?_
      rotate_left
      · (intro wx hSw; (try dsimp only at hSw); go_simp) <;> with_reducible rfl
      simp only [Act.put, List.setIfInBounds_toArray, List.set_cons_zero, List.set_cons_succ]
      refine takeH_at 11 20 (v := ?_) rfl rfl (by kernel_rfl) (by kernel_rfl) (by kernel_rfl) (fun _ _ _ h => h) (Or.inl ⟨by rfl, ?_⟩) (by assumption) ?_
      rotate_left
      · (intro wx hSw; (try dsimp only at hSw); go_simp) <;> with_reducible rfl
      simp only [Act.put, List.setIfInBounds_toArray, List.set_cons_zero, List.set_cons_succ]
      refine wpAnyH_ready (rs := [6]) (by kernel_rfl) (by simp) ?_
      refine AllReadyH.cons rfl (fun K hK => ?_) ?_
      · go_simp
        refine (HDQ.out wr.drew).mono ?_
        rintro e w1 ⟨rfl, rfl⟩
        refine hK.out _ _ hS0 (fun hHeld1 => ?_)
        clear hK K
        refine wpAnyH_ready (rs := [12]) (by kernel_rfl) (by simp) ?_
        refine AllReadyH.cons rfl (fun K hK => ?_) ?_
        · go_simp
          refine (HDR.out wr.drew).mono ?_
          rintro e w1 ⟨rfl, rfl⟩
          refine hK.out _ _ hS0 (fun hHeld1 => ?_)
          clear hK K
          refine wpAnyH_ready (rs := [13]) (by kernel_rfl) (by simp) ?_
          refine AllReadyH.cons rfl (fun K hK => ?_) ?_
          · go_simp
            refine hK.out _ _ ?_ (fun hHeld2 => ?_)
            · exact (World.cell?_alloc_lt wr _ _ (by have := HSZ.out; show w.heap.size < _; omega)).trans hc
            clear hK K
            refine wpAnyH_ready (rs := [14]) (by kernel_rfl) (by simp) ?_
            refine AllReadyH.cons rfl (fun K hK => ?_) ?_
            · refine step_append_keep _ rfl 23 rfl (.tmp 9) (.tmp 22) _ _ rfl (w.heap.size + 1) 5 i0 _ 1 Try.underlying22 hi hz0 hz1 hz2 rfl u3 (2 * j) (bcells (textL (xs.take j))) rfl (hown.alloc _) (.slice (some ⟨wr.heap.size, 0, none⟩) 2 2) 2 (bcells [digL q, digL r]) rfl (src_two Try.underlying22 wr.drew 5 _ _ _ _ rfl rfl) (by simp only [maxLen]; omega) (by omega) (by have := HSZ.out; simp; omega) ?_
              intro v2 w2 ho2 hg2 hat2
              have hbl : Below (w.heap.size + 1) wr w2 := ((Below.refl (w.heap.size + 1) wr).drew.alloc (by have := HSZ.out; simp; omega) _).grown hg2 (by have := HSZ.out; simp; omega) (fun b hbb => (hown.lt b hbb).1)
              have hrel2 : RTextRel w xs v2 (.int .i64 ((j : Int) + 1)) w2 := by
                refine ⟨j + 1, by omega, by go_num, ?_, (hbl.block _ (by omega)).trans HROW.out, HB.out.trans (hbl.mono (by omega)), Nat.le_trans HSZ.out hbl.size⟩
                rw [HT.out, HH.out, bcells_append]
                exact ho2
              refine hK.out _ _ ((hbl.cell (p := ⟨w.heap.size, j, none⟩) (by show w.heap.size < w.heap.size + 1; omega)).trans hc) (fun hHeld3 => ?_)
              have HREL := Lib.hid hrel2
              clear hK K ho2 hg2 hat2 hHeld1 hHeld2 hHeld hbl hrel2 hown
              simp only [Act.put, List.setIfInBounds_toArray, List.set_cons_zero, List.set_cons_succ]
              refine takeH_at 15 3 (v := ?_) rfl rfl (by kernel_rfl) (by kernel_rfl) (by kernel_rfl) (fun _ _ _ h => h) (Or.inl ⟨by rfl, ?_⟩) (by assumption) ?_
              rotate_left
              · (intro wx hSw; (try dsimp only at hSw); go_simp) <;> with_reducible rfl
              simp only [Act.put, List.setIfInBounds_toArray, List.set_cons_zero, List.set_cons_succ]
              refine wpAnyH_done (by kernel_rfl) ?_ _
              refine NoPanic.normal ?_
              go_wp2
              go_roundw
              case rel => exact HREL.out
              case measure => simp [intOf]; omega
            exact AllReadyH.nil
          exact AllReadyH.nil
        exact AllReadyH.nil
      exact AllReadyH.nil
    · have hj20 : j = 20 := by omega
      have hjn : ¬ (j : Int) < 20 := by omega
      have hxl := HX.out
      have e : xs.take j = xs := by rw [hj20, ← hxl]; exact List.take_length
      rw [e] at hown
      have hcv := run_convert_own 22 9 5 Try.underlying22 Try.underlying5 Try.underlying9 hown
      have HB := Lib.hid hb
      clear e hxl hown hrow hb hj20
      go_wp2
      go_ret
      exact ⟨rfl, HB.out⟩
end Go.Proofs.Ytcoiaddjfeaciaa
