/- Contracts of Good, Bytes and Cmp of package addr. Conditions: hosts fit 32 bits, ports 16. -/
import Derived.Test.YtieeffebecghiaaDoorPAri
import Derived.Test.YtieeffebecghiaaDoorPArh
import Derived.Test.YtieeffebecghiaaDoorRda
import Derived.Test.YtieeffebecghiaaDoorShelf
namespace Go.Proofs.YtieeffebecghiaaDoor
set_option maxRecDepth 100000
set_option maxHeartbeats 1000000
open Go.RowKit Go.Lib Go.Great

theorem good_any (h p : Nat) (w : World) : Calls Tryd.prog 6 #[.agg (adr h p)] w fun e w' => e = .returned (.bool (goodB h p)) ∧ Below w.heap.size w w' := by
  unfold adr goodB
  have hb : Hid (Below w.heap.size w (w.alloc (.cells #[.int .u32 (h : Int), .int .u16 (p : Int)] 25))) := Lib.hid ((Below.refl _ w).alloc (Nat.le_refl _) _)
  by_cases h0 : h = 0
  · subst h0
    go_enter Tryd.func6, Tryd.ntmps6
    go_wp2
    go_ret
    exact ⟨by simp, hb.out⟩
  · have h0' : ¬ (h : Int) = 0 := by omega
    by_cases p0 : p = 0
    · subst p0
      go_enter Tryd.func6, Tryd.ntmps6
      go_wp2
      go_ret
      exact ⟨by simp, hb.out⟩
    · have p0' : ¬ (p : Int) = 0 := by omega
      go_enter Tryd.func6, Tryd.ntmps6
      go_wp2
      go_ret
      exact ⟨by simp [h0, p0], hb.out⟩
theorem bytes_any (h p : Nat) (hh : h < 4294967296) (hp : p < 65536) (w : World) : Calls Tryd.prog 10 #[.agg (adr h p)] w fun e w' => ∃ v, e = .returned v ∧ BsIs (adB h p) v w' ∧ Below w.heap.size w w' := by
  unfold adr
  have hb0 : Below w.heap.size w (w.alloc (.cells #[.int .u32 (h : Int), .int .u16 (p : Int)] 25)) := (Below.refl _ w).alloc (Nat.le_refl _) _
  obtain ⟨W0, hW0⟩ : ∃ W0, W0 = w.alloc (.cells #[.int .u32 (h : Int), .int .u16 (p : Int)] 25) := ⟨_, rfl⟩
  have h0 := heap_alloc_new w (.cells #[.int .u32 (h : Int), .int .u16 (p : Int)] 25)
  rw [← hW0] at hb0 h0
  have g0 := (Array.getElem?_eq_some_iff.1 h0).1
  have C0 : Hid (∀ W, Below W0.heap.size W0 W → W.cell? ⟨w.heap.size, 0, none⟩ = some (.int .u32 (h : Int))) := Lib.hid (fun W hW => by
    rw [cell_of_row W _ 0 _ 25 (0, 0) ((hW.block _ g0).trans h0)]; rfl)
  have C1 : Hid (∀ W, Below W0.heap.size W0 W → W.cell? ⟨w.heap.size, 1, none⟩ = some (.int .u16 (p : Int))) := Lib.hid (fun W hW => by
    rw [cell_of_row W _ 1 _ 25 (0, 0) ((hW.block _ g0).trans h0)]; rfl)
  have P1 : Hid (∀ W, Below W0.heap.size W0 W → Calls Tryd.prog 19 #[.slice none 0 0, .int .u64 (h : Int), .int .i64 4] W fun e w' => ∃ v, e = .returned v ∧ Below W0.heap.size W0 w' ∧ Below W.heap.size W w' ∧ BsIs (putB h 4) v w') := Lib.hid (fun W hW => by
    refine (put_yes none 0 h 4 [] W (.inl rfl) (by simp) (by omega) (by omega) (by omega)).mono ?_
    rintro e w' ⟨v, rfl, k1, k2⟩
    exact ⟨v, rfl, hW.trans (k2.mono hW.size), k2, BsIs.of_own k1⟩)
  have P2 : Hid (∀ u W, BsIs (putB h 4) u W → Below W0.heap.size W0 W → Calls Tryd.prog 19 #[u, .int .u64 (p : Int), .int .i64 2] W fun e w' => ∃ v, e = .returned v ∧ Below W0.heap.size W0 w' ∧ Below W.heap.size W w' ∧ BsIs (adB h p) v w') := Lib.hid (fun u W hu hW => by
    obtain ⟨A, c, rfl, _, hA⟩ := hu
    refine (put_yes A c p 2 (putB h 4) W hA (by rw [putB_length]; omega) (by omega) (by omega) (by omega)).mono ?_
    rintro e w' ⟨v, rfl, k1, k2⟩
    exact ⟨v, rfl, hW.trans (k2.mono hW.size), k2, BsIs.of_own k1⟩)
  have HSa : Hid (Below W0.heap.size W0 W0.drew) := Lib.hid (Below.refl _ _).drew
  have HW1 : Hid (IntKind.u64.wrap (h : Int) = (h : Int)) := Lib.hid (by simp only [IntKind.wrap, IntKind.bits, IntKind.signed]; simp; omega)
  have HW2 : Hid (IntKind.u64.wrap (p : Int) = (p : Int)) := Lib.hid (by simp only [IntKind.wrap, IntKind.bits, IntKind.signed]; simp; omega)
  have HW := Lib.hid hW0
  have HB0 := Lib.hid hb0
  clear hb0 hW0 h0 g0
  go_enter Tryd.func10, Tryd.ntmps10
  go_upto_region 1 with fail
  rw [← HW.out]
  refine wp_region_noPanic ?_
  refine wp_region_held_drew (S := fun w' => Below W0.heap.size W0 w') (by kernel_rfl) HSa.out (fun hHeld => ?_)
  refine takeH_at 0 3 (v := ?_) rfl rfl (by kernel_rfl) (by kernel_rfl) (by kernel_rfl) (fun _ _ _ h => h) (Or.inl ⟨by rfl, ?_⟩) (by assumption) ?_
  rotate_left
  · (intro wx hSw; clear hSw; go_simp) <;> with_reducible rfl
  simp only [Act.put, List.setIfInBounds_toArray, List.set_cons_zero, List.set_cons_succ]
  refine takeH_at 1 4 (v := ?_) rfl rfl (by kernel_rfl) (by kernel_rfl) (by kernel_rfl) (fun _ _ _ h => h) (Or.inl ⟨by rfl, ?_⟩) (by assumption) ?_
  rotate_left
  · (intro wx hSw; have c0 := C0.out wx hSw; clear hSw; go_simp) <;> with_reducible rfl
  simp only [Act.put, List.setIfInBounds_toArray, List.set_cons_zero, List.set_cons_succ]
  refine takeH_at 2 5 (v := ?_) rfl rfl (by kernel_rfl) (by kernel_rfl) (by kernel_rfl) (fun _ _ _ h => h) (Or.inl ⟨by rfl, ?_⟩) (by assumption) ?_
  rotate_left
  · (intro wx hSw; clear hSw; go_simp) <;> with_reducible rfl
  simp only [Act.put, List.setIfInBounds_toArray, List.set_cons_zero, List.set_cons_succ]
  rw [HW1.out]
  refine takeH_at 4 7 (v := ?_) rfl rfl (by kernel_rfl) (by kernel_rfl) (by kernel_rfl) (fun _ _ _ h => h) (Or.inl ⟨by rfl, ?_⟩) (by assumption) ?_
  rotate_left
  · (intro wx hSw; clear hSw; go_simp) <;> with_reducible rfl
  simp only [Act.put, List.setIfInBounds_toArray, List.set_cons_zero, List.set_cons_succ]
  refine takeH_at 5 8 (v := ?_) rfl rfl (by kernel_rfl) (by kernel_rfl) (by kernel_rfl) (fun _ _ _ h => h) (Or.inl ⟨by rfl, ?_⟩) (by assumption) ?_
  rotate_left
  · (intro wx hSw; have c0 := C1.out wx hSw; clear hSw; go_simp) <;> with_reducible rfl
  simp only [Act.put, List.setIfInBounds_toArray, List.set_cons_zero, List.set_cons_succ]
  refine takeH_at 6 9 (v := ?_) rfl rfl (by kernel_rfl) (by kernel_rfl) (by kernel_rfl) (fun _ _ _ h => h) (Or.inl ⟨by rfl, ?_⟩) (by assumption) ?_
  rotate_left
  · (intro wx hSw; clear hSw; go_simp) <;> with_reducible rfl
  simp only [Act.put, List.setIfInBounds_toArray, List.set_cons_zero, List.set_cons_succ]
  rw [HW2.out]
  refine single 3 6 rfl rfl (by kernel_rfl) (by rfl) (BsIs (putB h 4)) (looseR_call 19 rfl (enters_of Tryd.func19 (by kernel_rfl) rfl) _ (by simp only [List.map_toArray, List.map_cons, List.map_nil]; rfl) (P1.out _ hHeld)) ?_
  intro u wa hSa hba hu
  simp only [Act.put, List.setIfInBounds_toArray, List.set_cons_zero, List.set_cons_succ]
  refine single 7 10 rfl rfl (by kernel_rfl) (by rfl) (BsIs (adB h p)) (looseR_call 19 rfl (enters_of Tryd.func19 (by kernel_rfl) rfl) _ (by simp only [List.map_toArray, List.map_cons, List.map_nil]; rfl) (P2.out u wa hu hSa)) ?_
  intro v wb hSb hbb hv
  simp only [Act.put, List.setIfInBounds_toArray, List.set_cons_zero, List.set_cons_succ]
  refine takeH_at 8 2 (v := ?_) rfl rfl (by kernel_rfl) (by kernel_rfl) (by kernel_rfl) (fun _ _ _ h => h) (Or.inl ⟨by rfl, ?_⟩) (by assumption) ?_
  rotate_left
  · (intro wx hSw; clear hSw; go_simp) <;> with_reducible rfl
  simp only [Act.put, List.setIfInBounds_toArray, List.set_cons_zero, List.set_cons_succ]
  refine wpAnyH_done (by kernel_rfl) ?_ _
  refine NoPanic.normal ?_
  have HF := Lib.hid (HB0.out.trans (hSb.mono HB0.out.size))
  have HV := Lib.hid hv
  clear hSb hbb hv hu hSa hba P1 P2 C0 C1
  go_wp2
  go_ret
  exact ⟨_, rfl, HV.out, HF.out⟩

theorem getN_adB (h p : Nat) (hh : h < 4294967296) (hp : p < 65536) : getN (adB h p) = h * 65536 + p := by
  have e1 := adB_take h p hh
  have e2 := adB_drop h p hp
  have l := adB_length h p
  obtain ⟨a, b, c, d, e, f, he⟩ : ∃ a b c d e f, adB h p = [a, b, c, d, e, f] := by
    match adB h p, l with
    | [a, b, c, d, e, f], _ => exact ⟨a, b, c, d, e, f, rfl⟩
  rw [he] at e1 e2 ⊢
  simp [getN] at e1 e2 ⊢
  omega
theorem acmp_any (h p h' p' : Nat) (hh : h < 4294967296) (hp : p < 65536) (hh' : h' < 4294967296) (hp' : p' < 65536) (w : World) :
    Calls Tryd.prog 12 #[.agg (adr h p), .agg (adr h' p')] w fun e w' => e = .returned (.int .i64 (sgnN (getN (adB h p)) (getN (adB h' p')))) ∧ Below w.heap.size w w' := by
  rw [getN_adB h p hh hp, getN_adB h' p' hh' hp']
  have HB := Lib.hid (heap2 w (.cells (adr h p) 25) (.cells (adr h' p') 25)).2.2
  unfold adr at *
  have hq : (h = h' ∧ p = p' ∧ sgnN (h * 65536 + p) (h' * 65536 + p') = 0) ∨ (h < h' ∧ sgnN (h * 65536 + p) (h' * 65536 + p') = -1) ∨ (h = h' ∧ p < p' ∧ sgnN (h * 65536 + p) (h' * 65536 + p') = -1) ∨ (h' < h ∧ sgnN (h * 65536 + p) (h' * 65536 + p') = 1) ∨ (h = h' ∧ p' < p ∧ sgnN (h * 65536 + p) (h' * 65536 + p') = 1) := by
    unfold sgnN
    rcases Nat.lt_trichotomy h h' with a | a | a
    · exact .inr (.inl ⟨a, by rw [if_pos (by omega)]⟩)
    · rcases Nat.lt_trichotomy p p' with b | b | b
      · exact .inr (.inr (.inl ⟨a, b, by rw [if_pos (by omega)]⟩))
      · exact .inl ⟨a, b, by rw [if_neg (by omega), if_neg (by omega)]⟩
      · exact .inr (.inr (.inr (.inr ⟨a, b, by rw [if_neg (by omega), if_pos (by omega)]⟩)))
    · exact .inr (.inr (.inr (.inl ⟨a, by rw [if_neg (by omega), if_pos (by omega)]⟩)))
  rcases hq with ⟨rfl, rfl, hs⟩ | ⟨a, hs⟩ | ⟨rfl, b, hs⟩ | ⟨a, hs⟩ | ⟨rfl, b, hs⟩
  all_goals
    rw [hs]
    clear hs
  · go_enter Tryd.func12, Tryd.ntmps12
    go_wp2
    go_ret
    exact ⟨rfl, HB.out⟩
  · have n1 : ¬ (h : Int) = (h' : Int) := by omega
    have n2 : (h : Int) < (h' : Int) := by omega
    go_enter Tryd.func12, Tryd.ntmps12
    go_wp2
    go_ret
    exact ⟨rfl, HB.out⟩
  · have n1 : ¬ (p : Int) = (p' : Int) := by omega
    have n2 : (p : Int) < (p' : Int) := by omega
    go_enter Tryd.func12, Tryd.ntmps12
    go_wp2
    go_ret
    exact ⟨rfl, HB.out⟩
  · have n1 : ¬ (h : Int) = (h' : Int) := by omega
    have n2 : ¬ (h : Int) < (h' : Int) := by omega
    go_enter Tryd.func12, Tryd.ntmps12
    go_wp2
    go_ret
    exact ⟨rfl, HB.out⟩
  · have n1 : ¬ (p : Int) = (p' : Int) := by omega
    have n2 : ¬ (p : Int) < (p' : Int) := by omega
    go_enter Tryd.func12, Tryd.ntmps12
    go_wp2
    go_ret
    exact ⟨rfl, HB.out⟩
end Go.Proofs.YtieeffebecghiaaDoor
