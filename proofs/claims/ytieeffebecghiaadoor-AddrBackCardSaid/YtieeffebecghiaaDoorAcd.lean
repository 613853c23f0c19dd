/- Contract of lives of the statements on addr, and the walk of AddrTells, where the library's table of powers of ten reads as it is laid. Conditions: hosts fit 32 bits, ports 16. -/
import Derived.Test.YtieeffebecghiaaDoorAcc
namespace Go.Proofs.YtieeffebecghiaaDoor
set_option maxRecDepth 100000
set_option maxHeartbeats 4000000
open Go.RowKit Go.Lib Go.Great

theorem looseR_cv {o : Oper} {a : Act} {w : World} {S : World → Prop} {xs : List UInt8} {v : Value} (x : Operand) (ho : o.op = .convert 31 9 x) (hx : a.eval x = v) (hv : BsIs xs v w) (hS : S w) : LooseR Tryd.prog w S (fun u _ => u = .string (bsA xs)) ((execOp a.eval o).run Tryd.prog w) := by
  obtain ⟨A, c, rfl, _, hA⟩ := hv
  have hr := run_convert_bat (P := Tryd.prog) 31 9 5 c Tryd.underlying31 Tryd.underlying5 Tryd.underlying9 hA
  have : (execOp a.eval o).run Tryd.prog w = .ok (.value (.string (bstr xs))) w := by
    unfold execOp
    simp only [ho, hx, Sem.run_bind, hr, Result.andThen_ok, Sem.run_pure]
  rw [this]
  exact ⟨hS, Below.refl _ _, rfl⟩
theorem text_lives : bsA (adT 167772161 80) = ⟨#[49, 48, 46, 48, 46, 48, 46, 49, 58, 56, 48]⟩ := by
  have e0 : ((adB 167772161 80).getD 0 0).toNat = 10 := by decide +kernel
  have e1 : ((adB 167772161 80).getD 1 0).toNat = 0 := by decide +kernel
  have e2 : ((adB 167772161 80).getD 2 0).toNat = 0 := by decide +kernel
  have e3 : ((adB 167772161 80).getD 3 0).toNat = 1 := by decide +kernel
  have d80 : decL 80 = [56, 48] := by rw [decL_big (by omega), decL_small (by omega)]; rfl
  have d10 : decL 10 = [49, 48] := by rw [decL_big (by omega), decL_small (by omega)]; rfl
  have d0 : decL 0 = [48] := by rw [decL_small (by omega)]; rfl
  have d1 : decL 1 = [49] := by rw [decL_small (by omega)]; rfl
  rw [adT_nums, e0, e1, e2, e3]
  simp [textN, d80, d10, d0, d1, bsA]
theorem alives_any (w : World) (ht : Tab w) : Calls Tryd.prog 14 #[] w fun e w' => e = .returned (.bool true) ∧ Below w.heap.size w w' := by
  have C8 : Hid (∀ W, Tab W → Calls Tryd.prog 8 #[.agg #[.int .u32 167772161, .int .u16 80]] W fun e w' => e = .returned (.string ⟨#[49, 48, 46, 48, 46, 48, 46, 49, 58, 56, 48]⟩) ∧ Below W.heap.size W w') := Lib.hid (fun W h => (text_any 167772161 80 (by omega) (by omega) W h).mono (by rintro e w' ⟨rfl, q⟩; exact ⟨by rw [text_lives], q⟩))
  have C6 : Hid (∀ W, Calls Tryd.prog 6 #[.agg #[.int .u32 167772161, .int .u16 80]] W fun e w' => e = .returned (.bool true) ∧ Below W.heap.size W w') := Lib.hid (fun W => (good_any 167772161 80 W).mono (by rintro e w' ⟨rfl, q⟩; exact ⟨rfl, q⟩))
  have C0 : Hid (∀ W, Calls Tryd.prog 6 #[.agg #[.int .u32 0, .int .u16 0]] W fun e w' => e = .returned (.bool false) ∧ Below W.heap.size W w') := Lib.hid (fun W => (good_any 0 0 W).mono (by rintro e w' ⟨rfl, q⟩; exact ⟨rfl, q⟩))
  have n1 := heap_alloc_new w (.cells #[.int .u32 167772161, .int .u16 80] 25)
  have hb0 : Below w.heap.size w (w.alloc (.cells #[.int .u32 167772161, .int .u16 80] 25)) := (Below.refl _ w).alloc (Nat.le_refl _) _
  obtain ⟨W0, hW0⟩ : ∃ W0, W0 = w.alloc (.cells #[.int .u32 167772161, .int .u16 80] 25) := ⟨_, rfl⟩
  rw [← hW0] at n1 hb0
  have HL : Hid (∀ W, Below W0.heap.size W0 W → (loadVar 25 ⟨w.heap.size, 0, none⟩).run Tryd.prog W = .ok (.agg #[.int .u32 167772161, .int .u16 80]) W) := Lib.hid (fun W hW => run_loadVar_mid W w.heap.size 0 25 [.int .u32 167772161, .int .u16 80] _ (row_range (cs := [.int .u32 167772161, .int .u16 80]) ((hW.block _ (Array.getElem?_eq_some_iff.1 n1).1).trans n1)) Tryd.underlying25 rfl size25)
  have HB0 := Lib.hid hb0
  have HT : Hid (Tab W0) := Lib.hid (ht.on hb0)
  have HW := Lib.hid hW0
  have HB : Below W0.heap.size W0 W0 := Below.refl _ _
  clear n1 hb0 hW0 ht
  go_enter Tryd.func14, Tryd.ntmps14
  go_upto_region 2 with fail
  rw [← HW.out]
  clear HW
  go_wp2_with (first
    | ((with_reducible refine wpList_loadV (op := ⟨some 3, _, _, _, _, _⟩) rfl 25 (.tmp 1) rfl _ ?_ _ (HL.out _ HB) ?_); rfl)
    | ((with_reducible refine wpList_loadG (op := ⟨some 7, _, _, _, _, _⟩) rfl 25 (.tmp 1) rfl _ ?_ _ (HL.out _ HB) ?_); rfl)
    | (go_at_call 8; (with_reducible refine (C8.out _ HT.out).mono ?_); rintro e w1 ⟨rfl, hb1⟩; replace HB := HB.trans (hb1.mono HB.size); clear hb1)
    | (go_at_call 6; (with_reducible refine (C6.out _).mono ?_); rintro e w2 ⟨rfl, hb1⟩; replace HB := HB.trans (hb1.mono HB.size); clear hb1)
    | (go_at_call 6; (with_reducible refine (C0.out _).mono ?_); rintro e w3 ⟨rfl, hb1⟩; replace HB := HB.trans (hb1.mono HB.size); clear hb1))
  go_ret
  exact ⟨rfl, HB0.out.trans (HB.mono HB0.out.size)⟩

theorem atells_walk (h p h' p' : Nat) (hh : h < 4294967296) (hp : p < 65536) (hh' : h' < 4294967296) (hp' : p' < 65536) (w : World) (ht : Tab w) :
    Calls Tryd.prog 3 #[.agg (adr h p), .agg (adr h' p')] w fun e w' => e = .returned (.bool true) ∧ Below w.heap.size w w' := by
  obtain ⟨k1, k2, hb0⟩ := heap2 w (.cells (adr h p) 25) (.cells (adr h' p') 25)
  obtain ⟨W0, hW0⟩ : ∃ W0, W0 = (w.alloc (.cells (adr h p) 25)).alloc (.cells (adr h' p') 25) := ⟨_, rfl⟩
  rw [← hW0] at k1 k2 hb0
  have ldA : ∀ (g a b : Nat), W0.heap[g]? = some (.cells (adr a b) 25 (0, 0)) → Hid (∀ W, Below W0.heap.size W0 W → (loadVar 25 ⟨g, 0, none⟩).run Tryd.prog W = .ok (.agg (adr a b)) W) := fun g a b hr => Lib.hid (fun W hW => run_loadVar_mid W g 0 25 [.int .u32 (a : Int), .int .u16 (b : Int)] _ (row_range (cs := [.int .u32 (a : Int), .int .u16 (b : Int)]) ((hW.block _ (Array.getElem?_eq_some_iff.1 hr).1).trans hr)) Tryd.underlying25 rfl size25)
  have L2 := ldA _ _ _ k1
  have L3 := ldA _ _ _ k2
  have hT : ∀ W, Below W0.heap.size W0 W → Tab W := fun W hW => (ht.on hb0).on hW
  have F6 : Hid (∀ W, Below W0.heap.size W0 W → Calls Tryd.prog 6 #[.agg (adr h p)] W fun e w' => ∃ v, e = .returned v ∧ Below W0.heap.size W0 w' ∧ Below W.heap.size W w' ∧ v = .bool (goodB h p)) := Lib.hid (fun W hW => (good_any h p W).mono (by rintro e w' ⟨rfl, q⟩; exact ⟨_, rfl, hW.trans (q.mono hW.size), q, rfl⟩))
  have F7 : Hid (∀ W, Below W0.heap.size W0 W → Calls Tryd.prog 7 #[.agg (adr h p)] W fun e w' => ∃ v, e = .returned v ∧ Below W0.heap.size W0 w' ∧ Below W.heap.size W w' ∧ v = .bool (goodB h p)) := Lib.hid (fun W hW => (rgood_any h p W).mono (by rintro e w' ⟨rfl, q⟩; exact ⟨_, rfl, hW.trans (q.mono hW.size), q, rfl⟩))
  have F8 : Hid (∀ W, Below W0.heap.size W0 W → Calls Tryd.prog 8 #[.agg (adr h p)] W fun e w' => ∃ v, e = .returned v ∧ Below W0.heap.size W0 w' ∧ Below W.heap.size W w' ∧ v = .string (bsA (adT h p))) := Lib.hid (fun W hW => (text_any h p hh hp W (hT W hW)).mono (by rintro e w' ⟨rfl, q⟩; exact ⟨_, rfl, hW.trans (q.mono hW.size), q, rfl⟩))
  have F9 : Hid (∀ W, Below W0.heap.size W0 W → Calls Tryd.prog 9 #[.agg (adr h p)] W fun e w' => ∃ v, e = .returned v ∧ Below W0.heap.size W0 w' ∧ Below W.heap.size W w' ∧ v = .string (bsA (adT h p))) := Lib.hid (fun W hW => (rtext_any h p hh hp W).mono (by rintro e w' ⟨rfl, q⟩; exact ⟨_, rfl, hW.trans (q.mono hW.size), q, rfl⟩))
  have F12 : Hid (∀ W, Below W0.heap.size W0 W → Calls Tryd.prog 12 #[.agg (adr h p), .agg (adr h' p')] W fun e w' => ∃ v, e = .returned v ∧ Below W0.heap.size W0 w' ∧ Below W.heap.size W w' ∧ v = (.int .i64 (sgnN (getN (adB h p)) (getN (adB h' p'))))) := Lib.hid (fun W hW => (acmp_any h p h' p' hh hp hh' hp' W).mono (by rintro e w' ⟨rfl, q⟩; exact ⟨_, rfl, hW.trans (q.mono hW.size), q, rfl⟩))
  have F13 : Hid (∀ W, Below W0.heap.size W0 W → Calls Tryd.prog 13 #[.agg (adr h p), .agg (adr h' p')] W fun e w' => ∃ v, e = .returned v ∧ Below W0.heap.size W0 w' ∧ Below W.heap.size W w' ∧ v = (.int .i64 (sgnN (getN (adB h p)) (getN (adB h' p'))))) := Lib.hid (fun W hW => (racmp_any h p h' p' hh hp hh' hp' W).mono (by rintro e w' ⟨rfl, q⟩; exact ⟨_, rfl, hW.trans (q.mono hW.size), q, rfl⟩))
  have F14 : Hid (∀ W, Below W0.heap.size W0 W → Calls Tryd.prog 14 #[] W fun e w' => ∃ v, e = .returned v ∧ Below W0.heap.size W0 w' ∧ Below W.heap.size W w' ∧ v = .bool true) := Lib.hid (fun W hW => (alives_any W (hT W hW)).mono (by rintro e w' ⟨rfl, q⟩; exact ⟨_, rfl, hW.trans (q.mono hW.size), q, rfl⟩))
  have F10 : Hid (∀ W, Below W0.heap.size W0 W → Calls Tryd.prog 10 #[.agg (adr h p)] W fun e w' => ∃ v, e = .returned v ∧ Below W0.heap.size W0 w' ∧ Below W.heap.size W w' ∧ BsIs (adB h p) v w') := Lib.hid (fun W hW => (bytes_any h p hh hp W).mono (by rintro e w' ⟨v, rfl, k, q⟩; exact ⟨_, rfl, hW.trans (q.mono hW.size), q, k⟩))
  have F11 : Hid (∀ W, Below W0.heap.size W0 W → Calls Tryd.prog 11 #[.agg (adr h p)] W fun e w' => ∃ v, e = .returned v ∧ Below W0.heap.size W0 w' ∧ Below W.heap.size W w' ∧ BsIs (adB h p) v w') := Lib.hid (fun W hW => (rbytes_any h p hh hp W).mono (by rintro e w' ⟨v, rfl, k, q⟩; exact ⟨_, rfl, hW.trans (q.mono hW.size), q, k⟩))
  have HW := Lib.hid hW0
  have HB0 := Lib.hid hb0
  have hS0 : Below W0.heap.size W0 W0.drew := (Below.refl _ W0).drew
  generalize adr h p = AA at *
  generalize adr h' p' = AB at *
  generalize goodB h p = gb at *
  generalize bsA (adT h p) = TT at *
  generalize sgnN (getN (adB h p)) (getN (adB h' p')) = cc at *
  clear k1 k2 hb0 hW0 ldA hT ht hh hp hh' hp'
  have hgb : (gb == gb) = true := by simp
  go_enter Tryd.func3, Tryd.ntmps3
  go_upto_region 1 with fail
  rw [← HW.out]
  clear HW
  refine wp_region_noPanic ?_
  refine wp_region_held_drew (S := fun w' => Below W0.heap.size W0 w') (by kernel_rfl) hS0 (fun hHeld => ?_)
  refine takeH_at 0 5 (v := .agg AA) rfl rfl (by kernel_rfl) (by kernel_rfl) (by kernel_rfl) (fun _ _ _ h => h) (yieldsIf_loadS (by rfl) 25 (.tmp 2) rfl _ rfl _ L2.out) (by assumption) ?_
  simp only [Act.put, List.setIfInBounds_toArray, List.set_cons_zero, List.set_cons_succ]
  refine takeH_at 2 7 (v := .agg AA) rfl rfl (by kernel_rfl) (by kernel_rfl) (by kernel_rfl) (fun _ _ _ h => h) (yieldsIf_loadS (by rfl) 25 (.tmp 2) rfl _ rfl _ L2.out) (by assumption) ?_
  simp only [Act.put, List.setIfInBounds_toArray, List.set_cons_zero, List.set_cons_succ]
  refine single 1 6 rfl rfl (by kernel_rfl) (by rfl) (fun v _ => v = .bool gb) (looseR_call 6 rfl (enters_of Tryd.func6 (by kernel_rfl) rfl) _ (by simp only [List.map_toArray, List.map_cons, List.map_nil]; rfl) (F6.out _ hHeld)) ?_
  intro v6 wa hSwa hbwa hewa
  subst hewa
  simp only [Act.put, List.setIfInBounds_toArray, List.set_cons_zero, List.set_cons_succ]
  refine single 3 8 rfl rfl (by kernel_rfl) (by rfl) (fun v _ => v = .bool gb) (looseR_call 7 rfl (enters_of Tryd.func7 (by kernel_rfl) rfl) _ (by simp only [List.map_toArray, List.map_cons, List.map_nil]; rfl) (F7.out _ hSwa)) ?_
  intro v8 wb hSwb hbwb hewb
  subst hewb
  simp only [Act.put, List.setIfInBounds_toArray, List.set_cons_zero, List.set_cons_succ]
  refine takeH_at 4 9 (v := ?_) rfl rfl (by kernel_rfl) (by kernel_rfl) (by kernel_rfl) (fun _ _ _ h => h) (Or.inl ⟨by rfl, ?_⟩) (by assumption) ?_
  rotate_left
  · (intro wx hSw; clear hSw; go_simp) <;> with_reducible rfl
  simp only [Act.put, List.setIfInBounds_toArray, List.set_cons_zero, List.set_cons_succ]
  refine takeH_at 5 10 (v := ?_) rfl rfl (by kernel_rfl) (by kernel_rfl) (by kernel_rfl) (fun _ _ _ h => h) (Or.inl ⟨by rfl, ?_⟩) (by assumption) ?_
  rotate_left
  · (intro wx hSw; clear hSw; go_simp) <;> with_reducible rfl
  simp only [Act.put, List.setIfInBounds_toArray, List.set_cons_zero, List.set_cons_succ]
  refine takeH_at 6 11 (v := .agg AA) rfl rfl (by kernel_rfl) (by kernel_rfl) (by kernel_rfl) (fun _ _ _ h => h) (yieldsIf_loadS (by rfl) 25 (.tmp 2) rfl _ rfl _ L2.out) (by assumption) ?_
  simp only [Act.put, List.setIfInBounds_toArray, List.set_cons_zero, List.set_cons_succ]
  refine takeH_at 8 13 (v := .agg AA) rfl rfl (by kernel_rfl) (by kernel_rfl) (by kernel_rfl) (fun _ _ _ h => h) (yieldsIf_loadS (by rfl) 25 (.tmp 2) rfl _ rfl _ L2.out) (by assumption) ?_
  simp only [Act.put, List.setIfInBounds_toArray, List.set_cons_zero, List.set_cons_succ]
  refine single 7 12 rfl rfl (by kernel_rfl) (by rfl) (fun v _ => v = .string TT) (looseR_call 8 rfl (enters_of Tryd.func8 (by kernel_rfl) rfl) _ (by simp only [List.map_toArray, List.map_cons, List.map_nil]; rfl) (F8.out _ hSwb)) ?_
  intro v12 wc hSwc hbwc hewc
  subst hewc
  simp only [Act.put, List.setIfInBounds_toArray, List.set_cons_zero, List.set_cons_succ]
  refine single 9 14 rfl rfl (by kernel_rfl) (by rfl) (fun v _ => v = .string TT) (looseR_call 9 rfl (enters_of Tryd.func9 (by kernel_rfl) rfl) _ (by simp only [List.map_toArray, List.map_cons, List.map_nil]; rfl) (F9.out _ hSwc)) ?_
  intro v14 wd hSwd hbwd hewd
  subst hewd
  simp only [Act.put, List.setIfInBounds_toArray, List.set_cons_zero, List.set_cons_succ]
  refine takeH_at 10 15 (v := ?_) rfl rfl (by kernel_rfl) (by kernel_rfl) (by kernel_rfl) (fun _ _ _ h => h) (Or.inl ⟨by rfl, ?_⟩) (by assumption) ?_
  rotate_left
  · (intro wx hSw; clear hSw; go_simp) <;> with_reducible rfl
  simp only [Act.put, List.setIfInBounds_toArray, List.set_cons_zero, List.set_cons_succ]
  refine takeH_at 11 16 (v := ?_) rfl rfl (by kernel_rfl) (by kernel_rfl) (by kernel_rfl) (fun _ _ _ h => h) (Or.inl ⟨by rfl, ?_⟩) (by assumption) ?_
  rotate_left
  · (intro wx hSw; clear hSw; go_simp) <;> with_reducible rfl
  simp only [Act.put, List.setIfInBounds_toArray, List.set_cons_zero, List.set_cons_succ]
  refine takeH_at 12 17 (v := ?_) rfl rfl (by kernel_rfl) (by kernel_rfl) (by kernel_rfl) (fun _ _ _ h => h) (Or.inl ⟨by rfl, ?_⟩) (by assumption) ?_
  rotate_left
  · (intro wx hSw; clear hSw; go_simp) <;> with_reducible rfl
  simp only [Act.put, List.setIfInBounds_toArray, List.set_cons_zero, List.set_cons_succ]
  refine takeH_at 13 18 (v := .agg AA) rfl rfl (by kernel_rfl) (by kernel_rfl) (by kernel_rfl) (fun _ _ _ h => h) (yieldsIf_loadS (by rfl) 25 (.tmp 2) rfl _ rfl _ L2.out) (by assumption) ?_
  simp only [Act.put, List.setIfInBounds_toArray, List.set_cons_zero, List.set_cons_succ]
  refine takeH_at 16 21 (v := .agg AA) rfl rfl (by kernel_rfl) (by kernel_rfl) (by kernel_rfl) (fun _ _ _ h => h) (yieldsIf_loadS (by rfl) 25 (.tmp 2) rfl _ rfl _ L2.out) (by assumption) ?_
  simp only [Act.put, List.setIfInBounds_toArray, List.set_cons_zero, List.set_cons_succ]
  refine single 14 19 rfl rfl (by kernel_rfl) (by rfl) (fun v w' => BsIs (adB h p) v w') (looseR_call 10 rfl (enters_of Tryd.func10 (by kernel_rfl) rfl) _ (by simp only [List.map_toArray, List.map_cons, List.map_nil]; rfl) (F10.out _ hSwd)) ?_
  intro v19 we hSwe hbwe hewe
  simp only [Act.put, List.setIfInBounds_toArray, List.set_cons_zero, List.set_cons_succ]
  refine wpAnyH_ready (rs := [15, 17]) (by kernel_rfl) (by simp) (AllReadyH.cons rfl (fun K hK => ?_) (AllReadyH.cons rfl (fun K hK => ?_) AllReadyH.nil))
  · rw [if_pos (by rfl)]
    refine LooseR.wpD (S := fun w' => Below W0.heap.size W0 w') (X := fun v _ => v = .string (bsA (adB h p))) 20 rfl (looseR_cv (v := v19) (.tmp 19) (by rfl) (by rfl) hewe hSwe) (fun v20 wf hSwf hbwf hewf => hK.out _ _ hSwf (fun hHwf => ?_))
    subst hewf
    simp only [Act.put, List.setIfInBounds_toArray, List.set_cons_zero, List.set_cons_succ]
    refine single 17 22 rfl rfl (by kernel_rfl) (by rfl) (fun v w' => BsIs (adB h p) v w') (looseR_call 11 rfl (enters_of Tryd.func11 (by kernel_rfl) rfl) _ (by simp only [List.map_toArray, List.map_cons, List.map_nil]; rfl) (F11.out _ hSwf)) ?_
    intro v22 wg hSwg hbwg hewg
    simp only [Act.put, List.setIfInBounds_toArray, List.set_cons_zero, List.set_cons_succ]
    refine single 18 23 rfl rfl (by kernel_rfl) (by rfl) (fun v _ => v = .string (bsA (adB h p))) (looseR_cv (v := v22) (.tmp 22) (by rfl) (by rfl) hewg hSwg) ?_
    intro v23 wh hSwh hbwh hewh
    subst hewh
    simp only [Act.put, List.setIfInBounds_toArray, List.set_cons_zero, List.set_cons_succ]
    generalize bsA (adB h p) = BB
    refine takeH_at 19 24 (v := ?_) rfl rfl (by kernel_rfl) (by kernel_rfl) (by kernel_rfl) (fun _ _ _ h => h) (Or.inl ⟨by rfl, ?_⟩) (by assumption) ?_
    rotate_left
    · (intro wx hSw; clear hSw; go_simp) <;> with_reducible rfl
    simp only [Act.put, List.setIfInBounds_toArray, List.set_cons_zero, List.set_cons_succ]
    refine takeH_at 20 25 (v := ?_) rfl rfl (by kernel_rfl) (by kernel_rfl) (by kernel_rfl) (fun _ _ _ h => h) (Or.inl ⟨by rfl, ?_⟩) (by assumption) ?_
    rotate_left
    · (intro wx hSw; clear hSw; go_simp) <;> with_reducible rfl
    simp only [Act.put, List.setIfInBounds_toArray, List.set_cons_zero, List.set_cons_succ]
    refine takeH_at 21 26 (v := ?_) rfl rfl (by kernel_rfl) (by kernel_rfl) (by kernel_rfl) (fun _ _ _ h => h) (Or.inl ⟨by rfl, ?_⟩) (by assumption) ?_
    rotate_left
    · (intro wx hSw; clear hSw; go_simp) <;> with_reducible rfl
    simp only [Act.put, List.setIfInBounds_toArray, List.set_cons_zero, List.set_cons_succ]
    refine takeH_at 22 27 (v := .agg AA) rfl rfl (by kernel_rfl) (by kernel_rfl) (by kernel_rfl) (fun _ _ _ h => h) (yieldsIf_loadS (by rfl) 25 (.tmp 2) rfl _ rfl _ L2.out) (by assumption) ?_
    simp only [Act.put, List.setIfInBounds_toArray, List.set_cons_zero, List.set_cons_succ]
    refine takeH_at 23 28 (v := .agg AB) rfl rfl (by kernel_rfl) (by kernel_rfl) (by kernel_rfl) (fun _ _ _ h => h) (yieldsIf_loadS (by rfl) 25 (.tmp 3) rfl _ rfl _ L3.out) (by assumption) ?_
    simp only [Act.put, List.setIfInBounds_toArray, List.set_cons_zero, List.set_cons_succ]
    refine takeH_at 25 30 (v := .agg AA) rfl rfl (by kernel_rfl) (by kernel_rfl) (by kernel_rfl) (fun _ _ _ h => h) (yieldsIf_loadS (by rfl) 25 (.tmp 2) rfl _ rfl _ L2.out) (by assumption) ?_
    simp only [Act.put, List.setIfInBounds_toArray, List.set_cons_zero, List.set_cons_succ]
    refine takeH_at 26 31 (v := .agg AB) rfl rfl (by kernel_rfl) (by kernel_rfl) (by kernel_rfl) (fun _ _ _ h => h) (yieldsIf_loadS (by rfl) 25 (.tmp 3) rfl _ rfl _ L3.out) (by assumption) ?_
    simp only [Act.put, List.setIfInBounds_toArray, List.set_cons_zero, List.set_cons_succ]
    refine single 24 29 rfl rfl (by kernel_rfl) (by rfl) (fun v _ => v = .int .i64 cc) (looseR_call 12 rfl (enters_of Tryd.func12 (by kernel_rfl) rfl) _ (by simp only [List.map_toArray, List.map_cons, List.map_nil]; rfl) (F12.out _ hSwh)) ?_
    intro v29 wp hSwp hbwp hewp
    subst hewp
    simp only [Act.put, List.setIfInBounds_toArray, List.set_cons_zero, List.set_cons_succ]
    refine single 27 32 rfl rfl (by kernel_rfl) (by rfl) (fun v _ => v = .int .i64 cc) (looseR_call 13 rfl (enters_of Tryd.func13 (by kernel_rfl) rfl) _ (by simp only [List.map_toArray, List.map_cons, List.map_nil]; rfl) (F13.out _ hSwp)) ?_
    intro v32 wq hSwq hbwq hewq
    subst hewq
    simp only [Act.put, List.setIfInBounds_toArray, List.set_cons_zero, List.set_cons_succ]
    refine takeH_at 28 33 (v := ?_) rfl rfl (by kernel_rfl) (by kernel_rfl) (by kernel_rfl) (fun _ _ _ h => h) (Or.inl ⟨by rfl, ?_⟩) (by assumption) ?_
    rotate_left
    · (intro wx hSw; clear hSw; go_simp) <;> with_reducible rfl
    simp only [Act.put, List.setIfInBounds_toArray, List.set_cons_zero, List.set_cons_succ]
    refine takeH_at 29 34 (v := ?_) rfl rfl (by kernel_rfl) (by kernel_rfl) (by kernel_rfl) (fun _ _ _ h => h) (Or.inl ⟨by rfl, ?_⟩) (by assumption) ?_
    rotate_left
    · (intro wx hSw; clear hSw; go_simp) <;> with_reducible rfl
    simp only [Act.put, List.setIfInBounds_toArray, List.set_cons_zero, List.set_cons_succ]
    refine takeH_at 30 35 (v := ?_) rfl rfl (by kernel_rfl) (by kernel_rfl) (by kernel_rfl) (fun _ _ _ h => h) (Or.inl ⟨by rfl, ?_⟩) (by assumption) ?_
    rotate_left
    · (intro wx hSw; clear hSw; go_simp) <;> with_reducible rfl
    simp only [Act.put, List.setIfInBounds_toArray, List.set_cons_zero, List.set_cons_succ]
    refine single 31 36 rfl rfl (by kernel_rfl) (by rfl) (fun v _ => v = .bool true) (looseR_call 14 rfl (enters_of Tryd.func14 (by kernel_rfl) rfl) _ (by simp only [List.map_toArray, List.map_nil]) (F14.out _ hSwq)) ?_
    intro v36 wr hSwr hbwr hewr
    subst hewr
    simp only [Act.put, List.setIfInBounds_toArray, List.set_cons_zero, List.set_cons_succ]
    refine takeH_at 32 37 (v := ?_) rfl rfl (by kernel_rfl) (by kernel_rfl) (by kernel_rfl) (fun _ _ _ h => h) (Or.inl ⟨by rfl, ?_⟩) (by assumption) ?_
    rotate_left
    · (intro wx hSw; clear hSw; go_simp) <;> with_reducible rfl
    simp only [Act.put, List.setIfInBounds_toArray, List.set_cons_zero, List.set_cons_succ]
    refine takeH_at 33 4 (v := ?_) rfl rfl (by kernel_rfl) (by kernel_rfl) (by kernel_rfl) (fun _ _ _ h => h) (Or.inl ⟨by rfl, ?_⟩) (by assumption) ?_
    rotate_left
    · (intro wx hSw; clear hSw; go_simp) <;> with_reducible rfl
    simp only [Act.put, List.setIfInBounds_toArray, List.set_cons_zero, List.set_cons_succ]
    refine wpAnyH_done (by kernel_rfl) ?_ _
    refine NoPanic.normal ?_
    have HF := Lib.hid (HB0.out.trans (hSwr.mono HB0.out.size))
    clear hSwr hSwq hSwp hSwa hSwb hSwc hSwd hSwe
    go_wp2
    go_ret
    exact ⟨rfl, HF.out⟩
  · rw [if_pos (by rfl)]
    refine LooseR.wpD (S := fun w' => Below W0.heap.size W0 w') (X := fun v w' => BsIs (adB h p) v w') 22 rfl (looseR_call 11 rfl (enters_of Tryd.func11 (by kernel_rfl) rfl) _ (by simp only [List.map_toArray, List.map_cons, List.map_nil]; rfl) (F11.out _ hSwe)) (fun v22 wf hSwf hbwf hewf => hK.out _ _ hSwf (fun hHwf => ?_))
    simp only [Act.put, List.setIfInBounds_toArray, List.set_cons_zero, List.set_cons_succ]
    have hk19 := BsIs.keep _ _ _ hbwf hewe
    refine wpAnyH_ready (rs := [15, 18]) (by kernel_rfl) (by simp) (AllReadyH.cons rfl (fun K hK => ?_) (AllReadyH.cons rfl (fun K hK => ?_) AllReadyH.nil))
    · rw [if_pos (by rfl)]
      refine LooseR.wpD (S := fun w' => Below W0.heap.size W0 w') (X := fun v _ => v = .string (bsA (adB h p))) 20 rfl (looseR_cv (v := v19) (.tmp 19) (by rfl) (by rfl) hk19 hSwf) (fun v20 wg hSwg hbwg hewg => hK.out _ _ hSwg (fun hHwg => ?_))
      subst hewg
      simp only [Act.put, List.setIfInBounds_toArray, List.set_cons_zero, List.set_cons_succ]
      have hk22 := BsIs.keep _ _ _ hbwg hewf
      refine single 18 23 rfl rfl (by kernel_rfl) (by rfl) (fun v _ => v = .string (bsA (adB h p))) (looseR_cv (v := v22) (.tmp 22) (by rfl) (by rfl) hk22 hSwg) ?_
      intro v23 wh hSwh hbwh hewh
      subst hewh
      simp only [Act.put, List.setIfInBounds_toArray, List.set_cons_zero, List.set_cons_succ]
      generalize bsA (adB h p) = BB
      refine takeH_at 19 24 (v := ?_) rfl rfl (by kernel_rfl) (by kernel_rfl) (by kernel_rfl) (fun _ _ _ h => h) (Or.inl ⟨by rfl, ?_⟩) (by assumption) ?_
      rotate_left
      · (intro wx hSw; clear hSw; go_simp) <;> with_reducible rfl
      simp only [Act.put, List.setIfInBounds_toArray, List.set_cons_zero, List.set_cons_succ]
      refine takeH_at 20 25 (v := ?_) rfl rfl (by kernel_rfl) (by kernel_rfl) (by kernel_rfl) (fun _ _ _ h => h) (Or.inl ⟨by rfl, ?_⟩) (by assumption) ?_
      rotate_left
      · (intro wx hSw; clear hSw; go_simp) <;> with_reducible rfl
      simp only [Act.put, List.setIfInBounds_toArray, List.set_cons_zero, List.set_cons_succ]
      refine takeH_at 21 26 (v := ?_) rfl rfl (by kernel_rfl) (by kernel_rfl) (by kernel_rfl) (fun _ _ _ h => h) (Or.inl ⟨by rfl, ?_⟩) (by assumption) ?_
      rotate_left
      · (intro wx hSw; clear hSw; go_simp) <;> with_reducible rfl
      simp only [Act.put, List.setIfInBounds_toArray, List.set_cons_zero, List.set_cons_succ]
      refine takeH_at 22 27 (v := .agg AA) rfl rfl (by kernel_rfl) (by kernel_rfl) (by kernel_rfl) (fun _ _ _ h => h) (yieldsIf_loadS (by rfl) 25 (.tmp 2) rfl _ rfl _ L2.out) (by assumption) ?_
      simp only [Act.put, List.setIfInBounds_toArray, List.set_cons_zero, List.set_cons_succ]
      refine takeH_at 23 28 (v := .agg AB) rfl rfl (by kernel_rfl) (by kernel_rfl) (by kernel_rfl) (fun _ _ _ h => h) (yieldsIf_loadS (by rfl) 25 (.tmp 3) rfl _ rfl _ L3.out) (by assumption) ?_
      simp only [Act.put, List.setIfInBounds_toArray, List.set_cons_zero, List.set_cons_succ]
      refine takeH_at 25 30 (v := .agg AA) rfl rfl (by kernel_rfl) (by kernel_rfl) (by kernel_rfl) (fun _ _ _ h => h) (yieldsIf_loadS (by rfl) 25 (.tmp 2) rfl _ rfl _ L2.out) (by assumption) ?_
      simp only [Act.put, List.setIfInBounds_toArray, List.set_cons_zero, List.set_cons_succ]
      refine takeH_at 26 31 (v := .agg AB) rfl rfl (by kernel_rfl) (by kernel_rfl) (by kernel_rfl) (fun _ _ _ h => h) (yieldsIf_loadS (by rfl) 25 (.tmp 3) rfl _ rfl _ L3.out) (by assumption) ?_
      simp only [Act.put, List.setIfInBounds_toArray, List.set_cons_zero, List.set_cons_succ]
      refine single 24 29 rfl rfl (by kernel_rfl) (by rfl) (fun v _ => v = .int .i64 cc) (looseR_call 12 rfl (enters_of Tryd.func12 (by kernel_rfl) rfl) _ (by simp only [List.map_toArray, List.map_cons, List.map_nil]; rfl) (F12.out _ hSwh)) ?_
      intro v29 wp hSwp hbwp hewp
      subst hewp
      simp only [Act.put, List.setIfInBounds_toArray, List.set_cons_zero, List.set_cons_succ]
      refine single 27 32 rfl rfl (by kernel_rfl) (by rfl) (fun v _ => v = .int .i64 cc) (looseR_call 13 rfl (enters_of Tryd.func13 (by kernel_rfl) rfl) _ (by simp only [List.map_toArray, List.map_cons, List.map_nil]; rfl) (F13.out _ hSwp)) ?_
      intro v32 wq hSwq hbwq hewq
      subst hewq
      simp only [Act.put, List.setIfInBounds_toArray, List.set_cons_zero, List.set_cons_succ]
      refine takeH_at 28 33 (v := ?_) rfl rfl (by kernel_rfl) (by kernel_rfl) (by kernel_rfl) (fun _ _ _ h => h) (Or.inl ⟨by rfl, ?_⟩) (by assumption) ?_
      rotate_left
      · (intro wx hSw; clear hSw; go_simp) <;> with_reducible rfl
      simp only [Act.put, List.setIfInBounds_toArray, List.set_cons_zero, List.set_cons_succ]
      refine takeH_at 29 34 (v := ?_) rfl rfl (by kernel_rfl) (by kernel_rfl) (by kernel_rfl) (fun _ _ _ h => h) (Or.inl ⟨by rfl, ?_⟩) (by assumption) ?_
      rotate_left
      · (intro wx hSw; clear hSw; go_simp) <;> with_reducible rfl
      simp only [Act.put, List.setIfInBounds_toArray, List.set_cons_zero, List.set_cons_succ]
      refine takeH_at 30 35 (v := ?_) rfl rfl (by kernel_rfl) (by kernel_rfl) (by kernel_rfl) (fun _ _ _ h => h) (Or.inl ⟨by rfl, ?_⟩) (by assumption) ?_
      rotate_left
      · (intro wx hSw; clear hSw; go_simp) <;> with_reducible rfl
      simp only [Act.put, List.setIfInBounds_toArray, List.set_cons_zero, List.set_cons_succ]
      refine single 31 36 rfl rfl (by kernel_rfl) (by rfl) (fun v _ => v = .bool true) (looseR_call 14 rfl (enters_of Tryd.func14 (by kernel_rfl) rfl) _ (by simp only [List.map_toArray, List.map_nil]) (F14.out _ hSwq)) ?_
      intro v36 wr hSwr hbwr hewr
      subst hewr
      simp only [Act.put, List.setIfInBounds_toArray, List.set_cons_zero, List.set_cons_succ]
      refine takeH_at 32 37 (v := ?_) rfl rfl (by kernel_rfl) (by kernel_rfl) (by kernel_rfl) (fun _ _ _ h => h) (Or.inl ⟨by rfl, ?_⟩) (by assumption) ?_
      rotate_left
      · (intro wx hSw; clear hSw; go_simp) <;> with_reducible rfl
      simp only [Act.put, List.setIfInBounds_toArray, List.set_cons_zero, List.set_cons_succ]
      refine takeH_at 33 4 (v := ?_) rfl rfl (by kernel_rfl) (by kernel_rfl) (by kernel_rfl) (fun _ _ _ h => h) (Or.inl ⟨by rfl, ?_⟩) (by assumption) ?_
      rotate_left
      · (intro wx hSw; clear hSw; go_simp) <;> with_reducible rfl
      simp only [Act.put, List.setIfInBounds_toArray, List.set_cons_zero, List.set_cons_succ]
      refine wpAnyH_done (by kernel_rfl) ?_ _
      refine NoPanic.normal ?_
      have HF := Lib.hid (HB0.out.trans (hSwr.mono HB0.out.size))
      clear hSwr hSwq hSwp hSwa hSwb hSwc hSwd hSwe
      go_wp2
      go_ret
      exact ⟨rfl, HF.out⟩
    · rw [if_pos (by rfl)]
      refine LooseR.wpD (S := fun w' => Below W0.heap.size W0 w') (X := fun v _ => v = .string (bsA (adB h p))) 23 rfl (looseR_cv (v := v22) (.tmp 22) (by rfl) (by rfl) hewf hSwf) (fun v23 wg hSwg hbwg hewg => hK.out _ _ hSwg (fun hHwg => ?_))
      subst hewg
      simp only [Act.put, List.setIfInBounds_toArray, List.set_cons_zero, List.set_cons_succ]
      have hk20 := BsIs.keep _ _ _ hbwg hk19
      refine single 15 20 rfl rfl (by kernel_rfl) (by rfl) (fun v _ => v = .string (bsA (adB h p))) (looseR_cv (v := v19) (.tmp 19) (by rfl) (by rfl) hk20 hSwg) ?_
      intro v20 wh hSwh hbwh hewh
      subst hewh
      simp only [Act.put, List.setIfInBounds_toArray, List.set_cons_zero, List.set_cons_succ]
      generalize bsA (adB h p) = BB
      refine takeH_at 19 24 (v := ?_) rfl rfl (by kernel_rfl) (by kernel_rfl) (by kernel_rfl) (fun _ _ _ h => h) (Or.inl ⟨by rfl, ?_⟩) (by assumption) ?_
      rotate_left
      · (intro wx hSw; clear hSw; go_simp) <;> with_reducible rfl
      simp only [Act.put, List.setIfInBounds_toArray, List.set_cons_zero, List.set_cons_succ]
      refine takeH_at 20 25 (v := ?_) rfl rfl (by kernel_rfl) (by kernel_rfl) (by kernel_rfl) (fun _ _ _ h => h) (Or.inl ⟨by rfl, ?_⟩) (by assumption) ?_
      rotate_left
      · (intro wx hSw; clear hSw; go_simp) <;> with_reducible rfl
      simp only [Act.put, List.setIfInBounds_toArray, List.set_cons_zero, List.set_cons_succ]
      refine takeH_at 21 26 (v := ?_) rfl rfl (by kernel_rfl) (by kernel_rfl) (by kernel_rfl) (fun _ _ _ h => h) (Or.inl ⟨by rfl, ?_⟩) (by assumption) ?_
      rotate_left
      · (intro wx hSw; clear hSw; go_simp) <;> with_reducible rfl
      simp only [Act.put, List.setIfInBounds_toArray, List.set_cons_zero, List.set_cons_succ]
      refine takeH_at 22 27 (v := .agg AA) rfl rfl (by kernel_rfl) (by kernel_rfl) (by kernel_rfl) (fun _ _ _ h => h) (yieldsIf_loadS (by rfl) 25 (.tmp 2) rfl _ rfl _ L2.out) (by assumption) ?_
      simp only [Act.put, List.setIfInBounds_toArray, List.set_cons_zero, List.set_cons_succ]
      refine takeH_at 23 28 (v := .agg AB) rfl rfl (by kernel_rfl) (by kernel_rfl) (by kernel_rfl) (fun _ _ _ h => h) (yieldsIf_loadS (by rfl) 25 (.tmp 3) rfl _ rfl _ L3.out) (by assumption) ?_
      simp only [Act.put, List.setIfInBounds_toArray, List.set_cons_zero, List.set_cons_succ]
      refine takeH_at 25 30 (v := .agg AA) rfl rfl (by kernel_rfl) (by kernel_rfl) (by kernel_rfl) (fun _ _ _ h => h) (yieldsIf_loadS (by rfl) 25 (.tmp 2) rfl _ rfl _ L2.out) (by assumption) ?_
      simp only [Act.put, List.setIfInBounds_toArray, List.set_cons_zero, List.set_cons_succ]
      refine takeH_at 26 31 (v := .agg AB) rfl rfl (by kernel_rfl) (by kernel_rfl) (by kernel_rfl) (fun _ _ _ h => h) (yieldsIf_loadS (by rfl) 25 (.tmp 3) rfl _ rfl _ L3.out) (by assumption) ?_
      simp only [Act.put, List.setIfInBounds_toArray, List.set_cons_zero, List.set_cons_succ]
      refine single 24 29 rfl rfl (by kernel_rfl) (by rfl) (fun v _ => v = .int .i64 cc) (looseR_call 12 rfl (enters_of Tryd.func12 (by kernel_rfl) rfl) _ (by simp only [List.map_toArray, List.map_cons, List.map_nil]; rfl) (F12.out _ hSwh)) ?_
      intro v29 wp hSwp hbwp hewp
      subst hewp
      simp only [Act.put, List.setIfInBounds_toArray, List.set_cons_zero, List.set_cons_succ]
      refine single 27 32 rfl rfl (by kernel_rfl) (by rfl) (fun v _ => v = .int .i64 cc) (looseR_call 13 rfl (enters_of Tryd.func13 (by kernel_rfl) rfl) _ (by simp only [List.map_toArray, List.map_cons, List.map_nil]; rfl) (F13.out _ hSwp)) ?_
      intro v32 wq hSwq hbwq hewq
      subst hewq
      simp only [Act.put, List.setIfInBounds_toArray, List.set_cons_zero, List.set_cons_succ]
      refine takeH_at 28 33 (v := ?_) rfl rfl (by kernel_rfl) (by kernel_rfl) (by kernel_rfl) (fun _ _ _ h => h) (Or.inl ⟨by rfl, ?_⟩) (by assumption) ?_
      rotate_left
      · (intro wx hSw; clear hSw; go_simp) <;> with_reducible rfl
      simp only [Act.put, List.setIfInBounds_toArray, List.set_cons_zero, List.set_cons_succ]
      refine takeH_at 29 34 (v := ?_) rfl rfl (by kernel_rfl) (by kernel_rfl) (by kernel_rfl) (fun _ _ _ h => h) (Or.inl ⟨by rfl, ?_⟩) (by assumption) ?_
      rotate_left
      · (intro wx hSw; clear hSw; go_simp) <;> with_reducible rfl
      simp only [Act.put, List.setIfInBounds_toArray, List.set_cons_zero, List.set_cons_succ]
      refine takeH_at 30 35 (v := ?_) rfl rfl (by kernel_rfl) (by kernel_rfl) (by kernel_rfl) (fun _ _ _ h => h) (Or.inl ⟨by rfl, ?_⟩) (by assumption) ?_
      rotate_left
      · (intro wx hSw; clear hSw; go_simp) <;> with_reducible rfl
      simp only [Act.put, List.setIfInBounds_toArray, List.set_cons_zero, List.set_cons_succ]
      refine single 31 36 rfl rfl (by kernel_rfl) (by rfl) (fun v _ => v = .bool true) (looseR_call 14 rfl (enters_of Tryd.func14 (by kernel_rfl) rfl) _ (by simp only [List.map_toArray, List.map_nil]) (F14.out _ hSwq)) ?_
      intro v36 wr hSwr hbwr hewr
      subst hewr
      simp only [Act.put, List.setIfInBounds_toArray, List.set_cons_zero, List.set_cons_succ]
      refine takeH_at 32 37 (v := ?_) rfl rfl (by kernel_rfl) (by kernel_rfl) (by kernel_rfl) (fun _ _ _ h => h) (Or.inl ⟨by rfl, ?_⟩) (by assumption) ?_
      rotate_left
      · (intro wx hSw; clear hSw; go_simp) <;> with_reducible rfl
      simp only [Act.put, List.setIfInBounds_toArray, List.set_cons_zero, List.set_cons_succ]
      refine takeH_at 33 4 (v := ?_) rfl rfl (by kernel_rfl) (by kernel_rfl) (by kernel_rfl) (fun _ _ _ h => h) (Or.inl ⟨by rfl, ?_⟩) (by assumption) ?_
      rotate_left
      · (intro wx hSw; clear hSw; go_simp) <;> with_reducible rfl
      simp only [Act.put, List.setIfInBounds_toArray, List.set_cons_zero, List.set_cons_succ]
      refine wpAnyH_done (by kernel_rfl) ?_ _
      refine NoPanic.normal ?_
      have HF := Lib.hid (HB0.out.trans (hSwr.mono HB0.out.size))
      clear hSwr hSwq hSwp hSwa hSwb hSwc hSwd hSwe
      go_wp2
      go_ret
      exact ⟨rfl, HF.out⟩
end Go.Proofs.YtieeffebecghiaaDoor
