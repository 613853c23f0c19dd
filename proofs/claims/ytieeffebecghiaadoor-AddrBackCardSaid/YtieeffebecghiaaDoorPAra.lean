/- Contracts of the reference's Good and Decimal of layer addr. No condition. -/
import Derived.Test.YtieeffebecghiaaDoorPSrf
namespace Go.Proofs.YtieeffebecghiaaDoor
set_option maxRecDepth 100000
set_option maxHeartbeats 1000000
open Go.RowKit Go.Lib Go.Great

/-- An address as a value. -/
def adr (h p : Nat) : Array Value := #[.int .u32 (h : Int), .int .u16 (p : Int)]
def goodB (h p : Nat) : Bool := decide (h ≠ 0 ∧ p ≠ 0)
theorem rgood_any (h p : Nat) (w : World) : Calls Tryd.prog 7 #[.agg (adr h p)] w fun e w' => e = .returned (.bool (goodB h p)) ∧ Below w.heap.size w w' := by
  unfold adr goodB
  have hb : Hid (Below w.heap.size w (w.alloc (.cells #[.int .u32 (h : Int), .int .u16 (p : Int)] 28))) := Lib.hid ((Below.refl _ w).alloc (Nat.le_refl _) _)
  by_cases h0 : h = 0
  · subst h0
    go_enter Tryd.func7, Tryd.ntmps7
    go_wp2
    go_ret
    exact ⟨by simp, hb.out⟩
  · have h0' : ¬ (h : Int) = 0 := by omega
    by_cases p0 : p = 0
    · subst p0
      go_enter Tryd.func7, Tryd.ntmps7
      go_wp2
      go_ret
      exact ⟨by simp, hb.out⟩
    · have p0' : ¬ (p : Int) = 0 := by omega
      go_enter Tryd.func7, Tryd.ntmps7
      go_wp2
      go_ret
      exact ⟨by simp [h0, p0], hb.out⟩
/-- A text as bytes. -/
def bsA (s : List UInt8) : ByteArray := ⟨s.toArray⟩
theorem bsA_append (a b : List UInt8) : bsA a ++ bsA b = bsA (a ++ b) := by
  apply ByteArray.ext
  rw [ByteArray.data_append]
  simp [bsA]
theorem conv_one (n : Nat) (W' : World) (g : Nat) (h : W'.heap[g]? = some (.cells #[.int .u8 (48 + (n : Int))] 5 (0, 0))) : (convert 31 9 (.slice (some ⟨g, 0, none⟩) 1 1)).run Tryd.prog W' = .ok (.string (bsA [digB n])) W' := by
  have := run_convert_bytes_arg (P := Tryd.prog) W' 31 5 Tryd.underlying31 Tryd.underlying5 g 0 1 1 [48 + (n : Int)] rfl (fun i hi => by
    obtain rfl : i = 0 := by omega
    rw [cell_of_row W' g 0 _ 5 (0, 0) h]
    rfl) 9 Tryd.underlying9
  rw [this]
  congr 2
theorem rdec_small (n : Nat) (hn : n < 10) (w : World) : Calls Tryd.prog 21 #[.int .i64 (n : Int)] w fun e w' => e = .returned (.string (bsA (decL n))) ∧ Below w.heap.size w w' := by
  have hc := conv_one n (w.alloc (.cells #[.int .u8 (48 + (n : Int))] 5)) w.heap.size (heap_alloc_new w _)
  have hb : Hid (Below w.heap.size w (w.alloc (.cells #[.int .u8 (48 + (n : Int))] 5))) := Lib.hid ((Below.refl _ w).alloc (Nat.le_refl _) _)
  rw [decL_small hn]
  generalize bsA [digB n] = V at hc ⊢
  go_enter Tryd.func21, Tryd.ntmps21
  go_wp2
  go_ret
  exact ⟨rfl, hb.out⟩
theorem info5s : ∃ i0, Tryd.prog.info? 5 = some i0 ∧ i0.zero = some (.int .u8 0) ∧ i0.size = 1 := by
  have h : (Tryd.prog.info? 5).map (fun i => (i.zero, i.size)) = some (some (.int .u8 0), 1) := by kernel_rfl
  cases hi : Tryd.prog.info? 5 with
  | none => rw [hi] at h; cases h
  | some i =>
    rw [hi] at h
    simp only [Option.map_some, Option.some.injEq, Prod.mk.injEq] at h
    exact ⟨i, rfl, h.1, h.2⟩
theorem looseR_one (n : Nat) {o : Oper} {a : Act} {W0 w : World} (ho : o.op = .buildSlice 31 1 #[(0, .tmp 16)]) (hy : a.eval (.tmp 16) = .int .u8 (48 + (n : Int))) (hS : Below W0.heap.size W0 w) :
    LooseR Tryd.prog w (fun w' => Below W0.heap.size W0 w') (fun v w' => ∃ g, v = .slice (some ⟨g, 0, none⟩) 1 1 ∧ w'.heap[g]? = some (.cells #[.int .u8 (48 + (n : Int))] 5 (0, 0))) ((execOp a.eval o).run Tryd.prog w) := by
  obtain ⟨i0, hi, hz0, hz1⟩ := info5s
  have : (execOp a.eval o).run Tryd.prog w = .ok (.value (.slice (some ⟨w.heap.size, 0, none⟩) 1 1)) (w.alloc (.cells #[.int .u8 (48 + (n : Int))] 5)) := by
    unfold execOp
    simp only [ho, List.map_toArray, List.map_cons, List.map_nil, hy]
    simp [Instr.buildSlice, run_underlying Tryd.underlying31, sizeOf, typeInfo, zeroValue, hi, hz0, hz1, Value.cells, Instr.fill, newRow]
    rw [show Array.range 1 = #[0] from by decide]
    simp
  rw [this]
  have hb : Below w.heap.size w (w.alloc (.cells #[.int .u8 (48 + (n : Int))] 5)) := (Below.refl _ w).alloc (Nat.le_refl _) _
  exact ⟨hS.trans (hb.mono hS.size), hb, w.heap.size, rfl, heap_alloc_new w _⟩
theorem looseR_conv (n : Nat) {o : Oper} {a : Act} {g : Nat} {W0 w : World} (ho : o.op = .convert 31 9 (.tmp 17)) (hy : a.eval (.tmp 17) = .slice (some ⟨g, 0, none⟩) 1 1) (hr : w.heap[g]? = some (.cells #[.int .u8 (48 + (n : Int))] 5 (0, 0))) (hS : Below W0.heap.size W0 w) :
    LooseR Tryd.prog w (fun w' => Below W0.heap.size W0 w') (fun v _ => v = .string (bsA [digB n])) ((execOp a.eval o).run Tryd.prog w) := by
  have : (execOp a.eval o).run Tryd.prog w = .ok (.value (.string (bsA [digB n]))) w := by
    unfold execOp
    simp only [ho, hy, Sem.run_bind, conv_one n w g hr, Result.andThen_ok, Sem.run_pure]
  rw [this]
  exact ⟨hS, Below.refl _ _, rfl⟩
theorem rdec_big (n : Nat) (hn : ¬ n < 10) (hm : n ≤ 1000000) (ih : ∀ W, Calls Tryd.prog 21 #[.int .i64 ((n / 10 : Nat) : Int)] W fun e w' => e = .returned (.string (bsA (decL (n / 10)))) ∧ Below W.heap.size W w') (w : World) : Calls Tryd.prog 21 #[.int .i64 (n : Int)] w fun e w' => e = .returned (.string (bsA (decL n))) ∧ Below w.heap.size w w' := by
  have hn' : ¬ (n : Int) < 10 := by omega
  have HSa : Hid (Below w.heap.size w w.drew) := Lib.hid (Below.refl _ _).drew
  have IH := Lib.hid ih
  have HQ : Hid (IntKind.i64.wrap ((n : Int) / 10) = ((n / 10 : Nat) : Int)) := Lib.hid (by rw [IntKind.wrap_i64]; omega)
  have HU : Hid (IntKind.u8.wrap (IntKind.i64.wrap (48 + (n : Int).tmod 10)) = 48 + ((n % 10 : Nat) : Int)) := Lib.hid (by
    have e : (n : Int).tmod 10 = ((n % 10 : Nat) : Int) := rfl
    have h9 : n % 10 < 10 := Nat.mod_lt _ (by omega)
    rw [e, IntKind.wrap_i64]
    simp only [IntKind.wrap, IntKind.bits, IntKind.signed]
    simp
    omega)
  have hsz : ¬ 9223372036854775807 < (bsA (decL (n / 10))).size + (bsA [digB (n % 10)]).size := by
    have h1 : (bsA (decL (n / 10))).size = (decL (n / 10)).length := by simp [bsA, ByteArray.size]
    have h2 : (bsA [digB (n % 10)]).size = 1 := rfl
    have h3 := decL_len 6 (n / 10) (by omega)
    omega
  have HD : Hid (bsA (decL n) = bsA (decL (n / 10)) ++ bsA [digB (n % 10)]) := Lib.hid (by rw [bsA_append, decL_big hn])
  clear ih
  go_enter Tryd.func21, Tryd.ntmps21
  go_upto_region 3 with fail
  refine wp_region_noPanic ?_
  refine wp_region_held_drew (S := fun w' => Below w.heap.size w w') (by kernel_rfl) HSa.out (fun hHeld => ?_)
  refine takeH_at 0 10 (v := ?_) rfl rfl (by kernel_rfl) (by kernel_rfl) (by kernel_rfl) (fun _ _ _ h => h) (Or.inl ⟨by rfl, ?_⟩) (by assumption) ?_
  rotate_left
  · (intro wx hSw; clear hSw; go_simp) <;> with_reducible rfl
  simp only [Act.put, List.setIfInBounds_toArray, List.set_cons_zero, List.set_cons_succ]
  refine takeH_at 1 11 (v := ?_) rfl rfl (by kernel_rfl) (by kernel_rfl) (by kernel_rfl) (fun _ _ _ h => h) (Or.inl ⟨by rfl, ?_⟩) (by assumption) ?_
  rotate_left
  · (intro wx hSw; clear hSw; go_simp) <;> with_reducible rfl
  simp only [Act.put, List.setIfInBounds_toArray, List.set_cons_zero, List.set_cons_succ]
  rw [HQ.out]
  refine takeH_at 3 13 (v := ?_) rfl rfl (by kernel_rfl) (by kernel_rfl) (by kernel_rfl) (fun _ _ _ h => h) (Or.inl ⟨by rfl, ?_⟩) (by assumption) ?_
  rotate_left
  · (intro wx hSw; clear hSw; go_simp) <;> with_reducible rfl
  simp only [Act.put, List.setIfInBounds_toArray, List.set_cons_zero, List.set_cons_succ]
  refine takeH_at 4 14 (v := ?_) rfl rfl (by kernel_rfl) (by kernel_rfl) (by kernel_rfl) (fun _ _ _ h => h) (Or.inl ⟨by rfl, ?_⟩) (by assumption) ?_
  rotate_left
  · (intro wx hSw; clear hSw; go_simp) <;> with_reducible rfl
  simp only [Act.put, List.setIfInBounds_toArray, List.set_cons_zero, List.set_cons_succ]
  refine takeH_at 5 15 (v := ?_) rfl rfl (by kernel_rfl) (by kernel_rfl) (by kernel_rfl) (fun _ _ _ h => h) (Or.inl ⟨by rfl, ?_⟩) (by assumption) ?_
  rotate_left
  · (intro wx hSw; clear hSw; go_simp) <;> with_reducible rfl
  simp only [Act.put, List.setIfInBounds_toArray, List.set_cons_zero, List.set_cons_succ]
  refine takeH_at 6 16 (v := ?_) rfl rfl (by kernel_rfl) (by kernel_rfl) (by kernel_rfl) (fun _ _ _ h => h) (Or.inl ⟨by rfl, ?_⟩) (by assumption) ?_
  rotate_left
  · (intro wx hSw; clear hSw; go_simp) <;> with_reducible rfl
  simp only [Act.put, List.setIfInBounds_toArray, List.set_cons_zero, List.set_cons_succ]
  rw [HU.out]
  refine wpAnyH_ready (rs := [2, 7]) (by kernel_rfl) (by simp) (AllReadyH.cons rfl (fun K hK => ?_) (AllReadyH.cons rfl (fun K hK => ?_) AllReadyH.nil))
  · rw [if_pos (by rfl)]
    refine LooseR.wpD (S := fun w' => Below w.heap.size w w') (X := (fun v _ => v = .string (bsA (decL (n / 10))))) 12 rfl (looseR_call 21 rfl (enters_of Tryd.func21 (by kernel_rfl) rfl) _ (by simp only [List.map_toArray, List.map_cons, List.map_nil]; rfl) ((IH.out _).mono (by rintro e w' ⟨rfl, q⟩; exact ⟨_, rfl, hHeld.trans (q.mono hHeld.size), q, rfl⟩))) (fun v12 wc hSc hbc hxc => hK.out _ _ hSc (fun hH => ?_))
    subst hxc
    simp only [Act.put, List.setIfInBounds_toArray, List.set_cons_zero, List.set_cons_succ]
    refine single 7 17 rfl rfl (by kernel_rfl) (by rfl) (fun v w' => ∃ g, v = .slice (some ⟨g, 0, none⟩) 1 1 ∧ w'.heap[g]? = some (.cells #[.int .u8 (48 + ((n % 10 : Nat) : Int))] 5 (0, 0))) (looseR_one (n % 10) rfl rfl hSc) ?_
    intro v17 wb hSb hbb hxb
    obtain ⟨g, rfl, hrow⟩ := hxb
    simp only [Act.put, List.setIfInBounds_toArray, List.set_cons_zero, List.set_cons_succ]
    refine single 8 18 rfl rfl (by kernel_rfl) (by rfl) (fun v _ => v = .string (bsA [digB (n % 10)])) (looseR_conv (n % 10) rfl rfl hrow hSb) ?_
    intro v18 wv hSv hbv hxv
    subst hxv
    simp only [Act.put, List.setIfInBounds_toArray, List.set_cons_zero, List.set_cons_succ]
    refine takeH_at 9 19 (v := ?_) rfl rfl (by kernel_rfl) (by kernel_rfl) (by kernel_rfl) (fun _ _ _ h => h) (Or.inl ⟨by rfl, ?_⟩) (by assumption) ?_
    rotate_left
    · (intro wx hSw; clear hSw; go_simp) <;> with_reducible rfl
    simp only [Act.put, List.setIfInBounds_toArray, List.set_cons_zero, List.set_cons_succ]
    refine takeH_at 10 2 (v := ?_) rfl rfl (by kernel_rfl) (by kernel_rfl) (by kernel_rfl) (fun _ _ _ h => h) (Or.inl ⟨by rfl, ?_⟩) (by assumption) ?_
    rotate_left
    · (intro wx hSw; clear hSw; go_simp) <;> with_reducible rfl
    simp only [Act.put, List.setIfInBounds_toArray, List.set_cons_zero, List.set_cons_succ]
    refine wpAnyH_done (by kernel_rfl) ?_ _
    refine NoPanic.normal ?_
    have HF := Lib.hid hSv
    clear IH HSa
    go_wp2
    go_ret
    exact ⟨by rw [HD.out]; rfl, HF.out⟩
  · rw [if_pos (by rfl)]
    refine LooseR.wpD (S := fun w' => Below w.heap.size w w') (X := (fun v w' => ∃ g, v = .slice (some ⟨g, 0, none⟩) 1 1 ∧ w'.heap[g]? = some (.cells #[.int .u8 (48 + ((n % 10 : Nat) : Int))] 5 (0, 0)))) 17 rfl (looseR_one (n % 10) rfl rfl hHeld) (fun v17 wb hSb hbb hxb => hK.out _ _ hSb (fun hH => ?_))
    obtain ⟨g, rfl, hrow⟩ := hxb
    simp only [Act.put, List.setIfInBounds_toArray, List.set_cons_zero, List.set_cons_succ]
    refine wpAnyH_ready (rs := [2, 8]) (by kernel_rfl) (by simp) (AllReadyH.cons rfl (fun K hK => ?_) (AllReadyH.cons rfl (fun K hK => ?_) AllReadyH.nil))
    · rw [if_pos (by rfl)]
      refine LooseR.wpD (S := fun w' => Below w.heap.size w w') (X := (fun v _ => v = .string (bsA (decL (n / 10))))) 12 rfl (looseR_call 21 rfl (enters_of Tryd.func21 (by kernel_rfl) rfl) _ (by simp only [List.map_toArray, List.map_cons, List.map_nil]; rfl) ((IH.out _).mono (by rintro e w' ⟨rfl, q⟩; exact ⟨_, rfl, hSb.trans (q.mono hSb.size), q, rfl⟩))) (fun v12 wc hSc hbc hxc => hK.out _ _ hSc (fun hH => ?_))
      subst hxc
      simp only [Act.put, List.setIfInBounds_toArray, List.set_cons_zero, List.set_cons_succ]
      have hrow2 := (hbc.block g (Array.getElem?_eq_some_iff.1 hrow).1).trans hrow
      refine single 8 18 rfl rfl (by kernel_rfl) (by rfl) (fun v _ => v = .string (bsA [digB (n % 10)])) (looseR_conv (n % 10) rfl rfl hrow2 hSc) ?_
      intro v18 wv hSv hbv hxv
      subst hxv
      simp only [Act.put, List.setIfInBounds_toArray, List.set_cons_zero, List.set_cons_succ]
      refine takeH_at 9 19 (v := ?_) rfl rfl (by kernel_rfl) (by kernel_rfl) (by kernel_rfl) (fun _ _ _ h => h) (Or.inl ⟨by rfl, ?_⟩) (by assumption) ?_
      rotate_left
      · (intro wx hSw; clear hSw; go_simp) <;> with_reducible rfl
      simp only [Act.put, List.setIfInBounds_toArray, List.set_cons_zero, List.set_cons_succ]
      refine takeH_at 10 2 (v := ?_) rfl rfl (by kernel_rfl) (by kernel_rfl) (by kernel_rfl) (fun _ _ _ h => h) (Or.inl ⟨by rfl, ?_⟩) (by assumption) ?_
      rotate_left
      · (intro wx hSw; clear hSw; go_simp) <;> with_reducible rfl
      simp only [Act.put, List.setIfInBounds_toArray, List.set_cons_zero, List.set_cons_succ]
      refine wpAnyH_done (by kernel_rfl) ?_ _
      refine NoPanic.normal ?_
      have HF := Lib.hid hSv
      clear IH HSa
      go_wp2
      go_ret
      exact ⟨by rw [HD.out]; rfl, HF.out⟩
    · rw [if_pos (by rfl)]
      refine LooseR.wpD (S := fun w' => Below w.heap.size w w') (X := (fun v _ => v = .string (bsA [digB (n % 10)]))) 18 rfl (looseR_conv (n % 10) rfl rfl hrow hSb) (fun v18 wv hSv hbv hxv => hK.out _ _ hSv (fun hH => ?_))
      subst hxv
      simp only [Act.put, List.setIfInBounds_toArray, List.set_cons_zero, List.set_cons_succ]
      refine single 2 12 rfl rfl (by kernel_rfl) (by rfl) (fun v _ => v = .string (bsA (decL (n / 10)))) (looseR_call 21 rfl (enters_of Tryd.func21 (by kernel_rfl) rfl) _ (by simp only [List.map_toArray, List.map_cons, List.map_nil]; rfl) ((IH.out _).mono (by rintro e w' ⟨rfl, q⟩; exact ⟨_, rfl, hSv.trans (q.mono hSv.size), q, rfl⟩))) ?_
      intro v12 wc hSc hbc hxc
      subst hxc
      simp only [Act.put, List.setIfInBounds_toArray, List.set_cons_zero, List.set_cons_succ]
      refine takeH_at 9 19 (v := ?_) rfl rfl (by kernel_rfl) (by kernel_rfl) (by kernel_rfl) (fun _ _ _ h => h) (Or.inl ⟨by rfl, ?_⟩) (by assumption) ?_
      rotate_left
      · (intro wx hSw; clear hSw; go_simp) <;> with_reducible rfl
      simp only [Act.put, List.setIfInBounds_toArray, List.set_cons_zero, List.set_cons_succ]
      refine takeH_at 10 2 (v := ?_) rfl rfl (by kernel_rfl) (by kernel_rfl) (by kernel_rfl) (fun _ _ _ h => h) (Or.inl ⟨by rfl, ?_⟩) (by assumption) ?_
      rotate_left
      · (intro wx hSw; clear hSw; go_simp) <;> with_reducible rfl
      simp only [Act.put, List.setIfInBounds_toArray, List.set_cons_zero, List.set_cons_succ]
      refine wpAnyH_done (by kernel_rfl) ?_ _
      refine NoPanic.normal ?_
      have HF := Lib.hid hSc
      clear IH HSa
      go_wp2
      go_ret
      exact ⟨by rw [HD.out]; rfl, HF.out⟩

theorem rdec_any (n : Nat) (hm : n ≤ 1000000) (w : World) : Calls Tryd.prog 21 #[.int .i64 (n : Int)] w fun e w' => e = .returned (.string (bsA (decL n))) ∧ Below w.heap.size w w' := by
  induction n using Nat.strongRecOn generalizing w with
  | _ n ih =>
    by_cases h : n < 10
    · exact rdec_small n h w
    · exact rdec_big n h hm (fun W => ih (n / 10) (by omega) (by omega) W) w
end Go.Proofs.YtieeffebecghiaaDoor
