/- Contract of the reference's Bytes of layer addr. Conditions: a host fits 32 bits, a port 16. -/
import Derived.Test.YtieeffebecghiaaDoorPAra
namespace Go.Proofs.YtieeffebecghiaaDoor
set_option maxRecDepth 100000
set_option maxHeartbeats 1000000
open Go.RowKit Go.Lib Go.Great

/-- v is a slice of these bytes. -/
def BsIs (xs : List UInt8) (v : Value) (W : World) : Prop := ∃ A c, v = .slice A xs.length c ∧ xs.length ≤ c ∧ BAt W W.heap.size A xs
theorem BsIs.keep {xs : List UInt8} (v : Value) (w w' : World) (hb : Below w.heap.size w w') (h : BsIs xs v w) : BsIs xs v w' := by
  obtain ⟨A, c, h1, h2, h3⟩ := h
  refine ⟨A, c, h1, h2, ?_⟩
  rcases h3 with rfl | ⟨g, off, rfl, hg, hc⟩
  · exact .inl rfl
  · exact .inr ⟨g, off, rfl, Nat.lt_of_lt_of_le hg hb.size, fun j hj => by rw [World.cell?_of_block (w := w) (w' := w') (a := ⟨g, off + j, none⟩) (hb.block g hg)]; exact hc j hj⟩
theorem BsIs.of_own {base n : Nat} {v : Value} {xs : List UInt8} {W : World} (h : W.ownsRow base 5 1 v n (bcells xs)) : BsIs xs v W := by
  have hl := h.1
  rw [bcells_length, Nat.mul_one] at hl
  rcases h.2 with ⟨rfl, h0⟩ | ⟨g, cap, cur, rfl, hb, hg, hc, _⟩
  · have hL : xs = [] := List.eq_nil_of_length_eq_zero (by omega)
    subst hL
    exact ⟨none, 0, rfl, Nat.le_refl _, .inl rfl⟩
  · refine ⟨_, cap, by rw [hl], by omega, .inr ⟨g, 0, rfl, (Array.getElem?_eq_some_iff.1 hg).1, fun j hj => ?_⟩⟩
    have := h.cells (g := g) rfl j (.int .u8 (xs[j].toNat : Int)) (by rw [bcells_get xs j hj])
    rwa [Addr.add_mid] at this
/-- The bytes of an address. -/
def adB (h p : Nat) : List UInt8 := putB h 4 ++ putB p 2
theorem adB_length (h p : Nat) : (adB h p).length = 6 := by unfold adB; rw [List.length_append, putB_length, putB_length]
theorem rbytes_any (h p : Nat) (hh : h < 4294967296) (hp : p < 65536) (w : World) : Calls Tryd.prog 11 #[.agg (adr h p)] w fun e w' => ∃ v, e = .returned v ∧ BsIs (adB h p) v w' ∧ Below w.heap.size w w' := by
  unfold adr
  have hb0 : Below w.heap.size w (w.alloc (.cells #[.int .u32 (h : Int), .int .u16 (p : Int)] 28)) := (Below.refl _ w).alloc (Nat.le_refl _) _
  obtain ⟨W0, hW0⟩ : ∃ W0, W0 = w.alloc (.cells #[.int .u32 (h : Int), .int .u16 (p : Int)] 28) := ⟨_, rfl⟩
  have h0 := heap_alloc_new w (.cells #[.int .u32 (h : Int), .int .u16 (p : Int)] 28)
  rw [← hW0] at hb0 h0
  have g0 := (Array.getElem?_eq_some_iff.1 h0).1
  have C0 : Hid (∀ W, Below W0.heap.size W0 W → W.cell? ⟨w.heap.size, 0, none⟩ = some (.int .u32 (h : Int))) := Lib.hid (fun W hW => by
    rw [cell_of_row W _ 0 _ 28 (0, 0) ((hW.block _ g0).trans h0)]; rfl)
  have C1 : Hid (∀ W, Below W0.heap.size W0 W → W.cell? ⟨w.heap.size, 1, none⟩ = some (.int .u16 (p : Int))) := Lib.hid (fun W hW => by
    rw [cell_of_row W _ 1 _ 28 (0, 0) ((hW.block _ g0).trans h0)]; rfl)
  have P1 : Hid (∀ W, Below W0.heap.size W0 W → Calls Tryd.prog 22 #[.slice none 0 0, .int .u64 (h : Int), .int .i64 4] W fun e w' => ∃ v, e = .returned v ∧ Below W0.heap.size W0 w' ∧ Below W.heap.size W w' ∧ BsIs (putB h 4) v w') := Lib.hid (fun W hW => by
    refine (rput_yes none 0 h 4 [] W (.inl rfl) (by simp) (by omega) (by omega) (by omega)).mono ?_
    rintro e w' ⟨v, rfl, k1, k2⟩
    exact ⟨v, rfl, hW.trans (k2.mono hW.size), k2, BsIs.of_own k1⟩)
  have P2 : Hid (∀ u W, BsIs (putB h 4) u W → Below W0.heap.size W0 W → Calls Tryd.prog 22 #[u, .int .u64 (p : Int), .int .i64 2] W fun e w' => ∃ v, e = .returned v ∧ Below W0.heap.size W0 w' ∧ Below W.heap.size W w' ∧ BsIs (adB h p) v w') := Lib.hid (fun u W hu hW => by
    obtain ⟨A, c, rfl, _, hA⟩ := hu
    refine (rput_yes A c p 2 (putB h 4) W hA (by rw [putB_length]; omega) (by omega) (by omega) (by omega)).mono ?_
    rintro e w' ⟨v, rfl, k1, k2⟩
    exact ⟨v, rfl, hW.trans (k2.mono hW.size), k2, BsIs.of_own k1⟩)
  have HSa : Hid (Below W0.heap.size W0 W0.drew) := Lib.hid (Below.refl _ _).drew
  have HW1 : Hid (IntKind.u64.wrap (h : Int) = (h : Int)) := Lib.hid (by simp only [IntKind.wrap, IntKind.bits, IntKind.signed]; simp; omega)
  have HW2 : Hid (IntKind.u64.wrap (p : Int) = (p : Int)) := Lib.hid (by simp only [IntKind.wrap, IntKind.bits, IntKind.signed]; simp; omega)
  have HW := Lib.hid hW0
  have HB0 := Lib.hid hb0
  clear hb0 hW0 h0 g0
  go_enter Tryd.func11, Tryd.ntmps11
  go_upto_region 1 with fail
  rw [← HW.out]
  refine wp_region_noPanic ?_
  refine wp_region_held_drew (S := fun w' => Below W0.heap.size W0 w') (by kernel_rfl) HSa.out (fun hHeld => ?_)
  refine takeH_at 0 3 (v := ?_) rfl rfl (by kernel_rfl) (by kernel_rfl) (by kernel_rfl) (fun _ _ _ h => h) (Or.inl ⟨by rfl, ?_⟩) (by assumption) ?_
  rotate_left
  · (intro wx hSw; clear hSw; go_simp) <;> with_reducible rfl
  simp only [Act.put, List.setIfInBounds_toArray, List.set_cons_zero, List.set_cons_succ]
  refine takeH_at 1 4 (v := ?_) rfl rfl (by kernel_rfl) (by kernel_rfl) (by kernel_rfl) (fun _ _ _ h => h) (Or.inl ⟨by rfl, ?_⟩) (by assumption) ?_
  rotate_left
  · (intro wx hSw; have c0 := C0.out wx hSw; clear hSw; go_simp) <;> with_reducible rfl
  simp only [Act.put, List.setIfInBounds_toArray, List.set_cons_zero, List.set_cons_succ]
  refine takeH_at 2 5 (v := ?_) rfl rfl (by kernel_rfl) (by kernel_rfl) (by kernel_rfl) (fun _ _ _ h => h) (Or.inl ⟨by rfl, ?_⟩) (by assumption) ?_
  rotate_left
  · (intro wx hSw; clear hSw; go_simp) <;> with_reducible rfl
  simp only [Act.put, List.setIfInBounds_toArray, List.set_cons_zero, List.set_cons_succ]
  rw [HW1.out]
  refine takeH_at 4 7 (v := ?_) rfl rfl (by kernel_rfl) (by kernel_rfl) (by kernel_rfl) (fun _ _ _ h => h) (Or.inl ⟨by rfl, ?_⟩) (by assumption) ?_
  rotate_left
  · (intro wx hSw; clear hSw; go_simp) <;> with_reducible rfl
  simp only [Act.put, List.setIfInBounds_toArray, List.set_cons_zero, List.set_cons_succ]
  refine takeH_at 5 8 (v := ?_) rfl rfl (by kernel_rfl) (by kernel_rfl) (by kernel_rfl) (fun _ _ _ h => h) (Or.inl ⟨by rfl, ?_⟩) (by assumption) ?_
  rotate_left
  · (intro wx hSw; have c0 := C1.out wx hSw; clear hSw; go_simp) <;> with_reducible rfl
  simp only [Act.put, List.setIfInBounds_toArray, List.set_cons_zero, List.set_cons_succ]
  refine takeH_at 6 9 (v := ?_) rfl rfl (by kernel_rfl) (by kernel_rfl) (by kernel_rfl) (fun _ _ _ h => h) (Or.inl ⟨by rfl, ?_⟩) (by assumption) ?_
  rotate_left
  · (intro wx hSw; clear hSw; go_simp) <;> with_reducible rfl
  simp only [Act.put, List.setIfInBounds_toArray, List.set_cons_zero, List.set_cons_succ]
  rw [HW2.out]
  refine single 3 6 rfl rfl (by kernel_rfl) (by rfl) (BsIs (putB h 4)) (looseR_call 22 rfl (enters_of Tryd.func22 (by kernel_rfl) rfl) _ (by simp only [List.map_toArray, List.map_cons, List.map_nil]; rfl) (P1.out _ hHeld)) ?_
  intro u wa hSa hba hu
  simp only [Act.put, List.setIfInBounds_toArray, List.set_cons_zero, List.set_cons_succ]
  refine single 7 10 rfl rfl (by kernel_rfl) (by rfl) (BsIs (adB h p)) (looseR_call 22 rfl (enters_of Tryd.func22 (by kernel_rfl) rfl) _ (by simp only [List.map_toArray, List.map_cons, List.map_nil]; rfl) (P2.out u wa hu hSa)) ?_
  intro v wb hSb hbb hv
  simp only [Act.put, List.setIfInBounds_toArray, List.set_cons_zero, List.set_cons_succ]
  refine takeH_at 8 2 (v := ?_) rfl rfl (by kernel_rfl) (by kernel_rfl) (by kernel_rfl) (fun _ _ _ h => h) (Or.inl ⟨by rfl, ?_⟩) (by assumption) ?_
  rotate_left
  · (intro wx hSw; clear hSw; go_simp) <;> with_reducible rfl
  simp only [Act.put, List.setIfInBounds_toArray, List.set_cons_zero, List.set_cons_succ]
  refine wpAnyH_done (by kernel_rfl) ?_ _
  refine NoPanic.normal ?_
  have HF := Lib.hid (HB0.out.trans (hSb.mono HB0.out.size))
  have HV := Lib.hid hv
  clear hSb hbb hv hu hSa hba P1 P2 C0 C1
  go_wp2
  go_ret
  exact ⟨_, rfl, HV.out, HF.out⟩
end Go.Proofs.YtieeffebecghiaaDoor
