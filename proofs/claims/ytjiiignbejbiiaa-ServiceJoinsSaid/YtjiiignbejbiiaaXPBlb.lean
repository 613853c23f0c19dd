/- Contract of the reference's Sum. Conditions: at most 3,000 bytes. -/
import Derived.Test.YtjiiignbejbiiaaXPPca
namespace Go.Proofs.Ytjiiignbejbiiaa
set_option maxRecDepth 100000
set_option maxHeartbeats 400000
open Go.RowKit Go.Great
set_option linter.unusedVariables false

theorem zero28 (W : World) : (zeroValue 54).run Try.prog W = .ok (.agg (bcells (List.replicate 20 0)).toArray) W := by
  have h : (Try.prog.info? 54).map (·.zero) = some (some (.agg (bcells (List.replicate 20 0)).toArray)) := by kernel_rfl
  cases hi : Try.prog.info? 54 with
  | none => rw [hi] at h; cases h
  | some i =>
    rw [hi] at h
    simp only [Option.map_some, Option.some.injEq] at h
    simp [zeroValue, typeInfo, hi, h]
theorem size28 : (Try.prog.info? 54).map (·.size) = some 20 := by kernel_rfl
theorem alloc_set' (w : World) (z r : Array Value) (t : TypeId) : ∀ W, W = (w.alloc (.cells z t)).setRow w.heap.size r → W.heap[w.heap.size]? = some (.cells r t (0, 0)) ∧ Below w.heap.size w W := by
  rintro W rfl
  exact ⟨setRow_heap _ _ _ r t (0, 0) (heap_alloc_new w _), below_setRow ((Below.refl _ w).alloc (Nat.le_refl _) _) (Nat.le_refl _) _⟩
theorem pad_whole (b : List UInt8) : (b ++ padB b.length).length % 64 = 0 ∧ (b ++ padB b.length).length ≤ b.length + 72 ∧ 9 ≤ (b ++ padB b.length).length := by
  have h : (padB b.length).length = 9 + zerosN b.length := by
    unfold padB
    rw [List.length_append, List.length_cons, List.length_replicate, putB_length]
    omega
  rw [List.length_append, h]
  unfold zerosN
  omega

theorem step_loadV {P : Program} {ops : Array Oper} {o : Oper} {a : Act} {w : World} {K : Act → World → Prop} {Q : Exit → Act → World → Prop} {E : Prop} (hgd : o.guard = none) (ty : TypeId) (x : Operand) (ho : o.op = .load ty x) (p : Addr) (hx : a.eval x = .pointer (some p)) (v : Value) (hl : (loadVar ty p).run P w = .ok v w)
    (h : K (a.put o.dst v) w) : if Region.wanted o (yielded ops a.tmps) = true then Oper.wp P o a w K Q else E := by
  have hw : Region.wanted o (yielded ops a.tmps) = true := by simp [Region.wanted, hgd]
  rw [if_pos hw]
  exact wp_loadV ty x ho p hx v hl h
theorem step_store_row {P : Program} {ops : Array Oper} {o : Oper} {a : Act} {w : World} {K : Act → World → Prop} {Q : Exit → Act → World → Prop} {E : Prop} (hgd : o.guard = none) (ty : TypeId) (x y : Operand) (ho : o.op = .store ty x y)
    (g : Nat) (cells : Array Value) (hx : a.eval x = .pointer (some ⟨g, 0, none⟩)) (hy : a.eval y = .agg cells)
    (t : TypeId) (old : Array Value) (hg : w.heap[g]? = some (.cells old t (0, 0))) (hi : (P.info? ty).map (·.size) = some cells.size) (hold : old.size = cells.size) (h1 : cells.all (·.oneCell') = true)
    (h : K (a.put o.dst undef) (w.setRow g cells)) : if Region.wanted o (yielded ops a.tmps) = true then Oper.wp P o a w K Q else E := by
  have hw : Region.wanted o (yielded ops a.tmps) = true := by simp [Region.wanted, hgd]
  rw [if_pos hw]
  exact wp_store_row ty x y ho g cells hx hy t old hg hi hold h1 h

theorem run_id28 (g : Nat) (W : World) : (Instr.sliceAt 54 (.pointer (some ⟨g, 0, none⟩)) none none none).run Try.prog W = .ok (.slice (some ⟨g, 0, none⟩) 20 20) W := by
  have hl : Try.prog.arrayLen 54 = 20 := by kernel_rfl
  have hu : Try.prog.underlying 54 = some (.array (Try.prog.arrayLen 54) (Try.prog.elem 54)) := by kernel_rfl
  have hs : (sizeOf (Try.prog.elem 54)).run Try.prog W = .ok 1 W := by
    obtain ⟨i0, hi, hz0, hz1, hz2⟩ := info_parts info5
    have : Try.prog.elem 54 = 5 := by kernel_rfl
    rw [this]
    simp [sizeOf, typeInfo, hi, hz1]
  rw [run_sliceAt_array_all W 54 ⟨g, 0, none⟩ hu, hs]
  have e : (⟨g, 0, none⟩ : Addr).add 0 = ⟨g, 0, none⟩ := Addr.add_mid g 0 0
  simp [Result.andThen, slicedAt, hl, e]
theorem cellw {W : World} {g j : Nat} {u : V5} (h : W.heap[g]? = some (.cells u.cells.toArray 91 (0, 0))) (hj : j < 5) : W.cell? ⟨g, j, none⟩ = some (.int .u32 (wAt u j)) := by
  obtain ⟨c0, c1, c2, c3, c4⟩ := cells5 h
  match j, hj with
  | 0, _ => exact c0
  | 1, _ => exact c1
  | 2, _ => exact c2
  | 3, _ => exact c3
  | 4, _ => exact c4
def S2Rel (w0 : World) (v : V5) (t i : Value) (wr : World) : Prop :=
  ∃ (j : Nat) (ys : List UInt8) (A : Option Addr) (c : Nat), j ≤ 5 ∧ i = .int .i64 (j : Int) ∧ t = .slice A ys.length c ∧ Hid (ys = idJ v j) ∧ OwnS w0 wr A c ys ∧ Below w0.heap.size w0 wr

structure SM (w : World) (r : List UInt8) (A : Option Addr) (g : Nat) (u : V5) (W : World) : Prop where
  r0 : W.heap[w.heap.size]? = some (.cells (bcells (List.replicate 20 0)).toArray 54 (0, 0))
  rr : BAt W g A r
  r4 : W.heap[g]? = some (.cells u.cells.toArray 91 (0, 0))
  l4 : w.heap.size < g
  bel : Below w.heap.size w W
section
variable {w W W' : World} {r : List UInt8} {A : Option Addr} {g : Nat} {u : V5}
theorem SM.lt (h : SM w r A g u W) : g < W.heap.size := (Array.getElem?_eq_some_iff.1 h.r4).1
theorem SM.below (h : SM w r A g u W) (hb : Below W.heap.size W W') : SM w r A g u W' := by
  have hl := h.lt
  have h4 := h.l4
  exact ⟨(hb.block _ (by omega)).trans h.r0, h.rr.below (hb.mono (by omega)), (hb.block _ hl).trans h.r4, h4, h.bel.trans (hb.mono h.bel.size)⟩
theorem SM.set (h : SM w r A g u W) (u' : V5) : SM w r A g u' (W.setRow g u'.cells.toArray) := by
  have h4 := h.l4
  exact ⟨(setRow_other _ _ _ _ (by omega)).trans h.r0, h.rr.keep (fun p hp => World.cell?_of_block (w := W) (a := p) (setRow_other _ _ _ _ (by omega))), setRow_heap _ _ _ _ 91 (0, 0) h.r4, h4, below_setRow h.bel (by omega) _⟩
end
def S1Rel (w : World) (r : List UInt8) (A : Option Addr) (g : Nat) (i : Value) (wr : World) : Prop := ∃ k : Nat, 64 * k ≤ r.length ∧ i = .int .i64 ((64 * k : Nat) : Int) ∧ SM w r A g (blkI V0 r k) wr
theorem V0_cells : V0.cells.toArray = #[.int .u32 1732584193, .int .u32 4023233417, .int .u32 2562383102, .int .u32 271733878, .int .u32 3285377520] := rfl

theorem rsum_any (A : Option Addr) (c : Nat) (b : List UInt8) (w : World) (hx : BAt w w.heap.size A b) (hl : b.length ≤ 3000) :
    Calls Try.prog 49 #[.slice A b.length c] w fun e w' => e = .returned (.agg (bcells (shaI b)).toArray) ∧ Below w.heap.size w w' := by
  obtain ⟨Z, hZ⟩ : ∃ Z, Z = (bcells (List.replicate 20 0)).toArray := ⟨_, rfl⟩
  have hz := fun W => zero28 W
  rw [← hZ] at hz
  obtain ⟨Z5, hZ5⟩ : ∃ Z, Z = (V5.cells ⟨0, 0, 0, 0, 0⟩).toArray := ⟨_, rfl⟩
  have hz5 := fun W => zero87 W
  rw [← hZ5] at hz5
  obtain ⟨w0, hw0⟩ : ∃ w0, w0 = w.alloc (.cells Z 54) := ⟨_, rfl⟩
  have a0 : w0.heap[w.heap.size]? = some (.cells Z 54 (0, 0)) := by rw [hw0]; exact heap_alloc_new w _
  have a1 : w0.heap.size = w.heap.size + 1 := by rw [hw0]; simp
  have a2 : Below w.heap.size w w0 := by rw [hw0]; exact (Below.refl _ w).alloc (Nat.le_refl _) _
  have HX0 := Lib.hid ((hx.below a2).more a2.size)
  have HW0 := Lib.hid hw0
  have HA0 := Lib.hid a0
  have HA1 := Lib.hid a1
  have HA2 := Lib.hid a2
  have HL := Lib.hid hl
  have hwb : IntKind.u64.wrap (b.length : Int) = (b.length : Int) := by rw [IntKind.wrap_u64]; omega
  obtain ⟨i0, hi, hz0, hz1, hz2⟩ := info_parts info5
  have HB5 := Lib.hid (fun W => built5 1732584193 4023233417 2562383102 271733878 3285377520 W)
  rw [← V0_cells] at HB5
  have HPW := Lib.hid (pad_whole b)
  have hpl : (padB b.length).length ≤ 72 := padB_length _
  have HPL := Lib.hid hpl
  have T1 : Hid ((Try.prog.info? 91).map (·.size) = some V0.cells.toArray.size) := Lib.hid size87
  have T2 : Hid (Z5.size = V0.cells.toArray.size) := Lib.hid (by rw [hZ5]; rfl)
  have T3 : Hid (V0.cells.toArray.all (·.oneCell') = true) := Lib.hid (cells_one V0)
  have HZ := Lib.hid hZ
  generalize hVA : V0.cells.toArray = VA at HB5 T1 T2 T3
  have HVA := Lib.hid hVA.symm
  clear hVA
  clear hx hl hw0 a0 a1 a2 hpl hZ hZ5
  go_enter Try.func49, Try.ntmps49
  go_upto_region 1 with fail
  rw [← HW0.out]
  go_upto_region 3 with (first
    | (at_builtin; refine wpList_append_src _ rfl (.tmp 9) (.tmp 10) _ _ rfl w0.heap.size 5 i0 _ 1 Try.underlying29 hi hz0 hz1 hz2 rfl (.slice (some ⟨w0.heap.size, 0, none⟩) 0 0) 0 [] rfl (World.ownsRow_made (e := 5) (size := 1) w0 #[] 0 (Nat.le_refl _) (Nat.zero_le _) rfl) _ b.length (bcells b) rfl ((HX0.out.below ((Below.refl _ w0).alloc (Nat.le_refl _) _)).src Try.underlying29 _) (by have := HL.out; simp only [maxLen]; omega) (by have := HL.out; omega) (by simp) ?_; intro v1 w1 hown1 hg1 hat1; have hb1 : Below w0.heap.size w0 w1 := ((Below.refl _ w0).alloc (Nat.le_refl _) _).grown hg1 (by simp) (by simp [Value.ownBlock]); have O1 : Hid (w1.ownsRow w0.heap.size 5 1 v1 b.length (bcells b)) := Lib.hid (by simpa using hown1); have HB1 := Lib.hid hb1; have HPD := Lib.hid (rpad_any b.length (by have := HL.out; omega) w1); clear hown1 hg1 hat1 hb1)
    | (go_at_call 61; refine (HPD.out).mono ?_; rintro e w2 ⟨v2, rfl, ho2, hb2⟩; obtain ⟨A2, c2, hv2⟩ := slice_of_own ho2; subst hv2; have O2 := Lib.hid (own_below O1.out hb2 (Nat.le_refl _)); have P2 := Lib.hid ho2; have HB2 := Lib.hid (HB1.out.trans (hb2.mono HB1.out.size)); clear ho2 hb2)
    | (at_builtin; refine wpList_append_src _ rfl (.tmp 11) (.tmp 15) _ _ rfl w0.heap.size 5 i0 _ 1 Try.underlying29 hi hz0 hz1 hz2 rfl v1 b.length (bcells b) rfl O2.out (.slice A2 (padB b.length).length c2) (padB b.length).length (bcells (padB b.length)) rfl (src_own P2.out) (by have := HL.out; have := HPL.out; simp only [maxLen]; omega) (by have := HL.out; have := HPL.out; omega) HB2.out.size ?_; intro v3 w3 hown3 hg3 hat3; obtain ⟨A3, c3, hv3⟩ := slice_of_own hown3; subst hv3; have O3 : Hid (w3.ownsRow w0.heap.size 5 1 (.slice A3 (b.length + (padB b.length).length) c3) (b.length + (padB b.length).length) (bcells (b ++ padB b.length))) := Lib.hid (by rw [bcells_append]; exact hown3); have HB3 := Lib.hid (HB2.out.grown hg3 HB2.out.size (fun k hk => (O2.out.lt k hk).1)); have HAL := Lib.hid (heap_alloc_new w3 (.cells Z5 91)); clear hown3 hg3 hat3)
    | ((with_reducible refine wpList_buildV (o := ⟨some 17, _, _, _, _, _⟩) rfl 91 _ rfl _ ?_ _ (HB5.out _) ?_); (simp only [List.map_toArray, List.map_cons, List.map_nil]; rfl))
    | ((with_reducible refine wpList_store_row rfl 91 (.tmp 4) (.tmp 17) rfl w3.heap.size VA ?_ ?_ 91 Z5 HAL.out T1.out T2.out T3.out ?_); rfl; rfl))
  have K4 := alloc_set' w3 Z5 VA 91 _ rfl
  generalize (w3.alloc (.cells Z5 91)).setRow w3.heap.size VA = W4 at K4 ⊢
  obtain ⟨q1, q2⟩ := K4
  obtain ⟨r, hr⟩ : ∃ r, r = b ++ padB b.length := ⟨_, rfl⟩
  have hrl : r.length = b.length + (padB b.length).length := by rw [hr, List.length_append]
  have o3 := O3.out
  have hw := HPW.out
  rw [← hr] at o3 hw
  rw [← hrl] at o3 ⊢
  have hb3 := HB3.out
  have hc3 : r.length ≤ c3 := own_cap o3
  have R0 : Hid (S1Rel w r A3 w3.heap.size (.int .i64 0) W4) := Lib.hid ⟨0, by omega, rfl, by
    refine ⟨?_, (BAt.of_own o3 (Nat.le_refl _)).below q2, ?_, ?_, HA2.out.trans ((hb3.mono HA2.out.size).trans (q2.mono (Nat.le_trans HA2.out.size hb3.size)))⟩
    · have := HA1.out
      have := hb3.size
      rw [q2.block _ (by omega), hb3.block _ (by omega), HA0.out, HZ.out]
    · rw [q1, HVA.out]
      rfl
    · have := HA1.out
      have := hb3.size
      omega⟩
  have HSHA : Hid (shaI b = idI (blkI V0 r (r.length / 64))) := Lib.hid (by rw [hr]; rfl)
  have HW64 := Lib.hid hw
  have hNl : r.length ≤ 3072 := by have := HL.out; omega
  have HNL := Lib.hid hNl
  have HC3 := Lib.hid hc3
  have hb4 : Hid (Below w.heap.size w W4) := Lib.hid R0.out.choose_spec.2.2.bel
  clear q1 q2 hr hrl o3 hw hb3 hc3 hNl O1 O2 O3 P2 HB1 HB2 HB3 HPD HX0 HB5 T1 T2 T3 HAL hwb
  generalize hg4 : w3.heap.size = g4 at R0 ⊢
  clear hg4
  go_wp2
  go_loopw [5] (S1Rel w r A3 g4) (fun i _ => r.length - (intOf i).toNat)
  case atStart => exact R0.out
  case round =>
    obtain ⟨k, hk, rfl, sm⟩ := hrel
    clear R0
    obtain ⟨q, hq⟩ : ∃ q, 64 * k = q := ⟨_, rfl⟩
    rw [hq] at hk
    by_cases hlt : q < r.length
    · have h64 := HW64.out
      have hq64 : q + 64 ≤ r.length := by omega
      have hbat : BAt wr wr.heap.size (cutA A3 c3 q) ((r.drop q).take 64) := ((sm.rr.more (Nat.le_of_lt sm.lt)).cut (by omega) HC3.out).takeB 64
      have hxl : ((r.drop q).take 64).length = 64 := by rw [List.length_take, List.length_drop]; omega
      have hsl : ∀ W, (Instr.slice 29 (.slice A3 r.length c3) (some (.int .i64 (q : Int))) (some (.int .i64 ((q : Int) + 64))) none).run Try.prog W = .ok (.slice (cutA A3 c3 q) 64 (c3 - q)) W := fun W => by
        have := HC3.out
        rw [run_slice_lh W 29 A3 r.length c3 under22 .i64 .i64 q (q + 64) (by omega) (by omega) (by omega), size5]
        have e1 : ((q : Int) + 64).toNat = q + 64 := by omega
        have e2 : ((q : Int)).toNat = q := by omega
        simp only [Result.andThen, sliced, cutA, e1, e2, Nat.mul_one, Nat.add_sub_cancel_left]
      have hqi : (q : Int) < (r.length : Int) := by omega
      have hadd : IntKind.i64.wrap ((q : Int) + 64) = (q : Int) + 64 := by rw [IntKind.wrap_i64]; have := HNL.out; omega
      obtain ⟨u, hu⟩ : ∃ u, u = blkI V0 r k := ⟨_, rfl⟩
      rw [← hu] at sm
      have hnext : blkI V0 r (k + 1) = aftI ((r.drop q).take 64) u := by rw [hu, ← hq]; rfl
      have HBLK := Lib.hid (rblock_any (cutA A3 c3 q) (c3 - q) ((r.drop q).take 64) u wr.drew hbat hxl)
      obtain ⟨u', hu'⟩ : ∃ u', u' = aftI ((r.drop q).take 64) u := ⟨_, rfl⟩
      rw [← hu'] at HBLK hnext
      have HLD : Hid ((loadVar 91 ⟨g4, 0, none⟩).run Try.prog wr.drew = .ok (.agg u.cells.toArray) wr.drew) := Lib.hid (load87 sm.r4)
      have HST : Hid (∀ w2, Below wr.drew.heap.size wr.drew w2 → w2.heap[g4]? = some (.cells u.cells.toArray 91 (0, 0)) ∧ S1Rel w r A3 g4 (.int .i64 ((q : Int) + 64)) (w2.setRow g4 u'.cells.toArray)) := Lib.hid (fun w2 hb => by
        have s2 := sm.below (W' := w2) ⟨hb.os, hb.tape, hb.output, hb.size, hb.block⟩
        exact ⟨s2.r4, k + 1, by omega, by congr 1; omega, by rw [hnext]; exact s2.set u'⟩)
      have T1 : Hid ((Try.prog.info? 91).map (·.size) = some u'.cells.toArray.size) := Lib.hid size87
      have T2 : Hid (u.cells.toArray.size = u'.cells.toArray.size) := Lib.hid rfl
      have T3 : Hid (u'.cells.toArray.all (·.oneCell') = true) := Lib.hid (cells_one u')
      generalize u.cells.toArray = UA at HBLK HLD HST T2
      generalize u'.cells.toArray = UB at HBLK HST T1 T2 T3
      rw [hq]
      clear sm hu hu' hnext hbat hxl h64 hq64 hq hk hlt hi hz0 hz1 hz2 hz hz5
      go_upto_region 6 with fail
      refine wp_region_any (by kernel_rfl) ?_
      try (change wpAny _ _ _ _ _ _ _ (World.drew _))
      refine take_at 1 25 (v := ?_) rfl rfl (by kernel_rfl) (by kernel_rfl) (by kernel_rfl) (fun _ _ _ h => h) (Or.inl ⟨by rfl, ?_⟩) ?_
      rotate_left
      · (intro wx; go_simp) <;> with_reducible rfl
      simp only [Act.put, List.setIfInBounds_toArray, List.set_cons_zero, List.set_cons_succ]
      refine take_at 2 26 (v := ?_) rfl rfl (by kernel_rfl) (by kernel_rfl) (by kernel_rfl) (fun _ _ _ h => h) (Or.inl ⟨by rfl, ?_⟩) ?_
      rotate_left
      · (intro wx; go_simp) <;> with_reducible rfl
      simp only [Act.put, List.setIfInBounds_toArray, List.set_cons_zero, List.set_cons_succ]
      refine take_at 3 27 (v := ?_) rfl rfl (by kernel_rfl) (by kernel_rfl) (by kernel_rfl) (fun _ _ _ h => h) (Or.inl ⟨by rfl, ?_⟩) ?_
      rotate_left
      · (intro wx; go_simp) <;> with_reducible rfl
      simp only [Act.put, List.setIfInBounds_toArray, List.set_cons_zero, List.set_cons_succ]
      refine take_at 4 28 (v := ?_) rfl rfl (by kernel_rfl) (by kernel_rfl) (by kernel_rfl) (fun _ _ _ h => h) (Or.inl ⟨by rfl, ?_⟩) ?_
      rotate_left
      · (intro wx; go_simp) <;> with_reducible rfl
      simp only [Act.put, List.setIfInBounds_toArray, List.set_cons_zero, List.set_cons_succ]
      refine take_at 5 29 (v := ?_) rfl rfl (by kernel_rfl) (by kernel_rfl) (by kernel_rfl) (fun _ _ _ h => h) (Or.inl ⟨by rfl, ?_⟩) ?_
      rotate_left
      · (intro wx; go_simp) <;> with_reducible rfl
      simp only [Act.put, List.setIfInBounds_toArray, List.set_cons_zero, List.set_cons_succ]
      refine wpAny_ready (rs := [0]) (by kernel_rfl) (by simp) ?_
      refine AllReady.cons rfl (fun K hK => ?_) ?_
      · refine step_loadV rfl 91 (.tmp 4) rfl _ rfl _ HLD.out ?_
        refine hK _ _ ?_
        clear hK K
        simp only [Act.put, List.setIfInBounds_toArray, List.set_cons_zero, List.set_cons_succ]
        refine wpAny_ready (rs := [6]) (by kernel_rfl) (by simp) ?_
        refine AllReady.cons rfl (fun K hK => ?_) ?_
        · go_simp
          refine (HBLK.out).mono ?_
          rintro e w2 ⟨rfl, hb2⟩
          refine hK _ _ ?_
          clear hK K
          obtain ⟨hst, hrel2⟩ := HST.out w2 hb2
          have HREL := Lib.hid hrel2
          have HS2 := Lib.hid hst
          clear hst hrel2
          try simp only [Act.put, List.setIfInBounds_toArray, List.set_cons_zero, List.set_cons_succ]
          refine wpAny_ready (rs := [7]) (by kernel_rfl) (by simp) ?_
          refine AllReady.cons rfl (fun K hK => ?_) ?_
          · refine step_store_row rfl 91 (.tmp 4) (.tmp 30) rfl g4 UB rfl rfl 91 UA HS2.out T1.out T2.out T3.out ?_
            refine hK _ _ ?_
            clear hK K
            try simp only [Act.put]
            refine wpAny_done (by kernel_rfl) ?_ _
            go_wp2
            go_roundw
            case rel => exact HREL.out
            case measure => simp [intOf]; omega
          exact AllReady.nil
        exact AllReady.nil
      exact AllReady.nil
    · have h64 := HW64.out
      have hkK : k = r.length / 64 := by omega
      have hqn : ¬ (q : Int) < (r.length : Int) := by omega
      obtain ⟨u, hu⟩ : ∃ u, u = blkI V0 r (r.length / 64) := ⟨_, rfl⟩
      rw [hkK, ← hu] at sm
      have hsha : shaI b = idI u := by rw [hu]; exact HSHA.out
      have HSM := Lib.hid sm
      have HSH2 := Lib.hid hsha
      have hsl := fun g W => run_id28 g W
      have HZl : Hid (Z = (bcells (List.replicate 20 0)).toArray) := HZ
      obtain ⟨ZL, hZL⟩ : ∃ ZL, ZL = bcells (List.replicate 20 0) := ⟨_, rfl⟩
      have hZeq : Z = ZL.toArray := by rw [hZL]; exact HZ.out
      have hZlen : ZL.length = 20 := by rw [hZL, bcells_length, List.length_replicate]
      subst hZeq
      have HZLL := Lib.hid hZlen
      have HZL := Lib.hid hZL
      rw [hq]
      clear sm hu hsha h64 hkK hk hlt hq hZL hZlen HZl hi hz0 hz1 hz2
      go_wp2
      generalize hwr : wr = wq at HSM ⊢
      clear hwr
      go_loopw [6, 7] (S2Rel wq u) (fun _ i _ => 5 - (intOf i).toNat)
      case atStart => exact ⟨0, [], none, 0, Nat.zero_le _, rfl, rfl, rfl, World.ownsRow_nil _ _ _ _, Below.refl _ _⟩
      case round =>
        obtain ⟨j, ys, A', c', hj, rfl, rfl, hys, hown, hbl⟩ := hrel
        by_cases hlt : j < 5
        · have hlen : ys.length ≤ 20 := by rw [hys.out, idJ_length]; omega
          have cw := cellw (HSM.out.below hbl).r4 hlt
          have hj' : (j : Int) < 5 := by omega
          have hP := rput_yes A' c' (nW (wAt u j)) 4 ys wr hown.bat (by omega) (nW_lt _) (by omega) (by omega)
          rw [← nW_wrap] at hP
          have R : ∀ v w', w'.ownsRow wr.heap.size 5 1 v (ys ++ putB (nW (wAt u j)) 4).length (bcells (ys ++ putB (nW (wAt u j)) 4)) → Below wr.heap.size wr w' → ∃ (A1 : Option Addr) (c1 : Nat) (ys' : List UInt8), v = .slice A1 ys'.length c1 ∧ S2Rel wq u (.slice A1 ys'.length c1) (.int .i64 ((j : Int) + 1)) w' := fun v w' q2 q3 => by
            obtain ⟨A1, c1, hv⟩ := slice_of_own q2
            subst hv
            exact ⟨A1, c1, ys ++ putB (nW (wAt u j)) 4, rfl, j + 1, ys ++ putB (nW (wAt u j)) 4, A1, c1, by omega, by go_num, rfl, Lib.hid (by rw [hys.out]; rfl), own_base q2 hbl.size, hbl.trans (q3.mono hbl.size)⟩
          have HP := Lib.hid hP
          have HR := Lib.hid R
          clear hP R hys hown hbl hj hlen
          go_wp2_with (go_at_call 63; refine (HP.out).mono ?_; rintro e w2 ⟨v2, rfl, q2, q3⟩; obtain ⟨A1, c1, ys', hv2, hrel2⟩ := HR.out v2 w2 q2 q3; subst hv2; have HREL := Lib.hid hrel2; clear hrel2 q2 q3)
          go_roundw
          case rel => exact HREL.out
          case measure => simp [intOf]; omega
        · obtain rfl : j = 5 := by omega
          have hyl : ys.length = 20 := by rw [hys.out, idJ_length]
          have hid : bcells ys = bcells (idI u) := by rw [hys.out]; rfl
          have hbl' : (bcells ys).length = 20 := by rw [bcells_length, hyl]
          have hZl : ZL.length = 20 := HZLL.out
          have sm2 := HSM.out.below hbl
          have hsp : splice ZL 0 (bcells ys) = bcells ys := by
            unfold splice
            rw [List.take_zero, Nat.zero_add, List.drop_eq_nil_of_le (by omega)]
            simp
          have R : ∀ w2, w2.heap[wr.heap.size]? = some (.cells (splice ZL 0 (bcells ys)).toArray 54 (0, 0)) → (wr.alloc (.cells ZL.toArray 54)).grownBy w2 (some wr.heap.size) →
              w2.rangeAt wr.heap.size 0 (bcells (idI u)) ∧ w2.there w.heap.size 0 20 ∧ Below w.heap.size w w2 := by
            intro w2 h2 g2
            rw [hsp, hid] at h2
            have hB : Below wr.heap.size wr w2 := ((Below.refl wr.heap.size wr).alloc (Nat.le_refl _) _).grown g2 (by simp) (fun k hk => by simp at hk; omega)
            have sm3 := sm2.below hB
            refine ⟨row_range h2, ?_, sm3.bel⟩
            have := row_there sm3.r0
            rw [bcells_length, List.length_replicate] at this
            exact this
          have HR := Lib.hid R
          have HN : Hid ((bcells ys).length = Nat.min 20 20) := Lib.hid (by rw [hbl']; rfl)
          have HP : Hid (0 < (bcells ys).length → ∃ ad, A' = some ad ∧ ∀ j u, (bcells ys)[j]? = some u → (wr.alloc (.cells ZL.toArray 54)).cell? (ad.add j) = some u) := Lib.hid (((hown.below ((Below.refl _ wr).alloc (Nat.le_refl _) _) (Nat.le_refl _)).bat).cells)
          have HF : Hid (0 + (bcells ys).length ≤ ZL.length) := Lib.hid (by omega)
          have HI : Hid ((bcells (idI u)).length = 20) := Lib.hid (by rw [← hid]; exact hbl')
          have HLy : Hid ((bcells ys).length = 20) := Lib.hid hbl'
          have HA : Hid ((wr.alloc (.cells ZL.toArray 54)).heap[wr.heap.size]? = some (.cells ZL.toArray 54 (0, 0))) := Lib.hid (heap_alloc_new wr _)
          have hI := HI.out
          have HS1 : Hid ((Try.prog.info? 54).map (·.size) = some (bcells (idI u)).length) := Lib.hid (by rw [hI]; exact size28)
          have HS2 : Hid ((Try.prog.info? 54).map (·.size) = some (bcells (idI u)).toArray.size) := Lib.hid (by rw [List.size_toArray, hI]; exact size28)
          have HT : Hid (∀ w2 : World, w2.there w.heap.size 0 20 → w2.there w.heap.size 0 (bcells (idI u)).toArray.size) := Lib.hid (fun w2 h => by rw [show (bcells (idI u)).toArray.size = 20 from (List.size_toArray).trans hI]; exact h)
          rw [hyl]
          clear hj hlt hys hown hbl hyl hid hbl' hZl hsp R hI sm2
          go_wp2_with (first
            | ((with_reducible refine wpList_copy_row (o := ⟨some 43, _, _, _, _, _⟩) rfl (.tmp 41) (.tmp 42) 29 29 rfl 5 Try.underlying29 ?_ (some ⟨wr.heap.size, 0, none⟩) A' 20 20 20 c' ?_ ?_ wr.heap.size 0 _ 54 HA.out _ HN.out (fun hp => ⟨rfl, HP.out hp⟩) HF.out (bcells_one _) ?_); kernel_rfl; rfl; rfl; intro w2 q1 q2; have HQ := Lib.hid (HR.out w2 q1 q2); clear q1 q2; rw [HLy.out])
            | ((with_reducible refine wpList_load_mid (op := ⟨some 44, _, _, _, _, _⟩) rfl 54 (.tmp 8) rfl wr.heap.size 0 ?_ (bcells (idI u)) _ HQ.out.1 Try.underlying54 rfl HS1.out ?_); rfl; refine wpList_store_mid rfl 54 (.tmp 2) (.tmp 44) rfl w.heap.size 0 (bcells (idI u)).toArray rfl rfl (HT.out _ HQ.out.2.1) HS2.out (all_oneCell_toArray (bcells_one _)) ?_))
          refine bodyPost_ret (v := .agg (bcells (idI u)).toArray) ?_ rfl ⟨by rw [HSH2.out], ?_⟩
          · exact results_cell1 (p := 2) (ty := 54) rfl _ _ w.heap.size 0 (bcells (idI u)) _ rfl (World.rangeAt_setCells_same _ _ _ _ (by rw [HI.out]; exact HQ.out.2.1)) Try.underlying54 rfl HS1.out
          · exact below_cells (Nat.le_refl _) _ 0 _ HQ.out.2.2
end Go.Proofs.Ytjiiignbejbiiaa
