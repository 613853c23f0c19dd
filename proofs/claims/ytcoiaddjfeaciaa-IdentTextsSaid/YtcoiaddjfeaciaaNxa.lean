/- Contract of Next of package ident. Conditions: an id has 20 bytes. -/
import Derived.Test.YtcoiaddjfeaciaaRbg
import Derived.Test.YtcoiaddjfeaciaaIdg
import Derived.Deep.RegionHeld3
namespace Go.Proofs.Ytcoiaddjfeaciaa
set_option maxRecDepth 100000
set_option maxHeartbeats 400000
open Go.RowKit Go.Great

theorem yieldsIf_buildV {P : Program} {ops : Array Oper} {S : World → Prop} {op : Oper} {a : Act} (hw : Region.wanted op (yielded ops a.tmps) = true) (t : TypeId) (parts : Array (Nat × Operand)) (ho : op.op = .build t parts) (vs : Array (Nat × Value)) (hv : (parts.map fun (i, x) => (i, a.eval x)) = vs) (v : Value) (hr : ∀ W, (Instr.build t vs).run P W = .ok v W) : YieldsIf P ops S op v a :=
  .inl ⟨hw, fun w _ => by
    unfold execOp
    simp only [ho, hv, Sem.run_bind, hr, Result.andThen_ok]
    rfl⟩
theorem step_store_mid {P : Program} {ops : Array Oper} {o : Oper} {a : Act} {w : World} {K : Act → World → Prop} {Q : Exit → Act → World → Prop} {E : Prop} (hgd : o.guard = none) (ty : TypeId) (x y : Operand) (ho : o.op = .store ty x y)
    (b off : Nat) (cells : Array Value) (hx : a.eval x = .pointer (some ⟨b, off, none⟩)) (hy : a.eval y = .agg cells)
    (ht : w.there b off cells.size) (hi : (P.info? ty).map (·.size) = some cells.size) (h1 : cells.all (·.oneCell') = true)
    (h : K (a.put o.dst undef) (w.setCells b off cells.toList)) : if Region.wanted o (yielded ops a.tmps) = true then Oper.wp P o a w K Q else E := by
  have hw : Region.wanted o (yielded ops a.tmps) = true := by simp [Region.wanted, hgd]
  rw [if_pos hw]
  exact wp_store_mid ty x y ho b off cells hx hy ht hi h1 h

def NxtRel (w : World) (xs : List UInt8) (i : Value) (wr : World) : Prop :=
  ∃ j : Nat, j ≤ 20 ∧ i = .int .i64 (j : Int) ∧ (∀ k, 20 - j ≤ k → k < 20 → xs.getD k 0 = 255) ∧ wr.heap[w.heap.size]? = some (.cells (bcells (zl xs j)).toArray 26 (0, 0)) ∧ wr.heap[w.heap.size + 1]? = some (.cells (bcells (List.replicate 20 0)).toArray 26 (0, 0)) ∧ Below w.heap.size w wr

/-- Two results, one that lies in memory. -/
theorem results_cell_tmp {fn : Func} {p q : Tmp} {ty : TypeId} (h : fn.results = #[.cell p ty, .tmp q]) {P : Program} (tmps : Array Value) (w : World) (b o : Nat) (cs : List Value) (d : TypeDesc) (v : Value) (hp : tmps.getD p undef = .pointer (some ⟨b, o, none⟩)) (hq : tmps.getD q undef = v)
    (hc : w.rangeAt b o cs) (hu : P.underlying ty = some d) (hd : d.isRow = true) (hi : (P.info? ty).map (·.size) = some cs.length) : (results fn tmps).run P w = .ok (.tuple #[.agg cs.toArray, v]) w := by
  have h1 := run_loadVar_mid (P := P) w b o ty cs d hc hu hd hi
  have hp' : tmps[p]?.getD undef = .pointer (some ⟨b, o, none⟩) := by simpa using hp
  have hq' : tmps[q]?.getD undef = v := by simpa using hq
  simp [results, h, hp', hq', h1, asAddr]
/-- What the end of Next asks. -/
theorem next_facts {w wr : World} {r : List UInt8} (hr : r.length = 20) (h1 : wr.heap[w.heap.size]? = some (.cells (bcells r).toArray 26 (0, 0))) (h2 : wr.heap[w.heap.size + 1]? = some (.cells (bcells (List.replicate 20 0)).toArray 26 (0, 0))) :
    IdEnd wr w.heap.size (w.heap.size + 1) (bcells r) ∧ (wr.setCells (w.heap.size + 1) 0 (bcells r)).rangeAt w.heap.size 0 (bcells r) := by
  refine ⟨idEnd hr (by simp) h1 h2, fun i v hv => ?_⟩
  have hb := (below_cells (B := w.heap.size + 1) (Nat.le_refl _) (bcells r) 0 wr (Below.refl _ wr))
  have := (hb.cell (p := ⟨w.heap.size, 0 + i, none⟩) (by show w.heap.size < w.heap.size + 1; omega))
  rw [this]
  exact row_range h1 i v hv

def NextPost (xs : List UInt8) (w : World) (e : Ending) (w' : World) : Prop := ∃ r ok, NextIs xs r ok ∧ e = .returned (.tuple #[.agg (bcells r).toArray, .bool ok]) ∧ Below w.heap.size w w'

theorem next_any (xs : List UInt8) (hx : xs.length = 20) (w : World) :
    Calls Try.prog 22 #[.agg (bcells xs).toArray] w (NextPost xs w) := by
  obtain ⟨h1, h2, h4⟩ := heap2 w (.cells (bcells xs).toArray 26) (.cells (bcells (List.replicate 20 0)).toArray 26)
  have HR0 : Hid (NxtRel w xs (.int .i64 0) ((w.alloc (.cells (bcells xs).toArray 26)).alloc (.cells (bcells (List.replicate 20 0)).toArray 26))) := Lib.hid ⟨0, by omega, rfl, fun k hk => by omega, by rw [zl_zero xs hx]; exact h1, h2, h4⟩
  have HX := Lib.hid hx
  have hz := fun W => zero26 W
  have hbz := fun W => built61 W
  have HEQ := Lib.hid (fun (r : List UInt8) (hr : r.length = 20) W => eq61 r (List.replicate 20 0) hr (by simp) W)
  clear h1 h2 h4 hx
  obtain ⟨Z, hZ⟩ : ∃ Z, Z = (bcells (List.replicate 20 0)).toArray := ⟨_, rfl⟩
  rw [← hZ] at hz hbz HR0
  simp only [← hZ] at HEQ
  have HZ := Lib.hid hbz
  generalize (bcells xs).toArray = X at HR0 ⊢
  clear hZ hbz
  go_enter Try.func22, Try.ntmps22
  go_wp2
  clear hz
  go_loopw [6] (NxtRel w xs) (fun i _ => 20 - (intOf i).toNat)
  case atStart => exact HR0.out
  case round =>
    obtain ⟨j, hj, rfl, hall, hq, ho, hb⟩ := hrel
    clear HR0
    have hx := HX.out
    by_cases hlt : j < 20
    · obtain ⟨q, hqj⟩ : ∃ q, 19 - j = q := ⟨_, rfl⟩
      have hq20 : q < 20 := by omega
      have hlz := zl_length xs j hx (by omega)
      have c1 : wr.cell? ⟨w.heap.size, q, none⟩ = some (.int .u8 ((xs.getD q 0).toNat : Int)) := by
        have := row_byte hq q (by omega)
        rw [zl_get xs j q hx (by omega), if_pos (by omega)] at this
        exact this
      have fr := frozen_of_row wr w.heap.size q _ 26 hq
      have s1 := fun v : UInt8 => heap_setCell_same wr w.heap.size q _ 26 (.int .u8 (v.toNat : Int)) hq
      simp only [bcells_set] at s1
      have s2 := fun v : UInt8 => (Below.heap_setCell wr ⟨w.heap.size, q, none⟩ (.int .u8 (v.toNat : Int)) (w.heap.size + 1) (by simp)).trans ho
      have hsub : (19 : Int) - (j : Int) = (q : Int) := by omega
      have hwq : IntKind.i64.wrap (q : Int) = (q : Int) := by rw [IntKind.wrap_i64]; omega
      have hq3 : (q : Int) < 20 := by omega
      have hadd : (((xs.getD q 0).toNat : Int) + 1) % 256 = ((xs.getD q 0 + 1).toNat : Int) := by
        rw [UInt8.toNat_add]
        have : (1 : UInt8).toNat = 1 := rfl
        rw [this]
        omega
      by_cases h255 : xs.getD q 0 = 255
      · have R : NxtRel w xs (.int .i64 ((j : Int) + 1)) (wr.setCell ⟨w.heap.size, q, none⟩ (.int .u8 0)) := by
          refine ⟨j + 1, by omega, by go_num, fun k hk1 hk2 => ?_, ?_, s2 0, hb.setCell (p := ⟨w.heap.size, q, none⟩) (Nat.le_refl _) _⟩
          · by_cases hkq : k = q
            · rw [hkq]
              exact h255
            · exact hall k (by omega) hk2
          · have := s1 0
            rw [← hqj, zl_set xs j hx hlt, hqj] at this
            exact this
        have HR := Lib.hid R
        rw [h255] at c1 hadd
        have h0 : ((255 : UInt8) + 1).toNat = 0 := by decide
        have h1 : (255 : UInt8).toNat = 255 := rfl
        rw [h1] at c1
        clear hq ho hb R s1 s2 hx hall hadd h0 h1 h255 HEQ
        go_wp2
        go_roundw
        case rel => exact HR.out
        case measure => simp [intOf]; omega
      · obtain ⟨i, hi⟩ := next_at xs j hx hlt (fun k h1 h2 => hall k (by omega) h2) (by rw [hqj]; exact h255)
        rw [hqj] at hi
        obtain ⟨r, hrr⟩ : ∃ r, r = (zl xs j).set q (xs.getD q 0 + 1) := ⟨_, rfl⟩
        rw [← hrr] at hi
        have t1 := s1 (xs.getD q 0 + 1)
        rw [← hrr] at t1
        have HN : Hid (NextIs xs r true) := Lib.hid (.inl ⟨rfl, i, hi⟩)
        have hrl : r.length = 20 := hi.2.2.2.1
        have heq := fun W => HEQ.out r hrl W
        have hne : (r == List.replicate 20 0) = false := beq_eq_false_iff_ne.2 hi.ne
        simp only [hne] at heq
        have hnz : ¬ (((xs.getD q 0 + 1).toNat : Int) = 0) := by
          have hl := (xs.getD q 0).toNat_lt
          have : (xs.getD q 0).toNat ≠ 255 := fun e => h255 (UInt8.toNat.inj (by simpa using e))
          omega
        have HBX := hb.setCell (p := ⟨w.heap.size, q, none⟩) (Nat.le_refl _) (.int .u8 ((xs.getD q 0 + 1).toNat : Int))
        have HB := Lib.hid HBX.drew
        obtain ⟨E, hrange⟩ := next_facts (wr := (wr.setCell ⟨w.heap.size, q, none⟩ (.int .u8 ((xs.getD q 0 + 1).toNat : Int))).drew) hrl t1 (s2 (xs.getD q 0 + 1))
        obtain ⟨L, hL⟩ : ∃ L, L = bcells r := ⟨_, rfl⟩
        rw [← hL] at E hrange
        simp only [← hL] at heq
        have HE := Lib.hid E
        have HRR := Lib.hid hrange
        have HL := Lib.hid hL
        generalize (xs.getD q 0 + 1).toNat = c at hadd hnz HE HRR HB
        generalize (xs.getD q 0).toNat = b at c1 hadd
        clear hq ho hb s1 s2 hx hall h255 HEQ hi t1 hne E hrange hL HBX hlz hrr hrl HX
        go_upto_region 8 with fail
        refine wp_region_noPanic ?_
        refine wp_region_held_drew (S := fun w' => w'.rangeAt w.heap.size 0 L) (by kernel_rfl) HE.out.q1 (fun hHeld => ?_)
        refine takeH_at 0 21 (v := .agg L.toArray) rfl rfl (by kernel_rfl) (by kernel_rfl) (by kernel_rfl) (fun _ _ _ h => h) (yieldsIf_load_mid (by rfl) 26 (.tmp 1) rfl w.heap.size 0 rfl L _ (fun _ h => h) Try.underlying26 rfl HE.out.hj) (by assumption) ?_
        simp only [Act.put, List.setIfInBounds_toArray, List.set_cons_zero, List.set_cons_succ]
        refine takeH_at 1 22 (v := .agg L.toArray) rfl rfl (by kernel_rfl) (by kernel_rfl) (by kernel_rfl) (fun _ _ _ h => h) (yieldsIf_load_mid (by rfl) 26 (.tmp 1) rfl w.heap.size 0 rfl L _ (fun _ h => h) Try.underlying26 rfl HE.out.hj) (by assumption) ?_
        simp only [Act.put, List.setIfInBounds_toArray, List.set_cons_zero, List.set_cons_succ]
        refine takeH_at 2 23 (v := .agg Z) rfl rfl (by kernel_rfl) (by kernel_rfl) (by kernel_rfl) (fun _ _ _ h => h) (yieldsIf_buildV (by rfl) 26 _ rfl #[] (by simp) _ HZ.out) (by assumption) ?_
        simp only [Act.put, List.setIfInBounds_toArray, List.set_cons_zero, List.set_cons_succ]
        refine takeH_at 3 24 (v := ?_) rfl rfl (by kernel_rfl) (by kernel_rfl) (by kernel_rfl) (fun _ _ _ h => h) (Or.inl ⟨by rfl, ?_⟩) (by assumption) ?_
        rotate_left
        · (intro wx hSw; clear hSw; go_simp) <;> with_reducible rfl
        simp only [Act.put, List.setIfInBounds_toArray, List.set_cons_zero, List.set_cons_succ]
        refine wpAnyH_ready (rs := [4]) (by kernel_rfl) (by simp) ?_
        refine AllReadyH.cons rfl (fun K hK => ?_) ?_
        · refine step_store_mid rfl 26 (.tmp 2) (.tmp 21) rfl (w.heap.size + 1) 0 L.toArray rfl rfl HE.out.ht HE.out.hi HE.out.hc ?_
          refine hK.out _ _ HRR.out (fun hHeld2 => ?_)
          clear hK K
          simp only [Act.put, List.setIfInBounds_toArray, List.set_cons_zero, List.set_cons_succ]
          refine takeH_at 5 3 (v := ?_) rfl rfl (by kernel_rfl) (by kernel_rfl) (by kernel_rfl) (fun _ _ _ h => h) (Or.inl ⟨by rfl, ?_⟩) (by assumption) ?_
          rotate_left
          · (intro wx hSw; clear hSw; go_simp) <;> with_reducible rfl
          simp only [Act.put, List.setIfInBounds_toArray, List.set_cons_zero, List.set_cons_succ]
          refine wpAnyH_done (by kernel_rfl) ?_ _
          refine NoPanic.normal ?_
          go_wp2
          refine bodyPost_ret (v := .tuple #[.agg L.toArray, .bool true]) ?_ rfl ?_
          · exact results_cell_tmp (p := 2) (ty := 26) (q := 3) rfl _ _ (w.heap.size + 1) 0 L _ (.bool true) rfl rfl (by simpa using HE.out.hs) Try.underlying26 rfl HE.out.hj
          · exact ⟨_, _, HN.out, by rw [← HL.out], by simpa using below_cells (by omega) L 0 _ HB.out⟩
        exact AllReadyH.nil
    · obtain rfl : j = 20 := by omega
      have hall' := next_all xs (fun k hk => hall k (by omega) hk)
      have HN : Hid (NextIs xs (List.replicate 20 0) false) := Lib.hid (.inr ⟨rfl, rfl, hall'⟩)
      have heq := fun W => HEQ.out (List.replicate 20 0) (by simp) W
      simp only [beq_self_eq_true] at heq
      rw [zl_full] at hq
      obtain ⟨E, hrange⟩ := next_facts (wr := wr.drew) (by simp) hq ho
      obtain ⟨L, hL⟩ : ∃ L, L = bcells (List.replicate 20 0) := ⟨_, rfl⟩
      rw [← hL] at E hrange
      simp only [← hL] at heq
      have HE := Lib.hid E
      have HRR := Lib.hid hrange
      have HL := Lib.hid hL
      have HB := Lib.hid hb.drew
      clear hq ho hb hx hall HEQ E hrange hL HX hall' hlt hj
      go_upto_region 8 with fail
      refine wp_region_noPanic ?_
      refine wp_region_held_drew (S := fun w' => w'.rangeAt w.heap.size 0 L) (by kernel_rfl) HE.out.q1 (fun hHeld => ?_)
      refine takeH_at 0 21 (v := .agg L.toArray) rfl rfl (by kernel_rfl) (by kernel_rfl) (by kernel_rfl) (fun _ _ _ h => h) (yieldsIf_load_mid (by rfl) 26 (.tmp 1) rfl w.heap.size 0 rfl L _ (fun _ h => h) Try.underlying26 rfl HE.out.hj) (by assumption) ?_
      simp only [Act.put, List.setIfInBounds_toArray, List.set_cons_zero, List.set_cons_succ]
      refine takeH_at 1 22 (v := .agg L.toArray) rfl rfl (by kernel_rfl) (by kernel_rfl) (by kernel_rfl) (fun _ _ _ h => h) (yieldsIf_load_mid (by rfl) 26 (.tmp 1) rfl w.heap.size 0 rfl L _ (fun _ h => h) Try.underlying26 rfl HE.out.hj) (by assumption) ?_
      simp only [Act.put, List.setIfInBounds_toArray, List.set_cons_zero, List.set_cons_succ]
      refine takeH_at 2 23 (v := .agg Z) rfl rfl (by kernel_rfl) (by kernel_rfl) (by kernel_rfl) (fun _ _ _ h => h) (yieldsIf_buildV (by rfl) 26 _ rfl #[] (by simp) _ HZ.out) (by assumption) ?_
      simp only [Act.put, List.setIfInBounds_toArray, List.set_cons_zero, List.set_cons_succ]
      refine takeH_at 3 24 (v := ?_) rfl rfl (by kernel_rfl) (by kernel_rfl) (by kernel_rfl) (fun _ _ _ h => h) (Or.inl ⟨by rfl, ?_⟩) (by assumption) ?_
      rotate_left
      · (intro wx hSw; clear hSw; go_simp) <;> with_reducible rfl
      simp only [Act.put, List.setIfInBounds_toArray, List.set_cons_zero, List.set_cons_succ]
      refine wpAnyH_ready (rs := [4]) (by kernel_rfl) (by simp) ?_
      refine AllReadyH.cons rfl (fun K hK => ?_) ?_
      · refine step_store_mid rfl 26 (.tmp 2) (.tmp 21) rfl (w.heap.size + 1) 0 L.toArray rfl rfl HE.out.ht HE.out.hi HE.out.hc ?_
        refine hK.out _ _ HRR.out (fun hHeld2 => ?_)
        clear hK K
        simp only [Act.put, List.setIfInBounds_toArray, List.set_cons_zero, List.set_cons_succ]
        refine takeH_at 5 3 (v := ?_) rfl rfl (by kernel_rfl) (by kernel_rfl) (by kernel_rfl) (fun _ _ _ h => h) (Or.inl ⟨by rfl, ?_⟩) (by assumption) ?_
        rotate_left
        · (intro wx hSw; clear hSw; go_simp) <;> with_reducible rfl
        simp only [Act.put, List.setIfInBounds_toArray, List.set_cons_zero, List.set_cons_succ]
        refine wpAnyH_done (by kernel_rfl) ?_ _
        refine NoPanic.normal ?_
        go_wp2
        refine bodyPost_ret (v := .tuple #[.agg L.toArray, .bool false]) ?_ rfl ?_
        · exact results_cell_tmp (p := 2) (ty := 26) (q := 3) rfl _ _ (w.heap.size + 1) 0 L _ (.bool false) rfl rfl (by simpa using HE.out.hs) Try.underlying26 rfl HE.out.hj
        · exact ⟨_, _, HN.out, by rw [← HL.out], by simpa using below_cells (by omega) L 0 _ HB.out⟩
      exact AllReadyH.nil
end Go.Proofs.Ytcoiaddjfeaciaa
