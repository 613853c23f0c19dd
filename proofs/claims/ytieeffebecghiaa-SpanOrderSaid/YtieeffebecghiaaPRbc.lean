/- Contracts of With of package ident and of its reference, for any bit. Conditions: an id has 20 bytes. -/
import Derived.Test.YtieeffebecghiaaPRbb
namespace Go.Proofs.Ytieeffebecghiaa
set_option maxRecDepth 100000
set_option maxHeartbeats 400000
open Go.RowKit Go.Great

structure IdEnd2 (W : World) (g g' : Nat) (L : List Value) : Prop where
  q1 : W.rangeAt g 0 L
  ht : W.there g' 0 L.toArray.size
  hs : (W.setCells g' 0 L).rangeAt g' 0 L
  hi : (Try.prog.info? 26).map (·.size) = some L.toArray.size
  hj : (Try.prog.info? 26).map (·.size) = some L.length
  hc : L.toArray.all (·.oneCell') = true
theorem idEnd2 {W : World} {g g' : Nat} {t t' : TypeId} {xs zs : List UInt8} (hx : xs.length = 20) (hz : zs.length = 20) (h : W.heap[g]? = some (.cells (bcells xs).toArray t (0, 0))) (h' : W.heap[g']? = some (.cells (bcells zs).toArray t' (0, 0))) : IdEnd2 W g g' (bcells xs) := by
  have E := idEnd hx hz h h'
  have hl : (bcells xs).length = 20 := by rw [bcells_length, hx]
  have hsz : (bcells xs).toArray.size = 20 := (List.size_toArray).trans hl
  exact ⟨E.q1, E.ht, E.hs, by rw [hsz]; exact size42, by rw [hl]; exact size42, E.hc⟩
def withI (xs : List UInt8) (i bit : Int) : List UInt8 := if 0 ≤ i ∧ i < 160 then withL xs i.toNat (decide (bit ≠ 0)) else xs
theorem with_no (xs : List UInt8) (hx : xs.length = 20) (i bit : Int) (h : ¬ (0 ≤ i ∧ i < 160)) (w : World) :
    Calls Try.prog 40 #[.agg (bcells xs).toArray, .int .i64 i, .int .i64 bit] w fun e w' => e = .returned (.agg (bcells xs).toArray) ∧ Below w.heap.size w w' := by
  obtain ⟨Z, hZ⟩ : ∃ Z, Z = (bcells (List.replicate 20 0)).toArray := ⟨_, rfl⟩
  have hz := fun W => zero26 W
  rw [← hZ] at hz
  have HP := Lib.hid (fun W => isPlace_no i W h)
  obtain ⟨h1, h2, h4⟩ := heap2 w (.cells (bcells xs).toArray 23) (.cells Z 23)
  have HE := Lib.hid (idEnd (zs := List.replicate 20 0) hx (by simp) h1 (by rw [h2, hZ]))
  have HB := Lib.hid h4
  generalize bcells xs = L at HE HB ⊢
  clear hZ h h1 h2 h4 hx
  go_enter Try.func40, Try.ntmps40
  go_wp2_with (first
    | (go_at_call 37; refine (HP.out _).mono ?_; rintro e w1 ⟨rfl, rfl⟩)
    | ((with_reducible refine wpList_load_mid (op := ⟨some 10, _, _, _, _, _⟩) rfl 23 (.tmp 3) rfl w.heap.size 0 ?_ L _ HE.out.q1 Try.underlying23 rfl HE.out.hj ?_); rfl; refine wpList_store_mid rfl 23 (.tmp 6) (.tmp 10) rfl (w.heap.size + 1) 0 L.toArray rfl rfl HE.out.ht HE.out.hi HE.out.hc ?_))
  refine bodyPost_ret (v := .agg L.toArray) ?_ rfl ?_
  · exact results_cell1 (p := 6) (ty := 23) rfl _ _ (w.heap.size + 1) 0 L _ rfl (by simpa using HE.out.hs) Try.underlying23 rfl HE.out.hj
  · exact ⟨rfl, by simpa using below_cells (by omega) L 0 _ HB.out⟩
theorem with_any (xs : List UInt8) (hx : xs.length = 20) (i bit : Int) (w : World) :
    Calls Try.prog 40 #[.agg (bcells xs).toArray, .int .i64 i, .int .i64 bit] w fun e w' => e = .returned (.agg (bcells (withI xs i bit)).toArray) ∧ Below w.heap.size w w' := by
  unfold withI
  by_cases h : 0 ≤ i ∧ i < 160
  · rw [if_pos h]
    obtain ⟨j, rfl⟩ : ∃ j : Nat, i = j := ⟨i.toNat, by omega⟩
    exact with_yes xs hx j (by omega) bit w
  · rw [if_neg h]
    exact with_no xs hx i bit h w

theorem wpList_loadG {P : Program} {ops : Array Oper} {rest : List Oper} {op : Oper} {a : Act} {w : World} {Q : Exit → Act → World → Prop} (hw : Region.wanted op (yielded ops a.tmps) = true) (ty : TypeId) (x : Operand) (ho : op.op = .load ty x) (p : Addr) (hx : a.eval x = .pointer (some p)) (v : Value) (hl : (loadVar ty p).run P w = .ok v w)
    (h : wpList P ops Q rest (a.put op.dst v) w) : wpList P ops Q (op :: rest) a w :=
  wpList_step fun _ hK => by
    rw [if_pos hw]
    exact wp_loadV ty x ho p hx v hl (hK _ _ h)

/-- The reference's With where nothing is to be turned. -/
theorem rwith_same (xs : List UInt8) (hx : xs.length = 20) (i bit : Int) (h : ¬ (0 ≤ i ∧ i < 160) ∨ bitI xs i = (if bit = 0 then 0 else 1)) (w : World) :
    Calls Try.prog 36 #[.agg (bcells xs).toArray, .int .i64 i, .int .i64 bit] w fun e w' => e = .returned (.agg (bcells xs).toArray) ∧ Below w.heap.size w w' := by
  obtain ⟨Z, hZ⟩ : ∃ Z, Z = (bcells (List.replicate 20 0)).toArray := ⟨_, rfl⟩
  have hz := fun W => zero42 W
  rw [← hZ] at hz
  have hBt := fun W => rbit_any xs hx i W
  obtain ⟨h1, h2, h4⟩ := heap2 w (.cells (bcells xs).toArray 26) (.cells Z 26)
  have hk : (loadVar 26 ⟨w.heap.size, 0, none⟩).run Try.prog ((w.alloc (.cells (bcells xs).toArray 26)).alloc (.cells Z 26)) = .ok (.agg (bcells xs).toArray) ((w.alloc (.cells (bcells xs).toArray 26)).alloc (.cells Z 26)) := load42 hx h1
  have HK := Lib.hid hk
  have HBT := Lib.hid hBt
  have hend : ∀ W2, Below (w.heap.size + 2) ((w.alloc (.cells (bcells xs).toArray 26)).alloc (.cells Z 26)) W2 → IdEnd2 W2 w.heap.size (w.heap.size + 1) (bcells xs) ∧ Below w.heap.size w W2 := fun W2 hb =>
    ⟨idEnd2 (t := 26) (t' := 26) (zs := List.replicate 20 0) hx (by simp) (by rw [hb.block _ (by omega), h1]) (by rw [hb.block _ (by omega), h2, hZ]), h4.trans (hb.mono (by omega))⟩
  have HEND := Lib.hid hend
  have hs0 : ((w.alloc (.cells (bcells xs).toArray 26)).alloc (.cells Z 26)).heap.size = w.heap.size + 2 := by simp
  have HS0 := Lib.hid hs0
  generalize bcells xs = L at HEND HK HBT HS0 ⊢
  clear hZ hBt h1 h2 h4 hk hend hs0
  by_cases hr : 0 ≤ i ∧ i < 160
  · obtain ⟨r1, r2⟩ := hr
    have hbit : bitI xs i = if bit = 0 then 0 else 1 := h.resolve_left (fun hn => hn ⟨r1, r2⟩)
    rw [hbit] at HBT
    have n0 : ¬ i < 0 := by omega
    have n1 : ¬ 160 ≤ i := by omega
    clear h hbit hx r1 r2
    by_cases hb : bit = 0
    all_goals
      first | rw [if_pos hb] at HBT | rw [if_neg hb] at HBT
      try subst hb
      go_enter Try.func36, Try.ntmps36
      go_wp2_with (first
        | (go_at_call 31; refine (HBT.out _).mono ?_; rintro e w2 ⟨rfl, hb2⟩; rw [HS0.out] at hb2; obtain ⟨E, hB⟩ := HEND.out w2 hb2; have HE := Lib.hid E; have HB := Lib.hid hB; clear E hB hb2)
        | ((with_reducible refine wpList_loadG (op := ⟨some 17, _, _, _, _, _⟩) ?_ 26 (.tmp 3) rfl _ ?_ _ HK.out ?_); rfl; rfl)
        | ((with_reducible refine wpList_load_mid (op := ⟨some 23, _, _, _, _, _⟩) rfl 26 (.tmp 3) rfl w.heap.size 0 ?_ L _ HE.out.q1 Try.underlying26 rfl HE.out.hj ?_); rfl; refine wpList_store_mid rfl 26 (.tmp 6) (.tmp 23) rfl (w.heap.size + 1) 0 L.toArray rfl rfl HE.out.ht HE.out.hi HE.out.hc ?_))
      refine bodyPost_ret (v := .agg L.toArray) ?_ rfl ?_
      · exact results_cell1 (p := 6) (ty := 26) rfl _ _ (w.heap.size + 1) 0 L _ rfl (by simpa using HE.out.hs) Try.underlying26 rfl HE.out.hj
      · exact ⟨rfl, by simpa using below_cells (by omega) L 0 _ HB.out⟩
  · obtain ⟨E, hB⟩ := HEND.out _ (Below.refl _ _)
    have HE := Lib.hid E
    have HB := Lib.hid hB
    clear E hB h
    by_cases h0 : i < 0
    all_goals
      try (have h160 : 160 ≤ i := by omega)
      clear hr
      by_cases hb : bit = 0
      all_goals
        try subst hb
        go_enter Try.func36, Try.ntmps36
        go_wp2_with ((with_reducible refine wpList_load_mid (op := ⟨some 23, _, _, _, _, _⟩) rfl 26 (.tmp 3) rfl w.heap.size 0 ?_ L _ HE.out.q1 Try.underlying26 rfl HE.out.hj ?_); rfl; refine wpList_store_mid rfl 26 (.tmp 6) (.tmp 23) rfl (w.heap.size + 1) 0 L.toArray rfl rfl HE.out.ht HE.out.hi HE.out.hc ?_)
        refine bodyPost_ret (v := .agg L.toArray) ?_ rfl ?_
        · exact results_cell1 (p := 6) (ty := 26) rfl _ _ (w.heap.size + 1) 0 L _ rfl (by simpa using HE.out.hs) Try.underlying26 rfl HE.out.hj
        · exact ⟨rfl, by simpa using below_cells (by omega) L 0 _ HB.out⟩
end Go.Proofs.Ytieeffebecghiaa
