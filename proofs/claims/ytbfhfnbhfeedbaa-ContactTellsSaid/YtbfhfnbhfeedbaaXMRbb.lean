/- Contracts of With of package ident and of its reference. Conditions: an id has 20 bytes. Contracts of With of package ident and of its reference, for any bit. Conditions: an id has 20 bytes. -/
import Derived.Test.YtbfhfnbhfeedbaaXMRba
import Derived.StillTailTactics
section
namespace Go.Proofs.Ytbfhfnbhfeedbaa
set_option maxRecDepth 100000
set_option maxHeartbeats 400000
open Go.RowKit Go.Great

theorem bcells_set (xs : List UInt8) (q : Nat) (v : UInt8) : (bcells xs).toArray.setIfInBounds q (.int .u8 (v.toNat : Int)) = (bcells (xs.set q v)).toArray := by
  rw [List.setIfInBounds_toArray]
  congr 1
  simp [bcells, List.map_set]

/-- What is asked at the end of a function that answers an id out of a box of its own. -/
structure IdEnd (W : World) (g g' : Nat) (L : List Value) : Prop where
  q1 : W.rangeAt g 0 L
  ht : W.there g' 0 L.toArray.size
  hs : (W.setCells g' 0 L).rangeAt g' 0 L
  hi : (Try.prog.info? 55).map (·.size) = some L.toArray.size
  hj : (Try.prog.info? 55).map (·.size) = some L.length
  hc : L.toArray.all (·.oneCell') = true
theorem idEnd {W : World} {g g' : Nat} {t t' : TypeId} {xs zs : List UInt8} (hx : xs.length = 20) (hz : zs.length = 20) (h : W.heap[g]? = some (.cells (bcells xs).toArray t (0, 0))) (h' : W.heap[g']? = some (.cells (bcells zs).toArray t' (0, 0))) : IdEnd W g g' (bcells xs) := by
  have hl : (bcells xs).length = 20 := by rw [bcells_length, hx]
  have hsz : (bcells xs).toArray.size = 20 := (List.size_toArray).trans hl
  have hT := row_there h'
  rw [bcells_length, hz] at hT
  exact ⟨row_range h, by rw [hsz]; exact hT, World.rangeAt_setCells_same W g' 0 _ (by rw [hl]; exact hT), by rw [hsz]; exact size26, by rw [hl]; exact size26, all_oneCell_toArray (bcells_one _)⟩

end Go.Proofs.Ytbfhfnbhfeedbaa
end
section
namespace Go.Proofs.Ytbfhfnbhfeedbaa
set_option maxRecDepth 100000
set_option maxHeartbeats 400000
open Go.RowKit Go.Great

structure IdEnd2 (W : World) (g g' : Nat) (L : List Value) : Prop where
  q1 : W.rangeAt g 0 L
  ht : W.there g' 0 L.toArray.size
  hs : (W.setCells g' 0 L).rangeAt g' 0 L
  hi : (Try.prog.info? 64).map (·.size) = some L.toArray.size
  hj : (Try.prog.info? 64).map (·.size) = some L.length
  hc : L.toArray.all (·.oneCell') = true
theorem idEnd2 {W : World} {g g' : Nat} {t t' : TypeId} {xs zs : List UInt8} (hx : xs.length = 20) (hz : zs.length = 20) (h : W.heap[g]? = some (.cells (bcells xs).toArray t (0, 0))) (h' : W.heap[g']? = some (.cells (bcells zs).toArray t' (0, 0))) : IdEnd2 W g g' (bcells xs) := by
  have E := idEnd hx hz h h'
  have hl : (bcells xs).length = 20 := by rw [bcells_length, hx]
  have hsz : (bcells xs).toArray.size = 20 := (List.size_toArray).trans hl
  exact ⟨E.q1, E.ht, E.hs, by rw [hsz]; exact size42, by rw [hl]; exact size42, E.hc⟩
def withI (xs : List UInt8) (i bit : Int) : List UInt8 := if 0 ≤ i ∧ i < 160 then withL xs i.toNat (decide (bit ≠ 0)) else xs
/-- The reference's With where nothing is to be turned. -/
theorem rwith_same (xs : List UInt8) (hx : xs.length = 20) (i bit : Int) (h : ¬ (0 ≤ i ∧ i < 160) ∨ bitI xs i = (if bit = 0 then 0 else 1)) (w : World) :
    Calls Try.prog 112 #[.agg (bcells xs).toArray, .int .i64 i, .int .i64 bit] w fun e w' => e = .returned (.agg (bcells xs).toArray) ∧ Below w.heap.size w w' := by
  obtain ⟨Z, hZ⟩ : ∃ Z, Z = (bcells (List.replicate 20 0)).toArray := ⟨_, rfl⟩
  have hz := fun W => zero42 W
  rw [← hZ] at hz
  have hBt := fun W => rbit_any xs hx i W
  obtain ⟨h1, h2, h4⟩ := heap2 w (.cells (bcells xs).toArray 64) (.cells Z 64)
  have hk : (loadVar 64 ⟨w.heap.size, 0, none⟩).run Try.prog ((w.alloc (.cells (bcells xs).toArray 64)).alloc (.cells Z 64)) = .ok (.agg (bcells xs).toArray) ((w.alloc (.cells (bcells xs).toArray 64)).alloc (.cells Z 64)) := load42 hx h1
  have HK := Lib.hid hk
  have HBT := Lib.hid hBt
  have hend : ∀ W2, Below (w.heap.size + 2) ((w.alloc (.cells (bcells xs).toArray 64)).alloc (.cells Z 64)) W2 → IdEnd2 W2 w.heap.size (w.heap.size + 1) (bcells xs) ∧ Below w.heap.size w W2 := fun W2 hb =>
    ⟨idEnd2 (t := 64) (t' := 64) (zs := List.replicate 20 0) hx (by simp) (by rw [hb.block _ (by omega), h1]) (by rw [hb.block _ (by omega), h2, hZ]), h4.trans (hb.mono (by omega))⟩
  have HEND := Lib.hid hend
  have hs0 : ((w.alloc (.cells (bcells xs).toArray 64)).alloc (.cells Z 64)).heap.size = w.heap.size + 2 := by simp
  have HS0 := Lib.hid hs0
  generalize bcells xs = L at HEND HK HBT HS0 ⊢
  clear hZ hBt h1 h2 h4 hk hend hs0
  by_cases hr : 0 ≤ i ∧ i < 160
  · obtain ⟨r1, r2⟩ := hr
    have hbit : bitI xs i = if bit = 0 then 0 else 1 := h.resolve_left (fun hn => hn ⟨r1, r2⟩)
    rw [hbit] at HBT
    have n0 : ¬ i < 0 := by omega
    have n1 : ¬ 160 ≤ i := by omega
    clear h hbit hx r1 r2
    by_cases hb : bit = 0
    all_goals
      first | rw [if_pos hb] at HBT | rw [if_neg hb] at HBT
      try subst hb
      go_enter Try.func112, Try.ntmps112
      go_wp2_with (first
        | (go_at_call 111; refine (HBT.out _).mono ?_; rintro e w2 ⟨rfl, hb2⟩; rw [HS0.out] at hb2; obtain ⟨E, hB⟩ := HEND.out w2 hb2; have HE := Lib.hid E; have HB := Lib.hid hB; clear E hB hb2)
        | ((with_reducible refine wpList_loadG (op := ⟨some 17, _, _, _, _, _⟩) ?_ 64 (.tmp 3) rfl _ ?_ _ HK.out ?_); rfl; rfl)
        | ((with_reducible refine wpList_load_mid (op := ⟨some 23, _, _, _, _, _⟩) rfl 64 (.tmp 3) rfl w.heap.size 0 ?_ L _ HE.out.q1 Try.underlying64 rfl HE.out.hj ?_); rfl; refine wpList_store_mid rfl 64 (.tmp 6) (.tmp 23) rfl (w.heap.size + 1) 0 L.toArray rfl rfl HE.out.ht HE.out.hi HE.out.hc ?_))
      refine bodyPost_ret (v := .agg L.toArray) ?_ rfl ?_
      · exact results_cell1 (p := 6) (ty := 64) rfl _ _ (w.heap.size + 1) 0 L _ rfl (by simpa using HE.out.hs) Try.underlying64 rfl HE.out.hj
      · exact ⟨rfl, by simpa using below_cells (by omega) L 0 _ HB.out⟩
  · obtain ⟨E, hB⟩ := HEND.out _ (Below.refl _ _)
    have HE := Lib.hid E
    have HB := Lib.hid hB
    clear E hB h
    by_cases h0 : i < 0
    all_goals
      try (have h160 : 160 ≤ i := by omega)
      clear hr
      by_cases hb : bit = 0
      all_goals
        try subst hb
        go_enter Try.func112, Try.ntmps112
        go_wp2_with ((with_reducible refine wpList_load_mid (op := ⟨some 23, _, _, _, _, _⟩) rfl 64 (.tmp 3) rfl w.heap.size 0 ?_ L _ HE.out.q1 Try.underlying64 rfl HE.out.hj ?_); rfl; refine wpList_store_mid rfl 64 (.tmp 6) (.tmp 23) rfl (w.heap.size + 1) 0 L.toArray rfl rfl HE.out.ht HE.out.hi HE.out.hc ?_)
        refine bodyPost_ret (v := .agg L.toArray) ?_ rfl ?_
        · exact results_cell1 (p := 6) (ty := 64) rfl _ _ (w.heap.size + 1) 0 L _ rfl (by simpa using HE.out.hs) Try.underlying64 rfl HE.out.hj
        · exact ⟨rfl, by simpa using below_cells (by omega) L 0 _ HB.out⟩
end Go.Proofs.Ytbfhfnbhfeedbaa
end
