/- Contract of Parse of package ident. No condition. -/
import Derived.Test.YtcoiaddjfeaciaaTxa
import Derived.Test.YtcoiaddjfeaciaaRbc
import Derived.Test.YtcoiaddjfeaciaaIdg
import Derived.Test.YtcoiaddjfeaciaaNxa
namespace Go.Proofs.Ytcoiaddjfeaciaa
set_option maxRecDepth 100000
set_option maxHeartbeats 400000
open Go.RowKit Go.Great

def vN (s : List UInt8) (i : Nat) : Nat := (valI (s.getD i 0)).toNat
def okP (s : List UInt8) : Prop := s.length = 40 ∧ ∀ i, i < 40 → 0 ≤ valI (s.getD i 0)
instance (s : List UInt8) : Decidable (okP s) := by unfold okP; exact inferInstance
def parB (s : List UInt8) (k : Nat) : UInt8 := UInt8.ofNat (16 * vN s (2 * k) + vN s (2 * k + 1))
def parL (s : List UInt8) : List UInt8 := (List.range 20).map (parB s)
def parR (s : List UInt8) : List UInt8 := if okP s then parL s else List.replicate 20 0
def parE (s : List UInt8) : Int := if okP s then 0 else 10
theorem parL_length (s : List UInt8) : (parL s).length = 20 := by simp [parL]
theorem parR_length (s : List UInt8) : (parR s).length = 20 := by
  unfold parR
  split
  · exact parL_length s
  · simp
theorem val_lt (c : UInt8) : valI c < 16 ∧ -1 ≤ valI c := by
  unfold valI
  split
  · omega
  · split
    · omega
    · omega
/-- What stands behind the first j digits. -/
def midB (s : List UInt8) (j k : Nat) : UInt8 := if 2 * k + 2 ≤ j then parB s k else if 2 * k + 1 ≤ j then UInt8.ofNat (vN s (2 * k)) else 0
def midL (s : List UInt8) (j : Nat) : List UInt8 := (List.range 20).map (midB s j)
theorem midL_length (s : List UInt8) (j : Nat) : (midL s j).length = 20 := by simp [midL]
theorem midL_get (s : List UInt8) (j k : Nat) (hk : k < 20) : (midL s j).getD k 0 = midB s j k := by
  simp [midL, List.getD, hk]
theorem midL_zero (s : List UInt8) : midL s 0 = List.replicate 20 0 := by
  apply list_ext_getD
  · simp [midL]
  · intro k hk
    rw [midL_length] at hk
    rw [midL_get s 0 k hk]
    unfold midB
    rw [if_neg (by omega), if_neg (by omega), List.getD_eq_getElem?_getD, List.getElem?_replicate]
    split <;> rfl
theorem midL_full (s : List UInt8) : midL s 40 = parL s := by
  apply list_ext_getD
  · simp [midL, parL]
  · intro k hk
    rw [midL_length] at hk
    rw [midL_get s 40 k hk]
    unfold midB
    rw [if_pos (by omega)]
    simp [parL, List.getD, hk]
/-- The half byte that stands there. -/
def oldN (s : List UInt8) (j : Nat) : Nat := if j % 2 = 1 then vN s (j - 1) else 0
theorem old_at (s : List UInt8) (j : Nat) (hj : j < 40) : (midL s j).getD (j / 2) 0 = UInt8.ofNat (oldN s j) := by
  rw [midL_get s j (j / 2) (by omega)]
  unfold midB oldN
  rw [if_neg (by omega)]
  by_cases h : j % 2 = 1
  · rw [if_pos (by omega), if_pos h]
    congr 2
    omega
  · rw [if_neg (by omega), if_neg h]
    rfl
theorem mid_succ (s : List UInt8) (j : Nat) (hj : j < 40) : (midL s j).set (j / 2) (UInt8.ofNat (16 * oldN s j + vN s j)) = midL s (j + 1) := by
  apply list_ext_getD
  · rw [List.length_set, midL_length, midL_length]
  · intro k hk
    rw [List.length_set, midL_length] at hk
    rw [midL_get s (j + 1) k hk, List.getD_eq_getElem?_getD, List.getElem?_set, midL_length]
    by_cases h : j / 2 = k
    · rw [if_pos h, if_pos (by omega)]
      show UInt8.ofNat (16 * oldN s j + vN s j) = _
      unfold midB oldN parB
      by_cases hm : j % 2 = 1
      · rw [if_pos hm, if_pos (by omega)]
        have e1 : j - 1 = 2 * k := by omega
        have e2 : j = 2 * k + 1 := by omega
        rw [e1, ← e2]
      · rw [if_neg hm, if_neg (by omega), if_pos (by omega)]
        have e2 : j = 2 * k := by omega
        rw [e2]
        congr 1
        omega
    · rw [if_neg h, ← List.getD_eq_getElem?_getD, midL_get s j k hk]
      unfold midB
      by_cases h1 : 2 * k + 2 ≤ j
      · rw [if_pos h1, if_pos (by omega)]
      · have h2 : ¬ 2 * k + 1 ≤ j := by omega
        have h3 : ¬ 2 * k + 2 ≤ j + 1 := by omega
        have h4 : ¬ 2 * k + 1 ≤ j + 1 := by omega
        rw [if_neg h1, if_neg h2, if_neg h3, if_neg h4]
theorem vN_lt (s : List UInt8) (i : Nat) : vN s i < 16 := by
  have := val_lt (s.getD i 0)
  unfold vN
  omega
theorem oldN_lt (s : List UInt8) (j : Nat) : oldN s j < 16 := by
  unfold oldN
  split
  · exact vN_lt _ _
  · omega
theorem half_fin : ∀ a b : Fin 16, bits .or .u8 ((a.val : Int) * 16 % 256) (b.val : Int) = ((UInt8.ofNat (16 * a.val + b.val)).toNat : Int) := by decide +kernel
theorem half (a b : Nat) (ha : a < 16) (hb : b < 16) : bits .or .u8 ((a : Int) * 16 % 256) (b : Int) = ((UInt8.ofNat (16 * a + b)).toNat : Int) := half_fin ⟨a, ha⟩ ⟨b, hb⟩

def ParRel (w : World) (s : List UInt8) (i : Value) (wr : World) : Prop :=
  ∃ j : Nat, j ≤ 40 ∧ i = .int .i64 (j : Int) ∧ (∀ k, k < j → 0 ≤ valI (s.getD k 0)) ∧ wr.heap[w.heap.size]? = some (.cells (bcells (List.replicate 20 0)).toArray 26 (0, 0)) ∧ wr.heap[w.heap.size + 1]? = some (.cells (bcells (midL s j)).toArray 26 (0, 0)) ∧ Below w.heap.size w wr

theorem parse_any (s : List UInt8) (w : World) :
    Calls Try.prog 35 #[.string (bstr s)] w fun e w' => e = .returned (.tuple #[.agg (bcells (parR s)).toArray, .int .i64 (parE s)]) ∧ Below w.heap.size w w' := by
  obtain ⟨L, hL⟩ : ∃ L, L = bcells (List.replicate 20 0) := ⟨_, rfl⟩
  have hz := fun W => zero26 W
  have hbz := fun W => built61 W
  rw [← hL] at hz hbz
  have HBZ := Lib.hid hbz
  have HL := Lib.hid hL
  have hLl : L.length = 20 := by rw [hL, bcells_length, List.length_replicate]
  have hLs : L.toArray.size = 20 := (List.size_toArray).trans hLl
  have T1 : Hid ((Try.prog.info? 26).map (·.size) = some L.toArray.size) := Lib.hid (by rw [hLs]; exact size26)
  have T3 : Hid (L.toArray.all (·.oneCell') = true) := Lib.hid (all_oneCell_toArray (by rw [hL]; exact bcells_one _))
  have T4 : Hid ((Try.prog.info? 26).map (·.size) = some L.length) := Lib.hid (by rw [hLl]; exact size26)
  have hss : (bstr s).size = s.length := rfl
  clear hbz hL hLl hLs
  by_cases hlen : s.length = 40
  · obtain ⟨h1, h2, h4⟩ := heap2 w (.cells L.toArray 26) (.cells L.toArray 26)
    have R0 : Hid (ParRel w s (.int .i64 0) ((w.alloc (.cells L.toArray 26)).alloc (.cells L.toArray 26))) := Lib.hid ⟨0, by omega, rfl, fun k hk => by omega, by rw [h1, HL.out], by rw [h2, HL.out, midL_zero], h4⟩
    have hs40 : (bstr s).size = 40 := by rw [hss, hlen]
    have HGET : Hid (∀ (j : Nat) (h : j < (bstr s).size), (bstr s)[j]'h = s.getD j 0) := Lib.hid (fun j h => by rw [ba_get]; rfl)
    have HLEN := Lib.hid hlen
    generalize hstr : bstr s = str at hs40 HGET ⊢
    clear h1 h2 h4 hss hlen hstr
    go_enter Try.func35, Try.ntmps35
    go_wp2
    go_loopw [11] (ParRel w s) (fun i _ => 40 - (intOf i).toNat)
    case atStart => exact R0.out
    case round =>
      obtain ⟨j, hj, rfl, hk, hr0, hr1, hb⟩ := hrel
      clear R0
      by_cases hlt : j < 40
      · have hlt' : (j : Int) < 40 := by omega
        have hget := HGET.out j (by omega)
        have HI := Lib.hid (fun W => idx65 (s.getD j 0) W)
        by_cases hv : valI (s.getD j 0) < 0
        · have hno : ¬ okP s := fun h => by have := h.2 j hlt; omega
          have e1 : parR s = List.replicate 20 0 := by unfold parR; rw [if_neg hno]
          have e2 : parE s = 10 := by unfold parE; rw [if_neg hno]
          have HE : Hid (parR s = List.replicate 20 0 ∧ parE s = 10) := Lib.hid ⟨e1, e2⟩
          have S4 : Hid (wr.heap[w.heap.size]? = some (.cells L.toArray 26 (0, 0))) := Lib.hid (by rw [hr0, HL.out])
          have HB := Lib.hid hb
          generalize s.getD j 0 = c at hget HI hv
          generalize valI c = v at HI hv
          clear hno e1 e2 hk hr0 hr1 hb
          go_wp2_with (first
            | (go_at_call 65; refine (HI.out _).mono ?_; rintro e w1 ⟨rfl, rfl⟩)
            | ((with_reducible refine wpList_buildV (o := ⟨some 20, _, _, _, _, _⟩) rfl 26 _ rfl _ ?_ _ (HBZ.out _) ?_); (simp only [List.map_toArray, List.map_nil]))
            | ((with_reducible refine wpList_store_row rfl 26 (.tmp 2) (.tmp 20) rfl w.heap.size L.toArray ?_ ?_ 26 L.toArray S4.out T1.out rfl T3.out ?_); rfl; rfl))
          refine bodyPost_ret (v := .tuple #[.agg L.toArray, .int .i64 10]) ?_ rfl ?_
          · exact results_cell_tmp (p := 2) (ty := 26) (q := 3) rfl _ _ w.heap.size 0 L _ (.int .i64 10) rfl rfl (row_range (setRow_heap _ _ _ L.toArray 26 (0, 0) S4.out)) Try.underlying26 rfl T4.out
          · exact ⟨by rw [HE.out.1, HE.out.2, HL.out], below_setRow HB.out (Nat.le_refl _) _⟩
        · obtain ⟨q, hq⟩ : ∃ q, j / 2 = q := ⟨_, rfl⟩
          have hd : (j : Int) / 2 = (q : Int) := by omega
          have hwq : IntKind.i64.wrap (q : Int) = (q : Int) := by rw [IntKind.wrap_i64]; omega
          have hq3 : (q : Int) < 20 := by omega
          have hvn : valI (s.getD j 0) = ((vN s j : Nat) : Int) := by unfold vN; omega
          have hv16 := vN_lt s j
          have ho16 := oldN_lt s j
          have c1 : wr.cell? ⟨w.heap.size + 1, q, none⟩ = some (.int .u8 ((oldN s j : Nat) : Int)) := by
            have := row_byte hr1 q (by rw [midL_length]; omega)
            rw [← hq, old_at s j hlt] at this
            rw [← hq, this]
            congr 2
            have : (UInt8.ofNat (oldN s j)).toNat = oldN s j := by rw [UInt8.toNat_ofNat']; omega
            rw [this]
          have fr := frozen_of_row wr (w.heap.size + 1) q _ 26 hr1
          have hhalf := half (oldN s j) (vN s j) ho16 hv16
          have s1 := heap_setCell_same wr (w.heap.size + 1) q _ 26 (.int .u8 ((UInt8.ofNat (16 * oldN s j + vN s j)).toNat : Int)) hr1
          rw [bcells_set, ← hq, mid_succ s j hlt, hq] at s1
          have HR : Hid (ParRel w s (.int .i64 ((j : Int) + 1)) (wr.setCell ⟨w.heap.size + 1, q, none⟩ (.int .u8 ((UInt8.ofNat (16 * oldN s j + vN s j)).toNat : Int)))) := Lib.hid ⟨j + 1, by omega, by go_num, fun k h => by
            by_cases hkj : k = j
            · rw [hkj]; omega
            · exact hk k (by omega), (Below.heap_setCell _ _ _ _ (by simp)).trans hr0, s1, hb.setCell (p := ⟨w.heap.size + 1, q, none⟩) (by show w.heap.size ≤ w.heap.size + 1; omega) _⟩
          rw [hvn] at HI
          have hv256 : ((vN s j : Nat) : Int) % 256 = ((vN s j : Nat) : Int) := by omega
          have hv0 : ¬ ((vN s j : Nat) : Int) < 0 := by omega
          generalize (UInt8.ofNat (16 * oldN s j + vN s j)).toNat = x at hhalf HR
          generalize oldN s j = o at c1 hhalf
          generalize vN s j = vv at HI hhalf hv256 hv0
          generalize s.getD j 0 = c at hget HI
          clear hv hvn hv16 ho16 s1 hk hr0 hr1 hb hq
          go_wp2_with (go_at_call 65; refine (HI.out _).mono ?_; rintro e w1 ⟨rfl, rfl⟩)
          go_roundw
          case rel => exact HR.out
          case measure => simp [intOf]; omega
      · have hj40 : j = 40 := by omega
        have hjn : ¬ (j : Int) < 40 := by omega
        rw [hj40, midL_full] at hr1
        have hok : okP s := ⟨HLEN.out, fun k h => hk k (by omega)⟩
        have e1 : parR s = parL s := by unfold parR; rw [if_pos hok]
        have e2 : parE s = 0 := by unfold parE; rw [if_pos hok]
        obtain ⟨M, hM⟩ : ∃ M, M = bcells (parL s) := ⟨_, rfl⟩
        have hE := idEnd (zs := List.replicate 20 0) (parL_length s) (by simp) hr1 hr0
        rw [← hM] at hE
        have HE := Lib.hid hE
        have HM : Hid (M = bcells (parR s) ∧ parE s = 0) := Lib.hid ⟨by rw [hM, e1], e2⟩
        have HB := Lib.hid hb
        clear hk hr0 hr1 hb hE hM e1 e2 hok hj40 hlt hj
        go_wp2_with ((with_reducible refine wpList_load_mid (op := ⟨some 33, _, _, _, _, _⟩) rfl 26 (.tmp 4) rfl (w.heap.size + 1) 0 ?_ M _ HE.out.q1 Try.underlying26 rfl HE.out.hj ?_); rfl; refine wpList_store_mid rfl 26 (.tmp 2) (.tmp 33) rfl w.heap.size 0 M.toArray rfl rfl HE.out.ht HE.out.hi HE.out.hc ?_)
        refine bodyPost_ret (v := .tuple #[.agg M.toArray, .int .i64 0]) ?_ rfl ?_
        · exact results_cell_tmp (p := 2) (ty := 26) (q := 3) rfl _ _ w.heap.size 0 M _ (.int .i64 0) rfl rfl (by simpa using HE.out.hs) Try.underlying26 rfl HE.out.hj
        · exact ⟨by rw [HM.out.2, ← HM.out.1], by simpa using below_cells (Nat.le_refl _) M 0 _ HB.out⟩
  · have hno : ¬ okP s := fun h => hlen h.1
    have e1 : parR s = List.replicate 20 0 := by unfold parR; rw [if_neg hno]
    have e2 : parE s = 10 := by unfold parE; rw [if_neg hno]
    rw [e1, e2]
    have hne : ¬ ((bstr s).size : Int) = 40 := by rw [hss]; omega
    have hne2 : ¬ (bstr s).size = 40 := by rw [hss]; omega
    have S4 : Hid ((w.alloc (.cells L.toArray 26)).heap[w.heap.size]? = some (.cells L.toArray 26 (0, 0))) := Lib.hid (heap_alloc_new w _)
    generalize bstr s = str at hne hne2 ⊢
    clear hlen hno e1 e2 hss
    go_enter Try.func35, Try.ntmps35
    go_wp2_with (first
      | ((with_reducible refine wpList_buildV (o := ⟨some 10, _, _, _, _, _⟩) rfl 26 _ rfl _ ?_ _ (HBZ.out _) ?_); (simp only [List.map_toArray, List.map_nil]))
      | ((with_reducible refine wpList_store_row rfl 26 (.tmp 2) (.tmp 10) rfl w.heap.size L.toArray ?_ ?_ 26 L.toArray S4.out T1.out rfl T3.out ?_); rfl; rfl))
    refine bodyPost_ret (v := .tuple #[.agg L.toArray, .int .i64 10]) ?_ rfl ?_
    · exact results_cell_tmp (p := 2) (ty := 26) (q := 3) rfl _ _ w.heap.size 0 L _ (.int .i64 10) rfl rfl (row_range (setRow_heap _ _ _ L.toArray 26 (0, 0) S4.out)) Try.underlying26 rfl T4.out
    · exact ⟨by rw [HL.out], below_setRow ((Below.refl _ w).alloc (Nat.le_refl _) _) (Nat.le_refl _) _⟩
end Go.Proofs.Ytcoiaddjfeaciaa
