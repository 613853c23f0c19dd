/- Contract of the reference's Next. Conditions: an id has 20 bytes. -/
import Derived.Test.YtcoiaddjfeaciaaNxa
namespace Go.Proofs.Ytcoiaddjfeaciaa
set_option maxRecDepth 100000
set_option maxHeartbeats 400000
open Go.RowKit Go.Great

def RNxtRel (w : World) (xs : List UInt8) (i : Value) (wr : World) : Prop :=
  ∃ n : Nat, n ≤ 160 ∧ i = .int .i64 (159 - (n : Int)) ∧ (∀ q, 160 - n ≤ q → q < 160 → bitL xs q = true) ∧ wr.heap[w.heap.size]? = some (.cells (bcells (clearR xs n)).toArray 42 (0, 0)) ∧ wr.heap[w.heap.size + 1]? = some (.cells (bcells (List.replicate 20 0)).toArray 42 (0, 0)) ∧ Below w.heap.size w wr

theorem rnext_any (xs : List UInt8) (hx : xs.length = 20) (w : World) :
    Calls Try.prog 23 #[.agg (bcells xs).toArray] w (NextPost xs w) := by
  obtain ⟨h1, h2, h4⟩ := heap2 w (.cells (bcells xs).toArray 42) (.cells (bcells (List.replicate 20 0)).toArray 42)
  have HR0 : Hid (RNxtRel w xs (.int .i64 159) ((w.alloc (.cells (bcells xs).toArray 42)).alloc (.cells (bcells (List.replicate 20 0)).toArray 42))) := Lib.hid ⟨0, by omega, rfl, fun k hk => by omega, h1, h2, h4⟩
  have HX := Lib.hid hx
  have hz := fun W => zero42 W
  have hbz := fun W => built42 W
  clear h1 h2 h4 hx
  obtain ⟨Z, hZ⟩ : ∃ Z, Z = (bcells (List.replicate 20 0)).toArray := ⟨_, rfl⟩
  rw [← hZ] at hz hbz HR0
  have HBZ := Lib.hid hbz
  have HZZ := Lib.hid hZ
  generalize (bcells xs).toArray = X at HR0 ⊢
  clear hZ hbz
  go_enter Try.func23, Try.ntmps23
  go_wp2
  clear hz
  go_loopw [4] (RNxtRel w xs) (fun i _ => (intOf i + 1).toNat)
  case atStart => exact HR0.out
  case round =>
    obtain ⟨n, hn, hiv, hall, hq, ho, hb⟩ := hrel
    clear HR0
    have hx := HX.out
    have hcl := clearR_length xs n hx
    by_cases hlt : n < 160
    · obtain ⟨k, hk⟩ : ∃ k, 159 - n = k := ⟨_, rfl⟩
      have ek : 159 - (n : Int) = (k : Int) := by omega
      rw [ek] at hiv
      subst hiv
      have hk160 : k < 160 := by omega
      have HLD := Lib.hid (load42 hcl hq)
      have hbt := fun W => rbit_yes (clearR xs n) hcl k hk160 W
      have hbx : bitL (clearR xs n) k = bitL xs k := by rw [clearR_bit xs n hx (by omega) k hk160, if_pos (by omega)]
      rw [hbx] at hbt
      have l2 := (Array.getElem?_eq_some_iff.1 ho).1
      have kn0 : ¬ (k : Int) < 0 := by omega
      have kn1 : (0 : Int) ≤ (k : Int) := by omega
      have HKP : Hid (∀ w2, Below wr.heap.size wr w2 → w2.heap[w.heap.size]? = some (.cells (bcells (clearR xs n)).toArray 42 (0, 0)) ∧ w2.heap[w.heap.size + 1]? = some (.cells (bcells (List.replicate 20 0)).toArray 42 (0, 0)) ∧ Below w.heap.size w w2) := Lib.hid (fun w2 h => ⟨(h.block _ (by omega)).trans hq, (h.block _ l2).trans ho, hb.trans (h.mono hb.size)⟩)
      cases hbv : bitL xs k
      · -- the bit that is turned
        have hN : NextIs xs (withL (clearR xs n) k true) true := .inl ⟨rfl, 159 - n, by have := next_ref xs n hx hlt (fun q h1 h2 => hall q (by omega) h2) (by rw [hk]; exact hbv); rw [hk] at this ⊢; exact this⟩
        have hwi : withI (clearR xs n) (k : Int) 1 = withL (clearR xs n) k true := by
          unfold withI
          rw [if_pos (by omega)]
          rfl
        have hwith := fun W => rwith_any (clearR xs n) hcl (k : Int) 1 W
        rw [hwi] at hwith
        have hll : (withL (clearR xs n) k true).length = 20 := by rw [withL_length, hcl]
        rw [hbv] at hbt
        simp only [Bool.false_eq_true, if_false] at hbt
        have HN := Lib.hid hN
        obtain ⟨r, hr⟩ : ∃ r, r = withL (clearR xs n) k true := ⟨_, rfl⟩
        rw [← hr] at HN hwith hll
        obtain ⟨L, hL⟩ : ∃ L, L = bcells r := ⟨_, rfl⟩
        have hLl : L.length = 20 := by rw [hL, bcells_length, hll]
        have hLs : L.toArray.size = 20 := (List.size_toArray).trans hLl
        simp only [← hL] at hwith
        have HWI := Lib.hid hwith
        have HL := Lib.hid hL
        have HBT := Lib.hid hbt
        have T1 : Hid ((Try.prog.info? 42).map (·.size) = some L.toArray.size) := Lib.hid (by rw [hLs]; exact size42)
        have T2 : Hid ((bcells (List.replicate 20 0)).toArray.size = L.toArray.size) := Lib.hid (by rw [hLs, List.size_toArray, bcells_length, List.length_replicate])
        have T3 : Hid (L.toArray.all (·.oneCell') = true) := Lib.hid (all_oneCell_toArray (by rw [hL]; exact bcells_one _))
        have T4 : Hid ((Try.prog.info? 42).map (·.size) = some L.length) := Lib.hid (by rw [hLl]; exact size42)
        have HLD2 : Hid (∀ w2, Below wr.heap.size wr w2 → (loadVar 42 ⟨w.heap.size, 0, none⟩).run Try.prog w2 = .ok (.agg (bcells (clearR xs n)).toArray) w2) := Lib.hid (fun w2 h => load42 hcl (HKP.out w2 h).1)
        generalize (bcells (clearR xs n)).toArray = O at HLD HLD2 HKP HBT HWI
        clear hq ho hb hx hall hcl hbt hbx hN hwi hwith hll hr hL hLl hLs l2 HX hbv
        go_wp2_with (first
          | (go_at_call 25; refine (HBT.out _).mono ?_; rintro e w2 ⟨rfl, hb2⟩; have HB2 := Lib.hid hb2; have HLK := Lib.hid (HLD2.out w2 hb2); clear hb2)
          | ((with_reducible refine wpList_loadG (op := ⟨some 8, _, _, _, _, _⟩) ?_ 42 (.tmp 1) rfl _ ?_ _ HLD.out ?_); rfl; rfl)
          | ((with_reducible refine wpList_loadV (op := ⟨some 21, _, _, _, _, _⟩) rfl 42 (.tmp 1) rfl _ ?_ _ HLK.out ?_); rfl)
          | (go_at_call 27; refine (HWI.out _).mono ?_; rintro e w3 ⟨rfl, hb3⟩; have HB3 := Lib.hid (HB2.out.trans (hb3.mono HB2.out.size)); have HST := Lib.hid (HKP.out w3 HB3.out).2.1; clear hb3)
          | ((with_reducible refine wpList_store_row rfl 42 (.tmp 2) (.tmp 23) rfl (w.heap.size + 1) L.toArray ?_ ?_ 42 (bcells (List.replicate 20 0)).toArray HST.out T1.out T2.out T3.out ?_); rfl; rfl))
        refine bodyPost_ret (v := .tuple #[.agg L.toArray, .bool true]) ?_ rfl ?_
        · exact results_cell_tmp (p := 2) (ty := 42) (q := 3) rfl _ _ (w.heap.size + 1) 0 L _ (.bool true) rfl rfl (row_range (setRow_heap _ _ _ L.toArray 42 (0, 0) HST.out)) Try.underlying42 rfl T4.out
        · exact ⟨_, _, HN.out, by rw [HL.out], below_setRow (HKP.out w3 HB3.out).2.2 (by omega) _⟩
      · -- one more
        have hwi : withI (clearR xs n) (k : Int) 0 = clearR xs (n + 1) := by
          unfold withI
          rw [if_pos (by omega), clearR, hk]
          rfl
        have hwith := fun W => rwith_any (clearR xs n) hcl (k : Int) 0 W
        rw [hwi] at hwith
        have hcl' := clearR_length xs (n + 1) hx
        rw [hbv] at hbt
        simp only [if_true] at hbt
        have HWI := Lib.hid hwith
        have HBT := Lib.hid hbt
        have hs1 : (bcells (clearR xs n)).toArray.size = 20 := (List.size_toArray).trans (by rw [bcells_length, hcl])
        have hs2 : (bcells (clearR xs (n + 1))).toArray.size = 20 := (List.size_toArray).trans (by rw [bcells_length, hcl'])
        have T1 : Hid ((Try.prog.info? 42).map (·.size) = some (bcells (clearR xs (n + 1))).toArray.size) := Lib.hid (by rw [hs2]; exact size42)
        have T2 : Hid ((bcells (clearR xs n)).toArray.size = (bcells (clearR xs (n + 1))).toArray.size) := Lib.hid (by rw [hs1, hs2])
        have T3 : Hid ((bcells (clearR xs (n + 1))).toArray.all (·.oneCell') = true) := Lib.hid (all_oneCell_toArray (bcells_one _))
        have HLD2 : Hid (∀ w2, Below wr.heap.size wr w2 → (loadVar 42 ⟨w.heap.size, 0, none⟩).run Try.prog w2 = .ok (.agg (bcells (clearR xs n)).toArray) w2) := Lib.hid (fun w2 h => load42 hcl (HKP.out w2 h).1)
        have HR : Hid (∀ w3, Below wr.heap.size wr w3 → RNxtRel w xs (.int .i64 ((k : Int) - 1)) (w3.setRow w.heap.size (bcells (clearR xs (n + 1))).toArray)) := Lib.hid (fun w3 h => by
          obtain ⟨m1, m2, m3⟩ := HKP.out w3 h
          refine ⟨n + 1, by omega, by rw [← ek]; congr 1; omega, fun q h1 h2 => ?_, setRow_heap _ _ _ _ 42 (0, 0) m1, ?_, below_setRow m3 (Nat.le_refl _) _⟩
          · by_cases hqk : q = k
            · rw [hqk]
              exact hbv
            · exact hall q (by omega) h2
          · rw [setRow_other _ _ _ _ (by omega)]
            exact m2)
        generalize (bcells (clearR xs (n + 1))).toArray = N at T1 T2 T3 HR HWI
        generalize (bcells (clearR xs n)).toArray = O at HLD HLD2 HKP HBT HWI T2
        clear hq ho hb hx hall hcl hbt hbx hwi hwith hcl' hs1 hs2 l2 HX hbv ek hk
        go_wp2_with (first
          | (go_at_call 25; refine (HBT.out _).mono ?_; rintro e w2 ⟨rfl, hb2⟩; have HB2 := Lib.hid hb2; have HLK := Lib.hid (HLD2.out w2 hb2); clear hb2)
          | ((with_reducible refine wpList_loadG (op := ⟨some 8, _, _, _, _, _⟩) ?_ 42 (.tmp 1) rfl _ ?_ _ HLD.out ?_); rfl; rfl)
          | ((with_reducible refine wpList_loadV (op := ⟨some 13, _, _, _, _, _⟩) rfl 42 (.tmp 1) rfl _ ?_ _ HLK.out ?_); rfl)
          | (go_at_call 27; refine (HWI.out _).mono ?_; rintro e w3 ⟨rfl, hb3⟩; have HB3 := Lib.hid (HB2.out.trans (hb3.mono HB2.out.size)); have HST := Lib.hid (HKP.out w3 HB3.out).1; clear hb3)
          | ((with_reducible refine wpList_store_row rfl 42 (.tmp 1) (.tmp 15) rfl w.heap.size N ?_ ?_ 42 O HST.out T1.out T2.out T3.out ?_); rfl; rfl))
        go_roundw
        case rel => exact HR.out w3 HB3.out
        case measure => simp [intOf]
    · obtain rfl : n = 160 := by omega
      have e1 : 159 - ((160 : Nat) : Int) = -1 := by omega
      rw [e1] at hiv
      subst hiv
      have HN : Hid (NextIs xs (List.replicate 20 0) false) := Lib.hid (.inr ⟨rfl, rfl, fun q h => hall q (by omega) h⟩)
      have HB := Lib.hid hb
      have HE := Lib.hid (idEnd2 (xs := List.replicate 20 0) (by simp) (by simp) ho ho)
      have HLL : Hid ((bcells (List.replicate 20 0)).length = 20) := Lib.hid (by rw [bcells_length, List.length_replicate])
      obtain ⟨L, hL⟩ : ∃ L, L = bcells (List.replicate 20 0) := ⟨_, rfl⟩
      rw [← hL] at HE HLL
      have hZL : Z = L.toArray := by rw [hL]; exact HZZ.out
      have HL := Lib.hid hL
      rw [hZL] at HBZ
      clear hq ho hb hx hall hcl HX hL hZL HZZ hlt hn
      go_wp2_with (first
        | ((with_reducible refine wpList_buildV (o := ⟨some 20, _, _, _, _, _⟩) rfl 42 _ rfl _ ?_ _ (HBZ.out _) ?_); (simp only [List.map_toArray, List.map_nil]))
        | ((with_reducible refine wpList_store_mid (op := ⟨none, _, _, _, _, _⟩) rfl 42 (.tmp 2) (.tmp 20) rfl (w.heap.size + 1) 0 L.toArray ?_ ?_ HE.out.ht HE.out.hi HE.out.hc ?_); rfl; rfl))
      refine bodyPost_ret (v := .tuple #[.agg L.toArray, .bool false]) ?_ rfl ?_
      · exact results_cell_tmp (p := 2) (ty := 42) (q := 3) rfl _ _ (w.heap.size + 1) 0 L _ (.bool false) rfl rfl (by simpa using HE.out.hs) Try.underlying42 rfl HE.out.hj
      · exact ⟨_, _, HN.out, by rw [HL.out], by simpa using below_cells (by omega) L 0 _ HB.out⟩
end Go.Proofs.Ytcoiaddjfeaciaa
