/- Contracts of the hash's Sum and of Sum of package sha. Conditions: at most 900,000 bytes. -/
import Derived.Test.YtcoiaddjfeaciaaShah
namespace Go.Proofs.Ytcoiaddjfeaciaa
set_option maxRecDepth 100000
open Go.RowKit Go.Great
set_option linter.unusedVariables false
set_option linter.unusedSimpArgs false

/-- A text's sum. -/
def shaI (m : List UInt8) : List UInt8 := idI (wordsOf (m ++ padB m.length))
theorem padB_length (n : Nat) : (padB n).length ≤ 72 := by
  unfold padB
  rw [List.length_append, List.length_cons, List.length_replicate, putB_length]
  unfold zerosN
  omega
theorem own_cap {w : World} {base n c : Nat} {A : Option Addr} {xs : List UInt8} (h : w.ownsRow base 5 1 (.slice A n c) n (bcells xs)) : n ≤ c := by
  rcases h.2 with ⟨hv, hn⟩ | ⟨g, cap, cur, hv, _, _, hc, _⟩
  · omega
  · simp only [Value.slice.injEq] at hv
    omega
theorem own_ne {w : World} {base n c : Nat} {A : Option Addr} {xs : List UInt8} (h : w.ownsRow base 5 1 (.slice A n c) n (bcells xs)) (g : Nat) (hg : g < base) : ∀ g' off, A = some ⟨g', off, none⟩ → xs ≠ [] → g' ≠ g := by
  intro g' off e _
  rcases h.2 with ⟨hv, hn⟩ | ⟨g1, cap, cur, hv, hb, _⟩
  · simp only [Value.slice.injEq] at hv
    rw [e] at hv
    cases hv.1
  · simp only [Value.slice.injEq] at hv
    rw [e] at hv
    have := hv.1
    injection this with this
    injection this with this
    omega
theorem size80 : (Try.prog.info? 94).map (·.size) = some 71 := by kernel_rfl
theorem hcells_one (v : V5) (tail : List UInt8) (len : Nat) : ∀ u ∈ hcells v tail len, u.oneCell' = true := by
  intro u hu
  simp only [hcells, V5.cells, List.mem_cons, List.mem_append, List.not_mem_nil, or_false] at hu
  rcases hu with rfl | (rfl | rfl | rfl | rfl | rfl) | hu | rfl
  all_goals first | rfl | exact bcells_one _ _ hu

theorem below_setRow {a w : World} {B g : Nat} (h : Below B a w) (hg : B ≤ g) (cs : Array Value) : Below B a (w.setRow g cs) :=
  ⟨h.os, h.tape, h.output, by have := h.size; simpa [World.setRow] using this, fun k hk => (setRow_other w g k cs (by omega)).trans (h.block k hk)⟩

set_option maxRecDepth 100000 in
theorem hsum_of {w : World} {g : Nat} {m : List UInt8} (h : HashOf w g m) (hm : m.length ≤ 900000) : Calls Try.prog 20 #[.pointer (some ⟨g, 0, none⟩)] w fun e w' => e = .returned (.agg (bcells (shaI m)).toArray) ∧ Below w.heap.size w w' := by
  obtain ⟨tail, hh, hT⟩ := h
  obtain ⟨H, hH⟩ : ∃ H, H = hcells (wordsOf m) tail m.length := ⟨_, rfl⟩
  obtain ⟨Z, hZ⟩ : ∃ Z, Z = bcells (List.replicate 20 0) := ⟨_, rfl⟩
  obtain ⟨Y, hY⟩ : ∃ Y : List Value, Y = (.bool false :: .int .u32 0 :: .int .u32 0 :: .int .u32 0 :: .int .u32 0 :: .int .u32 0 :: (bcells (List.replicate 64 0) ++ [.int .u64 0])) := ⟨_, rfl⟩
  have hz := fun W => zero61 W
  have hy := fun W => zero80 W
  rw [← hZ] at hz
  rw [← hY] at hy
  have hHl : H.length = 71 := by rw [hH]; exact hcells_len _ _ _ hh.2.1
  have hYl : Y.length = 71 := by rw [hY]; simp [bcells]
  have hg := hh.lt
  have hM : Calls Try.prog 60 #[.pointer (some ⟨g, 0, none⟩)] (w.alloc (.cells Z.toArray 26)) fun e w' => e = .returned (.bool true) ∧ (w.alloc (.cells Z.toArray 26)) = w' := isMade_yes _ g (by rw [((Below.refl w.heap.size w).alloc (Nat.le_refl _) (.cells Z.toArray 26)).cell (p := ⟨g, 0, none⟩) hg, hh.cell]; rfl)
  have hg1 : (w.alloc (.cells Z.toArray 26)).heap[g]? = some (.cells H.toArray 94 (0, 0)) := by
    rw [((Below.refl w.heap.size w).alloc (Nat.le_refl _) (.cells Z.toArray 26)).block g hg, hH]
    exact hh.1
  have HRA : Hid ((w.alloc (.cells Z.toArray 26)).rangeAt g 0 H) := Lib.hid (fun i u hu => by
    rw [Nat.zero_add, cell_of_row _ _ i _ 94 (0, 0) hg1]
    simpa using hu)
  have HM := Lib.hid hM
  have HS : Hid ((Try.prog.info? 94).map (·.size) = some H.length) := Lib.hid (by rw [hHl]; exact size80)
  have hal : ((w.alloc (.cells Z.toArray 26)).alloc (.cells Y.toArray 94)).heap[w.heap.size + 1]? = some (.cells Y.toArray 94 (0, 0)) := by
    have := heap_alloc_new (w.alloc (.cells Z.toArray 26)) (.cells Y.toArray 94)
    simpa using this
  obtain ⟨W1, hW1⟩ : ∃ W1, W1 = ((w.alloc (.cells Z.toArray 26)).alloc (.cells Y.toArray 94)).setRow (w.heap.size + 1) H.toArray := ⟨_, rfl⟩
  have f0 : W1.heap.size = w.heap.size + 2 := by rw [hW1]; simp [World.setRow]
  have f1 : HashOf W1 (w.heap.size + 1) m := ⟨tail, ⟨by rw [hW1, ← hH]; exact setRow_heap _ _ _ _ 94 _ hal, hh.2⟩, hT⟩
  have fo : ∀ k, k ≠ w.heap.size + 1 → W1.heap[k]? = ((w.alloc (.cells Z.toArray 26)).alloc (.cells Y.toArray 94)).heap[k]? := fun k hk => by rw [hW1]; exact setRow_other _ _ _ _ hk
  have f3 : Below w.heap.size w W1 := by
    have hb2 := ((Below.refl w.heap.size w).alloc (Nat.le_refl _) (.cells Z.toArray 26)).alloc (by simp) (.cells Y.toArray 94)
    refine ⟨?_, ?_, ?_, by omega, fun k hk => (fo k (by omega)).trans (hb2.block k hk)⟩
    · rw [hW1]; exact hb2.os
    · rw [hW1]; exact hb2.tape
    · rw [hW1]; exact hb2.output
  have f4 : W1.heap[w.heap.size]? = some (.cells Z.toArray 26 (0, 0)) := by
    rw [fo _ (by omega), Below.heap_alloc _ _ _ (by simp)]
    exact heap_alloc_new w _
  have cl : W1.cell? ⟨g, 70, none⟩ = some (.int .u64 (m.length : Int)) := (f3.cell (p := ⟨g, 70, none⟩) hg).trans hh.len_
  have hZl : Z.length = 20 := by rw [hZ, bcells_length, List.length_replicate]
  have P : ∀ v W2, W2.ownsRow W1.heap.size 5 1 v (padB m.length).length (bcells (padB m.length)) → Below W1.heap.size W1 W2 → ∃ A c, v = .slice A (padB m.length).length c ∧
      Hid (Calls Try.prog 55 #[.pointer (some ⟨w.heap.size + 1, 0, none⟩), .slice A (padB m.length).length c] W2 fun e w' => e = .returned (.tuple #[]) ∧ HashOf w' (w.heap.size + 1) (m ++ padB m.length) ∧ W1.grownBy w' (some (w.heap.size + 1))) := by
    intro v W2 ho hb
    obtain ⟨A, c, rfl⟩ := slice_of_own ho
    refine ⟨A, c, rfl, Lib.hid ?_⟩
    have hp := padB_length m.length
    exact (absorb_of (f1.below hb (by omega)) A c (padB m.length) (BAt.of_own ho (Nat.le_refl _)) (own_cap ho) (by omega) hm (own_ne ho _ (by omega))).mono fun e w' ⟨he, h1, h2⟩ => ⟨he, h1, grownBy_trans (grownBy_of_below hb (Nat.le_refl _) _) h2⟩
  have hlen64 : m.length < 18446744073709551616 := by omega
  have HPAD := Lib.hid (pad_any m.length hlen64 W1)
  have HP := Lib.hid P
  have HW1 := Lib.hid hW1
  have HAL := Lib.hid hal
  have HSZ : Hid (Y.toArray.size = H.toArray.size) := Lib.hid (by simp [hYl, hHl])
  have HS' : Hid ((Try.prog.info? 94).map (·.size) = some H.toArray.size) := Lib.hid (by rw [List.size_toArray, hHl]; exact size80)
  have H1 : Hid (H.toArray.all (·.oneCell') = true) := Lib.hid (all_oneCell_toArray (by rw [hH]; exact hcells_one _ _ _))
  have HF : Hid (W1.heap.size = w.heap.size + 2 ∧ Below w.heap.size w W1 ∧ W1.heap[w.heap.size]? = some (.cells Z.toArray 26 (0, 0))) := Lib.hid ⟨f0, f3, f4⟩
  have HZL := Lib.hid hZl
  have hB3 : ∀ w3, W1.grownBy w3 (some (w.heap.size + 1)) → Below (w.heap.size + 1) W1 w3 ∧ w.heap.size + 2 ≤ w3.heap.size := fun w3 hg3 => by
    have := (Below.refl (w.heap.size + 1) W1).grown hg3 (by omega) (fun k hk => by simp at hk; omega)
    exact ⟨this, by have := this.size; omega⟩
  have hC : ∀ w3 w4 : World, (Below (w.heap.size + 1) W1 w3 ∧ w.heap.size + 2 ≤ w3.heap.size) → Below w3.heap.size w3 w4 → w4.heap[w.heap.size]? = some (.cells Z.toArray 26 (0, 0)) ∧ Below w.heap.size w w4 := fun w3 w4 h3 h4 => by
    refine ⟨(h4.block _ (by omega)).trans ((h3.1.block _ (by omega)).trans f4), ?_⟩
    exact f3.trans ((h3.1.mono (by omega)).trans (h4.mono (by omega)))
  have HB := Lib.hid hB3
  have HC := Lib.hid hC
  have hsl : (bcells (shaI m)).length = 20 := by rw [bcells_length]; exact idI_length _
  have HS1 : Hid ((Try.prog.info? 26).map (·.size) = some (bcells (shaI m)).length) := Lib.hid (by rw [hsl]; exact size61)
  have HS2 : Hid ((Try.prog.info? 26).map (·.size) = some (bcells (shaI m)).toArray.size) := Lib.hid (by rw [List.size_toArray, hsl]; exact size61)
  have HSZ2 : Hid (Z.toArray.size = (bcells (shaI m)).toArray.size) := Lib.hid (by simp [hZl, hsl])
  have HS3 : Hid ((bcells (shaI m)).toArray.all (·.oneCell') = true) := Lib.hid (all_oneCell_toArray (bcells_one _))
  clear hB3 hC hsl
  clear hM hH hZ hY hh hT hYl hHl hg1 hal hW1 f0 f1 fo f3 f4 hZl P
  go_enter Try.func20, Try.ntmps20
  go_wp2_with (first
    | (go_at_call 60; refine (HM.out).mono ?_; rintro e w1 ⟨rfl, rfl⟩)
    | ((with_reducible refine wpList_load_mid (op := ⟨some 10, _, _, _, _, _⟩) rfl 94 (.tmp 9) rfl g 0 ?_ H _ HRA.out Try.underlying94 rfl HS.out ?_); rfl)
    | ((with_reducible refine wpList_store_row rfl 94 (.tmp 3) (.tmp 10) rfl (w.heap.size + 1) H.toArray ?_ ?_ 94 Y.toArray HAL.out HS'.out HSZ.out H1.out ?_); rfl; rfl; rw [← HW1.out])
    | (go_at_call 15; refine (HPAD.out).mono ?_; rintro e w2 ⟨v2, rfl, ho2, hb2⟩; obtain ⟨A2, c2, rfl, HAB⟩ := HP.out v2 w2 ho2 hb2; clear ho2 hb2)
    | (go_at_call 55; refine (HAB.out).mono ?_; rintro e w3 ⟨rfl, ⟨t3, hh3, ht3⟩, hg3⟩; obtain ⟨k1, k2, k3, k4, k5⟩ := hh3.word0; have HB3 := Lib.hid (HB.out w3 hg3); clear hh3 ht3 hg3)
    | (go_at_call 61; refine (id_any _ _).mono ?_; rintro e w4 ⟨rfl, hb4⟩; have H4 := Lib.hid (HC.out w3 w4 HB3.out hb4); clear hb4)
    | ((with_reducible refine wpList_store_row rfl 26 (.tmp 2) (.tmp 19) rfl w.heap.size (bcells (shaI m)).toArray ?_ ?_ 26 Z.toArray H4.out.1 HS2.out HSZ2.out HS3.out ?_); rfl; rfl))
  refine bodyPost_ret (v := .agg (bcells (shaI m)).toArray) ?_ rfl ⟨rfl, ?_⟩
  · refine results_cell1 (p := 2) (ty := 26) rfl _ _ w.heap.size 0 (bcells (shaI m)) _ rfl (fun i u hu => ?_) Try.underlying26 rfl HS1.out
    rw [Nat.zero_add, cell_of_row _ _ i _ 26 (0, 0) (setRow_heap _ _ _ _ 26 _ H4.out.1)]
    simpa using hu
  · exact below_setRow H4.out.2 (Nat.le_refl _) _
theorem BAt.lt_ {w : World} {B : Nat} {A : Option Addr} {b : List UInt8} (h : BAt w B A b) : ∀ g' off, A = some ⟨g', off, none⟩ → b ≠ [] → g' < B := by
  intro g' off e hb
  obtain ⟨ga, o, e2, hg, _⟩ := h.some_ (List.length_pos_iff.2 hb)
  rw [e] at e2
  injection e2 with e2
  injection e2 with e2
  omega

set_option maxRecDepth 100000 in
theorem sum_any {w : World} (A : Option Addr) (c : Nat) (b : List UInt8) (hx : BAt w w.heap.size A b) (hc : b.length ≤ c) (hl : b.length ≤ 900000) : Calls Try.prog 13 #[.slice A b.length c] w fun e w' => e = .returned (.agg (bcells (shaI b)).toArray) ∧ Below w.heap.size w w' := by
  obtain ⟨Z, hZ⟩ : ∃ Z, Z = bcells (List.replicate 20 0) := ⟨_, rfl⟩
  have hz := fun W => zero61 W
  rw [← hZ] at hz
  have hZl : Z.length = 20 := by rw [hZ, bcells_length, List.length_replicate]
  have hb0 : Below w.heap.size w (w.alloc (.cells Z.toArray 26)) := (Below.refl w.heap.size w).alloc (Nat.le_refl _) _
  have f4 := heap_alloc_new w (.cells Z.toArray 26)
  have hs0 : (w.alloc (.cells Z.toArray 26)).heap.size = w.heap.size + 1 := by simp
  have hN : ∀ w1 g, w.heap.size + 1 ≤ g → HashOf w1 g [] → Below (w.heap.size + 1) (w.alloc (.cells Z.toArray 26)) w1 → Calls Try.prog 55 #[.pointer (some ⟨g, 0, none⟩), .slice A b.length c] w1 fun e w' => e = .returned (.tuple #[]) ∧ HashOf w' g b ∧ Below (w.heap.size + 1) (w.alloc (.cells Z.toArray 26)) w' := by
    intro w1 g hg h1 hb1
    have hx1 : BAt w1 w1.heap.size A b := (hx.below (hb0.trans (hb1.mono (by omega)))).more (by have := hb1.size; omega)
    refine (absorb_of h1 A c b hx1 hc hl (by simp) (fun g' off e hb => by have := hx.lt_ g' off e hb; omega)).mono ?_
    rintro e w' ⟨he, h2, h3⟩
    exact ⟨he, by simpa using h2, hb1.grown h3 (by have := hb1.size; omega) (fun k hk => by simp at hk; omega)⟩
  have hF : ∀ w3 w4 : World, Below (w.heap.size + 1) (w.alloc (.cells Z.toArray 26)) w3 → Below w3.heap.size w3 w4 → w4.heap[w.heap.size]? = some (.cells Z.toArray 26 (0, 0)) ∧ Below w.heap.size w w4 := fun w3 w4 h3 h4 => by
    have l3 := h3.size
    exact ⟨(h4.block _ (by omega)).trans ((h3.block _ (by omega)).trans f4), hb0.trans ((h3.mono (by omega)).trans (h4.mono (by omega)))⟩
  have HN := Lib.hid hN
  have HF := Lib.hid hF
  have hsl : (bcells (shaI b)).length = 20 := by rw [bcells_length]; exact idI_length _
  have HS1 : Hid ((Try.prog.info? 26).map (·.size) = some (bcells (shaI b)).length) := Lib.hid (by rw [hsl]; exact size61)
  have HS2 : Hid ((Try.prog.info? 26).map (·.size) = some (bcells (shaI b)).toArray.size) := Lib.hid (by rw [List.size_toArray, hsl]; exact size61)
  have HSZ2 : Hid (Z.toArray.size = (bcells (shaI b)).toArray.size) := Lib.hid (by simp [hZl, hsl])
  have HS3 : Hid ((bcells (shaI b)).toArray.all (·.oneCell') = true) := Lib.hid (all_oneCell_toArray (bcells_one _))
  have HL := Lib.hid hl
  clear hx hZ hZl hb0 f4 hs0 hN hF hsl hl hc
  go_enter Try.func13, Try.ntmps13
  go_wp2_with (first
    | (go_at_call 17; refine (new_any _).mono ?_; rintro e w1 ⟨g, rfl, hg, hh, hb1⟩; have HA := Lib.hid (HN.out w1 g (by simpa using hg) hh (by simpa using hb1)); clear hg hh hb1)
    | (go_at_call 55; refine (HA.out).mono ?_; rintro e w2 ⟨rfl, hh2, hb2⟩; have HH2 := Lib.hid hh2; have HB2 := Lib.hid hb2; clear hh2 hb2)
    | (go_at_call 20; refine (hsum_of HH2.out HL.out).mono ?_; rintro e w3 ⟨rfl, hb3⟩; have H4 := Lib.hid (HF.out _ _ HB2.out hb3); clear hb3)
    | ((with_reducible refine wpList_store_row rfl 26 (.tmp 2) (.tmp 9) rfl w.heap.size (bcells (shaI b)).toArray ?_ ?_ 26 Z.toArray H4.out.1 HS2.out HSZ2.out HS3.out ?_); rfl; rfl))
  refine bodyPost_ret (v := .agg (bcells (shaI b)).toArray) ?_ rfl ⟨rfl, ?_⟩
  · refine results_cell1 (p := 2) (ty := 26) rfl _ _ w.heap.size 0 (bcells (shaI b)) _ rfl (fun i u hu => ?_) Try.underlying26 rfl HS1.out
    rw [Nat.zero_add, cell_of_row _ _ i _ 26 (0, 0) (setRow_heap _ _ _ _ 26 _ H4.out.1)]
    simpa using hu
  · exact below_setRow H4.out.2 (Nat.le_refl _) _

theorem sha_abc : (shaI [97, 98, 99]).take 4 = [169, 153, 62, 54] := by decide +kernel
theorem sha_nil : (shaI []).take 4 = [218, 57, 163, 238] := by decide +kernel
end Go.Proofs.Ytcoiaddjfeaciaa
