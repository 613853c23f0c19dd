/- The walk of the statement IdentBits of this seat: it answers true for every two ids and two numbers. No condition. -/
import Derived.Test.YtcoiaddjfeaciaaNxb
namespace Go.Proofs.Ytcoiaddjfeaciaa
set_option maxRecDepth 100000
set_option maxHeartbeats 400000
open Go.RowKit Go.Great

theorem alloc_set (w : World) (z r : Array Value) (t : TypeId) : ∀ W, W = (w.alloc (.cells z t)).setRow w.heap.size r → W.heap[w.heap.size]? = some (.cells r t (0, 0)) ∧ Below w.heap.size w W := by
  rintro W rfl
  exact ⟨setRow_heap _ _ _ r t (0, 0) (heap_alloc_new w _), below_setRow ((Below.refl _ w).alloc (Nat.le_refl _) _) (Nat.le_refl _) _⟩

theorem bits_walk (a b : List UInt8) (ha : a.length = 20) (hb : b.length = 20) (i bit : Int) (w : World) :
    Calls Try.prog 5 #[.agg (bcells a).toArray, .agg (bcells b).toArray, .int .i64 i, .int .i64 bit] w fun e w' => e = .returned (.bool true) ∧ Below w.heap.size w w' := by
  have HNX := Lib.hid (fun W => next_any a ha W)
  have HRN := Lib.hid (fun W => rnext_any a ha W)
  have HB1 := Lib.hid (fun W => bit_any a ha i W)
  have HB2 := Lib.hid (fun W => rbit_any a ha i W)
  have HW1 := Lib.hid (fun W => with_any a ha i bit W)
  have HW2 := Lib.hid (fun W => rwith_any a ha i bit W)
  have HX1 := Lib.hid (fun W => xor_any a b ha hb W)
  have HX2 := Lib.hid (fun W => rxor_any a b ha hb W)
  have HC1 := Lib.hid (fun W => cmp_any a b ha hb W)
  have HC2 := Lib.hid (fun W => rcmp_any a b ha hb W)
  have HP1 := Lib.hid (fun W => prefix_any a b ha hb W)
  have HP2 := Lib.hid (fun W => rprefix_any a b ha hb W)
  have e1 := fun W => eq42 (withI a i bit) (withI a i bit) ((withI_length a i bit).trans ha) ((withI_length a i bit).trans ha) W
  have e2 := fun W => eq42 (xorL a b) (xorL a b) (xor_len ha hb) (xor_len ha hb) W
  simp only [beq_self_eq_true] at e1 e2
  have hz1 := fun W => zero26 W
  have hz2 := fun W => zero42 W
  obtain ⟨Z, hZ⟩ : ∃ Z, Z = (bcells (List.replicate 20 0)).toArray := ⟨_, rfl⟩
  have hZs : Z.size = 20 := by rw [hZ, List.size_toArray, bcells_length, List.length_replicate]
  rw [← hZ] at hz1 hz2
  obtain ⟨W0, hW0⟩ : ∃ W0, W0 = (w.alloc (.cells (bcells a).toArray 26)).alloc (.cells (bcells b).toArray 26) := ⟨_, rfl⟩
  obtain ⟨h1, h2, h4⟩ := heap2 w (.cells (bcells a).toArray 26) (.cells (bcells b).toArray 26)
  rw [← hW0] at h1 h2 h4
  have HLA : Hid (∀ W, Below W0.heap.size W0 W → (∀ n : Kept W.heap.size W, (loadVar 26 ⟨w.heap.size, 0, none⟩).run Try.prog n.val = .ok (.agg (bcells a).toArray) n.val) ∧ ∀ n : Kept W.heap.size W, (loadVar 26 ⟨w.heap.size + 1, 0, none⟩).run Try.prog n.val = .ok (.agg (bcells b).toArray) n.val) := Lib.hid (fun W hW =>
    ⟨kept_load26 ha ((hW.block _ (Array.getElem?_eq_some_iff.1 h1).1).trans h1), kept_load26 hb ((hW.block _ (Array.getElem?_eq_some_iff.1 h2).1).trans h2)⟩)
  have HK14 : Hid ((loadVar 26 ⟨w.heap.size, 0, none⟩).run Try.prog ((w.alloc (.cells (bcells a).toArray 26)).alloc (.cells (bcells b).toArray 26)) = .ok (.agg (bcells a).toArray) ((w.alloc (.cells (bcells a).toArray 26)).alloc (.cells (bcells b).toArray 26))) := Lib.hid (by rw [← hW0]; exact (HLA.out W0 (Below.refl _ _)).1 ⟨W0, Below.refl _ _⟩)
  have HWZ := Lib.hid hW0
  have HBL := Lib.hid h4
  generalize (bcells (withI a i bit)).toArray = T at HW1 HW2 e1
  generalize (bcells (xorL a b)).toArray = X at HX1 HX2 e2
  generalize cmpL a b = k at HC1 HC2
  generalize pfxN a b = m at HP1 HP2
  generalize bitI a i = bi at HB1 HB2
  generalize (bcells a).toArray = A at HNX HRN HB1 HB2 HW1 HW2 HX1 HX2 HC1 HC2 HP1 HP2 HLA HK14 HWZ ⊢
  generalize (bcells b).toArray = B at HX1 HX2 HC1 HC2 HP1 HP2 HLA HK14 HWZ ⊢
  have HZS := Lib.hid hZs
  clear h1 h2 h4 hW0 hZ hZs ha hb
  go_enter Try.func5, Try.ntmps5
  go_upto_region 2 with (first
    | ((with_reducible refine wpList_loadV (op := ⟨some 14, _, _, _, _, _⟩) rfl 26 (.tmp 4) rfl _ ?_ _ HK14.out ?_); rfl)
    | (go_at_call 22; refine (HNX.out _).mono ?_; rintro e w1 ⟨r, ok, hn, rfl, hb1⟩; rw [← HWZ.out] at hb1; have hrl := hn.length; have hrs : (bcells r).toArray.size = 20 := (List.size_toArray).trans (by rw [bcells_length, hrl]); have S1 : Hid ((Try.prog.info? 26).map (·.size) = some (bcells r).toArray.size) := Lib.hid (by rw [hrs]; exact size26); have S2 : Hid (Z.size = (bcells r).toArray.size) := Lib.hid (by rw [hrs]; exact HZS.out); have S3 : Hid ((bcells r).toArray.all (·.oneCell') = true) := Lib.hid (all_oneCell_toArray (bcells_one _)); have S4 : Hid ((w1.alloc (.cells Z 26)).heap[w1.heap.size]? = some (.cells Z 26 (0, 0))) := Lib.hid (heap_alloc_new w1 _); have HN := Lib.hid hn; have HRL := Lib.hid hrl; have HB1' := Lib.hid hb1; clear hn hrl hrs hb1)
    | ((with_reducible refine wpList_store_row rfl 26 (.tmp 9) (.tmp 16) rfl w1.heap.size (bcells r).toArray ?_ ?_ 26 Z S4.out S1.out S2.out S3.out ?_); rfl; rfl))
  have K5 := alloc_set w1 Z (bcells r).toArray 26 _ rfl
  generalize (w1.alloc (.cells Z 26)).setRow w1.heap.size (bcells r).toArray = W5 at K5 ⊢
  obtain ⟨q1, q2⟩ := K5
  have b5 : Below W0.heap.size W0 W5 := HB1'.out.trans (q2.mono HB1'.out.size)
  have HK19 : Hid ((loadVar 26 ⟨w.heap.size, 0, none⟩).run Try.prog W5 = .ok (.agg A) W5) := Lib.hid ((HLA.out W5 b5).1 ⟨W5, Below.refl _ _⟩)
  have HQ1 := Lib.hid q1
  have HB5 := Lib.hid b5
  clear q1 q2 b5 HNX S1 S2 S3 S4
  go_upto_region 3 with (first
    | ((with_reducible refine wpList_loadV (op := ⟨some 19, _, _, _, _, _⟩) rfl 26 (.tmp 4) rfl _ ?_ _ HK19.out ?_); rfl)
    | (go_at_call 23; refine (HRN.out _).mono ?_; rintro e w2 ⟨r2, ok2, hn2, rfl, hb2⟩; obtain ⟨hr2, ho2⟩ := hn2.unique HN.out; subst hr2; subst ho2; have hrl := hn2.length; have hrs : (bcells r2).toArray.size = 20 := (List.size_toArray).trans (by rw [bcells_length, hrl]); have S1 : Hid ((Try.prog.info? 42).map (·.size) = some (bcells r2).toArray.size) := Lib.hid (by rw [hrs]; exact size42); have S2 : Hid (Z.size = (bcells r2).toArray.size) := Lib.hid (by rw [hrs]; exact HZS.out); have S3 : Hid ((bcells r2).toArray.all (·.oneCell') = true) := Lib.hid (all_oneCell_toArray (bcells_one _)); have S4 : Hid ((w2.alloc (.cells Z 42)).heap[w2.heap.size]? = some (.cells Z 42 (0, 0))) := Lib.hid (heap_alloc_new w2 _); have HB2' := Lib.hid hb2; clear hn2 hrl hrs hb2)
    | ((with_reducible refine wpList_store_row rfl 42 (.tmp 11) (.tmp 21) rfl w2.heap.size (bcells r2).toArray ?_ ?_ 42 Z S4.out S1.out S2.out S3.out ?_); rfl; rfl))
  have K6 := alloc_set w2 Z (bcells r2).toArray 42 _ rfl
  generalize (w2.alloc (.cells Z 42)).setRow w2.heap.size (bcells r2).toArray = W6 at K6 ⊢
  obtain ⟨q1, q2⟩ := K6
  have b65 : Below W5.heap.size W5 W6 := HB2'.out.trans (q2.mono HB2'.out.size)
  have b6 : Below W0.heap.size W0 W6 := HB5.out.trans (b65.mono HB5.out.size)
  have HL1 := Lib.hid (HLA.out W6 b6).1
  have HL2 := Lib.hid (HLA.out W6 b6).2
  have HL3 := Lib.hid (kept_load26 HRL.out ((b65.block _ (Array.getElem?_eq_some_iff.1 HQ1.out).1).trans HQ1.out))
  have HL4 := Lib.hid (kept_load42 HRL.out q1)
  have HB6 := Lib.hid b6
  have e3 := fun W => eq42 r2 r2 HRL.out HRL.out W
  simp only [beq_self_eq_true] at e3
  generalize (bcells r2).toArray = R at HL3 HL4 e3 ⊢
  clear q1 q2 b65 b6 HRN S1 S2 S3 S4 HK19 HLA HN HQ1 hz1 hz2
  refine wp_region_kept W6.heap.size W6 (Below.refl _ _) (by kernel_rfl) (by kernel_rfl) ?_
  repeat (first
    | (go_big_quiet_want; (with_reducible refine quiet_loadV 26 (.tmp 4) rfl _ ?_ _ HL1.out ?_); rfl; simp only [Act.put, List.setIfInBounds_toArray, List.set_cons_zero, List.set_cons_succ]; go_big_quiet_on)
    | (go_big_quiet_want; (with_reducible refine quiet_loadV 26 (.tmp 5) rfl _ ?_ _ HL2.out ?_); rfl; simp only [Act.put, List.setIfInBounds_toArray, List.set_cons_zero, List.set_cons_succ]; go_big_quiet_on)
    | (go_big_quiet_want; (with_reducible refine quiet_loadV 26 (.tmp 9) rfl _ ?_ _ HL3.out ?_); rfl; simp only [Act.put, List.setIfInBounds_toArray, List.set_cons_zero, List.set_cons_succ]; go_big_quiet_on)
    | (go_big_quiet_want; (with_reducible refine quiet_loadV 42 (.tmp 11) rfl _ ?_ _ HL4.out ?_); rfl; simp only [Act.put, List.setIfInBounds_toArray, List.set_cons_zero, List.set_cons_succ]; go_big_quiet_on)
    | go_big_quiet_step (first
        | (go_at_call 24; with_reducible exact kept_of (Nat.le_refl _) HB1.out _)
        | (go_at_call 25; with_reducible exact kept_of (Nat.le_refl _) HB2.out _)
        | (go_at_call 26; with_reducible exact kept_of (Nat.le_refl _) HW1.out _)
        | (go_at_call 27; with_reducible exact kept_of (Nat.le_refl _) HW2.out _)))
  refine wpQuiet_nil ?_
  rintro wk ⟨⟨_, hwk⟩, rfl⟩
  have HWK := Lib.hid hwk
  clear hwk HB1 HB2 HW1 HW2 e1 e3
  go_upto_region 5 with fail
  refine wp_region_kept W6.heap.size W6 HWK.out (by kernel_rfl) (by kernel_rfl) ?_
  repeat (first
    | (go_big_quiet_want; (with_reducible refine quiet_loadV 26 (.tmp 4) rfl _ ?_ _ HL1.out ?_); rfl; simp only [Act.put, List.setIfInBounds_toArray, List.set_cons_zero, List.set_cons_succ]; go_big_quiet_on)
    | (go_big_quiet_want; (with_reducible refine quiet_loadV 26 (.tmp 5) rfl _ ?_ _ HL2.out ?_); rfl; simp only [Act.put, List.setIfInBounds_toArray, List.set_cons_zero, List.set_cons_succ]; go_big_quiet_on)
    | go_big_quiet_step (first
        | (go_at_call 28; with_reducible exact kept_of (Nat.le_refl _) HX1.out _)
        | (go_at_call 29; with_reducible exact kept_of (Nat.le_refl _) HX2.out _)
        | (go_at_call 30; with_reducible exact kept_of (Nat.le_refl _) HC1.out _)
        | (go_at_call 31; with_reducible exact kept_of (Nat.le_refl _) HC2.out _)
        | (go_at_call 32; with_reducible exact kept_of (Nat.le_refl _) HP1.out _)
        | (go_at_call 33; with_reducible exact kept_of (Nat.le_refl _) HP2.out _)
        | (go_at_call 34; exact kept_of (Nat.le_refl _) ilives_any _)))
  refine wpQuiet_nil ?_
  rintro wz ⟨⟨_, hwz⟩, rfl⟩
  go_wp2
  go_ret
  exact ⟨rfl, HBL.out.trans ((HB6.out.trans (hwz.mono HB6.out.size)).mono HBL.out.size)⟩
end Go.Proofs.Ytcoiaddjfeaciaa
