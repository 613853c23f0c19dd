/- Walk of ServiceKeys. Conditions: what comes in fits 2^47 bytes. -/
import Derived.Test.YtjiiignbejbiiaaXVwt
namespace Go.Proofs.Ytjiiignbejbiiaa
open Go.Shelf Go.RowKit Go.Lib Go.Great
set_option maxRecDepth 100000
set_option maxHeartbeats 2000000
theorem eq51 (xs ys : List UInt8) (hx : xs.length = 20) (hy : ys.length = 20) (W : World) : (Op.equalIn 10000 51 (.agg (bcells xs).toArray) (.agg (bcells ys).toArray)).run Try.prog W = .ok (xs == ys) W :=
  run_equalIn_bytes W 9998 51 5 20 Try.underlying51 Try.underlying5 (fun w => by
    obtain ⟨i0, hi, hz0, hz1, hz2⟩ := info_parts info5
    simp [sizeOf, typeInfo, hi, hz1]) xs ys hx hy
theorem skeys_big (s t : List UInt8) (hs : s.length ≤ 140737488355328) (ht : t.length ≤ 140737488355328) (h : 1200 < s.length + t.length) (w : World) : Calls Try.prog 9 #[.string (bstr s), .string (bstr t)] w fun e w' => e = .returned (.bool true) ∧ Below w.heap.size w w' := by
  have hss := bstr_size s
  have hst := bstr_size t
  have HLI := Lib.hid (slives_any w)
  have hn : (1200 : Int) < (s.length : Int) + (t.length : Int) := by omega
  clear h
  generalize bstr s = SB at *
  generalize bstr t = TB at *
  generalize s.length = ls at *
  generalize t.length = lt at *
  go_enter Try.func9, Try.ntmps9
  go_wp2_with (go_at_call 27; (with_reducible refine HLI.out.mono ?_); rintro e w1 ⟨rfl, hb1⟩)
  go_ret
  exact ⟨rfl, by assumption⟩
theorem skeys_small (s t : List UInt8) (h : s.length + t.length ≤ 1200) (w : World) : Calls Try.prog 9 #[.string (bstr s), .string (bstr t)] w fun e w' => e = .returned (.bool true) ∧ Below w.heap.size w w' := by
  have hss := bstr_size s
  have hst := bstr_size t
  have hn : ¬ (1200 : Int) < (s.length : Int) + (t.length : Int) := by omega
  have hl1 : s.length ≤ 1200 := by omega
  have hl2 : t.length ≤ 1200 := by omega
  have C1 := Lib.hid (skey_any s w)
  have C2 : Hid (∀ W, Calls Try.prog 32 #[.string (bstr t)] W fun e w' => e = .returned (tellsK t) ∧ Below W.heap.size W w') := Lib.hid (skey_any t)
  have D1 : Hid (∀ W, Calls Try.prog 30 #[.string (bstr s)] W fun e w' => e = .returned (tellsC (canonS s)) ∧ Below W.heap.size W w') := Lib.hid (scanon_any s)
  have D2 : Hid (∀ W, Calls Try.prog 30 #[.string (bstr t)] W fun e w' => e = .returned (tellsC (canonS t)) ∧ Below W.heap.size W w') := Lib.hid (scanon_any t)
  have SM : Hid (∀ W, Calls Try.prog 20 #[.string (bstr s), .string (bstr t)] W fun e w' => e = .returned (.bool (foldL s == foldL t)) ∧ Below W.heap.size W w') := Lib.hid (same_any s t (by omega) (by omega))
  have GD : Hid (∀ W, Calls Try.prog 34 #[.string (bstr s)] W fun e w' => e = .returned (.bool (svcL s)) ∧ Below W.heap.size W w') := Lib.hid (sgood_any s)
  have GA : Hid (svcL s = true → ∀ W, Calls Try.prog 13 #[.string (bstr (canonS s).1)] W fun e w' => e = .returned (.bool true) ∧ Below W.heap.size W w') := Lib.hid (fun hv W => by
    have h := goodp_any (foldL s) W
    rw [goodL_fold, ((svc_iff s).1 hv).1] at h
    rw [canonS, if_pos hv]
    exact h)
  have GB : Hid (svcL s = true → ∀ W, Calls Try.prog 34 #[.string (bstr (canonS s).1)] W fun e w' => e = .returned (.bool true) ∧ Below W.heap.size W w') := Lib.hid (fun hv W => by
    have h := sgood_any (foldL s) W
    rw [svc_fold, hv] at h
    rw [canonS, if_pos hv]
    exact h)
  have GC : Hid (svcL s = true → ∀ W, Calls Try.prog 20 #[.string (bstr (canonS s).1), .string (bstr s)] W fun e w' => e = .returned (.bool true) ∧ Below W.heap.size W w') := Lib.hid (fun hv W => by
    have h := same_any (foldL s) s (by rw [foldL_length]; omega) (by omega) W
    rw [foldL_foldL, show (foldL s == foldL s) = true by simp] at h
    rw [canonS, if_pos hv]
    exact h)
  have LV : Hid (∀ W, Calls Try.prog 27 #[] W fun e w' => e = .returned (.bool true) ∧ Below W.heap.size W w') := Lib.hid slives_any
  have HE1 : Hid (svcL s = true → errS s = 0) := Lib.hid (fun hv => by rw [errS, if_pos hv])
  have HE0 : Hid (svcL s = false → errS s = 40) := Lib.hid (fun hv => by rw [errS, hv]; rfl)
  have hc1 := canonS_err s
  have hc2 := canonS_err t
  unfold tellsK at C1 C2
  unfold tellsC at D1 D2
  rw [hc1] at D1
  rw [hc2] at D2
  have HQ : Hid (foldL s = foldL t → bcells (keyS t) = bcells (keyS s) ∧ errS t = errS s ∧ bstr (canonS t).1 = bstr (canonS s).1) := Lib.hid (fun e => by
    have hv := svc_same e
    have e1 : keyS t = keyS s := by rw [keyS, keyS, hv, e]
    have e2 : errS t = errS s := by rw [errS, errS, hv]
    have e3 : canonS t = canonS s := by rw [canonS, canonS, hv, e]
    rw [e1, e2, e3]
    exact ⟨rfl, rfl, rfl⟩)
  obtain ⟨Z, hZ⟩ : ∃ Z, Z = bcells (List.replicate 20 0) := ⟨_, rfl⟩
  have hz1 := fun W => zero61 W
  rw [← hZ] at hz1
  have hZl : Z.length = 20 := by rw [hZ, bcells_length, List.length_replicate]
  have he := fun W => eq51 (keyS s) (keyS s) (keyS_length s) (keyS_length s) W
  rw [show (keyS s == keyS s) = true by simp] at he
  have T : ∀ x : List UInt8, Hid ((Try.prog.info? 51).map (·.size) = some (bcells (keyS x)).toArray.size) ∧ Hid (Z.toArray.size = (bcells (keyS x)).toArray.size) ∧ Hid ((bcells (keyS x)).toArray.all (·.oneCell') = true) ∧ (bcells (keyS x)).length = 20 := fun x => by
    have hl : (bcells (keyS x)).length = 20 := by rw [bcells_length, keyS_length]
    exact ⟨Lib.hid (by rw [List.size_toArray, hl]; exact size61), Lib.hid (by rw [List.size_toArray, List.size_toArray, hl, hZl]), Lib.hid (all_oneCell_toArray (bcells_one _)), hl⟩
  obtain ⟨A1, A2, A3, A4⟩ := T s
  obtain ⟨B1, B2, B3, B4⟩ := T t
  have HA4 := Lib.hid A4
  have HB4 := Lib.hid B4
  clear T h hZ hZl A4 B4 hc1 hc2 hl1 hl2
  generalize bcells (keyS s) = K at *
  generalize bcells (keyS t) = L at *
  generalize bstr (canonS s).1 = X at *
  generalize bstr (canonS t).1 = Y at *
  generalize errS s = e at *
  generalize errS t = f at *
  generalize svcL s = sv at *
  have HFB : Hid ((foldL s == foldL t) = true → foldL s = foldL t) := Lib.hid (fun h => by simpa using h)
  generalize (foldL s == foldL t) = fb at *
  generalize foldL s = fs at *
  generalize foldL t = ft at *
  generalize bstr s = SB at *
  generalize bstr t = TB at *
  generalize s.length = ls at *
  generalize t.length = lt at *
  go_enter Try.func9, Try.ntmps9
  go_upto_region 4 with (first
    | (go_at_call 32; (with_reducible refine C1.out.mono ?_); rintro e w1 ⟨rfl, hb1⟩; have HA1 := Lib.hid (heap_alloc_new w1 (.cells Z.toArray 51)))
    | ((with_reducible refine wpList_store_row rfl 51 (.tmp 5) (.tmp 23) rfl w1.heap.size K.toArray ?_ ?_ 51 Z.toArray HA1.out A1.out A2.out A3.out ?_); rfl; rfl))
  have K5 := alloc_set' w1 Z.toArray K.toArray 51 _ rfl
  have hl5 : w1.heap.size < ((w1.alloc (.cells Z.toArray 51)).setRow w1.heap.size K.toArray).heap.size := (Array.getElem?_eq_some_iff.1 K5.1).1
  generalize (w1.alloc (.cells Z.toArray 51)).setRow w1.heap.size K.toArray = W1 at K5 hl5 ⊢
  obtain ⟨q1, q2⟩ := K5
  have b1 : Below w.heap.size w W1 := hb1.trans (q2.mono hb1.size)
  clear q2 HA1 hb1
  go_upto_region 5 with (first
    | (go_at_call 32; (with_reducible refine (C2.out W1).mono ?_); rintro e w2 ⟨rfl, hb2⟩; have HA2 := Lib.hid (heap_alloc_new w2 (.cells Z.toArray 51)))
    | ((with_reducible refine wpList_store_row rfl 51 (.tmp 7) (.tmp 28) rfl w2.heap.size L.toArray ?_ ?_ 51 Z.toArray HA2.out B1.out B2.out B3.out ?_); rfl; rfl))
  have K7 := alloc_set' w2 Z.toArray L.toArray 51 _ rfl
  have hl7 : w2.heap.size < ((w2.alloc (.cells Z.toArray 51)).setRow w2.heap.size L.toArray).heap.size := (Array.getElem?_eq_some_iff.1 K7.1).1
  generalize (w2.alloc (.cells Z.toArray 51)).setRow w2.heap.size L.toArray = W2 at K7 hl7 ⊢
  obtain ⟨r1, r2⟩ := K7
  have b2' := b1.trans (hb2.mono b1.size)
  have b2 : Below w.heap.size w W2 := b2'.trans (r2.mono b2'.size)
  have r0 : W2.heap[w1.heap.size]? = some (.cells K.toArray 51 (0, 0)) := (r2.block _ (Nat.lt_of_lt_of_le hl5 hb2.size)).trans ((hb2.block _ hl5).trans q1)
  have hl6 : w1.heap.size < W2.heap.size := (Array.getElem?_eq_some_iff.1 r0).1
  have HL1 : Hid (∀ W, Below W2.heap.size W2 W → (loadVar 51 ⟨w1.heap.size, 0, none⟩).run Try.prog W = .ok (.agg K.toArray) W) := Lib.hid (fun W hW => load51 HA4.out ((hW.block _ hl6).trans r0))
  have HL2 : Hid (∀ W, Below W2.heap.size W2 W → (loadVar 51 ⟨w2.heap.size, 0, none⟩).run Try.prog W = .ok (.agg L.toArray) W) := Lib.hid (fun W hW => load51 HB4.out ((hW.block _ hl7).trans r1))
  have HBB := Lib.hid b2
  have B0 := Below.refl W2.heap.size W2
  have D1' := upB W2 D1.out
  have D2' := upB W2 D2.out
  have SM' := upB W2 SM.out
  have GD' := upB W2 GD.out
  have LV' := upB W2 LV.out
  clear r0 r1 r2 hl5 hl6 hl7 q1 HA2 hb2 b1 b2 b2' C1 C2 D1 D2 SM GD LV A1 A2 A3 B1 B2 B3 HA4 HB4
  go_upto_region 7 with (first
    | (go_at_call 30; (with_reducible refine (D1'.out _ B0).mono ?_); rintro e w3 ⟨rfl, hb3⟩)
    | (go_at_call 30; (with_reducible refine (D2'.out _ hb3).mono ?_); rintro e w4 ⟨rfl, hb4⟩))
  clear D1' D2' hb3
  have hXX : (X.toList == X.toList) = true := by simp
  cases sv with
  | true =>
    obtain rfl := HE1.out rfl
    have GA' := upB W2 (GA.out rfl)
    have GB' := upB W2 (GB.out rfl)
    have GC' := upB W2 (GC.out rfl)
    clear HE1 HE0 GA GB GC
    cases fb with
    | true =>
      obtain ⟨rfl, rfl, rfl⟩ := HQ.out (HFB.out rfl)
      clear HQ HFB
      go_wp2_with (first
        | (go_at_call 20; (with_reducible refine (SM'.out _ hb4).mono ?_); rintro e w5 ⟨rfl, hb5⟩; have h51 := HL1.out _ hb5; have h52 := HL2.out _ hb5)
        | ((with_reducible refine wpList_loadG (o := ⟨some 44, _, _, _, _, _⟩) ?_ 51 (.tmp 5) rfl _ ?_ _ h51 ?_); rfl; rfl)
        | ((with_reducible refine wpList_loadG (o := ⟨some 45, _, _, _, _, _⟩) ?_ 51 (.tmp 7) rfl _ ?_ _ h52 ?_); rfl; rfl)
        | (go_at_call 34; (with_reducible refine (GD'.out _ hb5).mono ?_); rintro e w6 ⟨rfl, hb6⟩)
        | (go_at_call 13; (with_reducible refine (GA'.out _ hb6).mono ?_); rintro e w7 ⟨rfl, hb7⟩)
        | (go_at_call 34; (with_reducible refine (GB'.out _ hb7).mono ?_); rintro e w8 ⟨rfl, hb8⟩)
        | (go_at_call 20; (with_reducible refine (GC'.out _ hb8).mono ?_); rintro e w9 ⟨rfl, hb9⟩)
        | (go_at_call 27; (with_reducible refine (LV'.out _ hb9).mono ?_); rintro e w10 ⟨rfl, hb10⟩))
      go_ret
      exact ⟨rfl, HBB.out.trans (hb10.mono HBB.out.size)⟩
    | false =>
      clear HQ HFB
      go_wp2_with (first
        | (go_at_call 20; (with_reducible refine (SM'.out _ hb4).mono ?_); rintro e w5 ⟨rfl, hb5⟩)
        | (go_at_call 34; (with_reducible refine (GD'.out _ hb5).mono ?_); rintro e w6 ⟨rfl, hb6⟩)
        | (go_at_call 13; (with_reducible refine (GA'.out _ hb6).mono ?_); rintro e w7 ⟨rfl, hb7⟩)
        | (go_at_call 34; (with_reducible refine (GB'.out _ hb7).mono ?_); rintro e w8 ⟨rfl, hb8⟩)
        | (go_at_call 20; (with_reducible refine (GC'.out _ hb8).mono ?_); rintro e w9 ⟨rfl, hb9⟩)
        | (go_at_call 27; (with_reducible refine (LV'.out _ hb9).mono ?_); rintro e w10 ⟨rfl, hb10⟩))
      go_ret
      exact ⟨rfl, HBB.out.trans (hb10.mono HBB.out.size)⟩
  | false =>
    obtain rfl := HE0.out rfl
    clear HE1 HE0 GA GB GC
    cases fb with
    | true =>
      obtain ⟨rfl, rfl, rfl⟩ := HQ.out (HFB.out rfl)
      clear HQ HFB
      go_wp2_with (first
        | (go_at_call 20; (with_reducible refine (SM'.out _ hb4).mono ?_); rintro e w5 ⟨rfl, hb5⟩; have h51 := HL1.out _ hb5; have h52 := HL2.out _ hb5)
        | ((with_reducible refine wpList_loadG (o := ⟨some 44, _, _, _, _, _⟩) ?_ 51 (.tmp 5) rfl _ ?_ _ h51 ?_); rfl; rfl)
        | ((with_reducible refine wpList_loadG (o := ⟨some 45, _, _, _, _, _⟩) ?_ 51 (.tmp 7) rfl _ ?_ _ h52 ?_); rfl; rfl)
        | (go_at_call 34; (with_reducible refine (GD'.out _ hb5).mono ?_); rintro e w6 ⟨rfl, hb6⟩)
        | (go_at_call 27; (with_reducible refine (LV'.out _ hb6).mono ?_); rintro e w10 ⟨rfl, hb10⟩))
      go_ret
      exact ⟨rfl, HBB.out.trans (hb10.mono HBB.out.size)⟩
    | false =>
      clear HQ HFB
      go_wp2_with (first
        | (go_at_call 20; (with_reducible refine (SM'.out _ hb4).mono ?_); rintro e w5 ⟨rfl, hb5⟩)
        | (go_at_call 34; (with_reducible refine (GD'.out _ hb5).mono ?_); rintro e w6 ⟨rfl, hb6⟩)
        | (go_at_call 27; (with_reducible refine (LV'.out _ hb6).mono ?_); rintro e w10 ⟨rfl, hb10⟩))
      go_ret
      exact ⟨rfl, HBB.out.trans (hb10.mono HBB.out.size)⟩
theorem skeys_walk (s t : List UInt8) (hs : s.length ≤ 140737488355328) (ht : t.length ≤ 140737488355328) (w : World) : Calls Try.prog 9 #[.string (bstr s), .string (bstr t)] w fun e w' => e = .returned (.bool true) ∧ Below w.heap.size w w' := by
  by_cases h : 1200 < s.length + t.length
  · exact skeys_big s t hs ht h w
  · exact skeys_small s t (by omega) w
end Go.Proofs.Ytjiiignbejbiiaa
