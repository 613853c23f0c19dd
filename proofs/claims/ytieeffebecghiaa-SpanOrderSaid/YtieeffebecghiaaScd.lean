/- Contracts of isBucket, inBucket, Low, High and Draw of package span. Conditions: an id has 20 bytes. -/
import Derived.Test.YtieeffebecghiaaScc
namespace Go.Proofs.Ytieeffebecghiaa
set_option maxRecDepth 100000
set_option maxHeartbeats 1000000
open Go.RowKit Go.Lib Go.Great

theorem isBucket_yes (i : Int) (h0 : 0 ≤ i) (h : i < 160) (w : World) : Calls Try.prog 33 #[.int .i64 i] w fun e w' => e = .returned (.bool true) ∧ w = w' := by
  go_enter Try.func33, Try.ntmps33
  go_wp2
  go_ret
  exact ⟨by simp [h], rfl⟩
theorem isBucket_no (i : Int) (h : ¬ (0 ≤ i ∧ i < 160)) (w : World) : Calls Try.prog 33 #[.int .i64 i] w fun e w' => e = .returned (.bool false) ∧ w = w' := by
  have hq : i < 0 ∨ (0 ≤ i ∧ 160 ≤ i) := by omega
  clear h
  rcases hq with h | ⟨h, h'⟩
  all_goals
    go_enter Try.func33, Try.ntmps33
    go_wp2
    go_ret
    exact ⟨by simp; try omega, rfl⟩
theorem heap4 (w : World) (a b c d : Obj) :
    ((((w.alloc a).alloc b).alloc c).alloc d).heap[w.heap.size]? = some a ∧ ((((w.alloc a).alloc b).alloc c).alloc d).heap[w.heap.size + 1]? = some b ∧ ((((w.alloc a).alloc b).alloc c).alloc d).heap[w.heap.size + 1 + 1]? = some c ∧ ((((w.alloc a).alloc b).alloc c).alloc d).heap[w.heap.size + 1 + 1 + 1]? = some d ∧ Below w.heap.size w ((((w.alloc a).alloc b).alloc c).alloc d) := by
  refine ⟨?_, ?_, ?_, ?_, (((((Below.refl _ w).alloc (Nat.le_refl _) _).alloc (by simp) _).alloc (by simp; omega) _).alloc (by simp; omega) _)⟩
  all_goals
    show ((((w.heap.push a).push b).push c).push d)[_]? = _
    simp only [Array.getElem?_push, Array.size_push]
    repeat (first | rw [if_pos trivial] | rw [if_pos (by omega)] | rw [if_neg (by omega)])
theorem TellsB.more {f : Nat} {caps : Array Value} {w W1 : World} {g : Nat → Bool} (h : TellsB f caps w.heap.size w g) (hb : Below w.heap.size w W1) : TellsB f caps W1.heap.size W1 g :=
  ⟨h.1, fun j hj W hW => h.2 j hj W (hb.trans (hW.mono hb.size))⟩
/-- What inBucket tells. -/
def InIs (o : List UInt8) (g : Nat → Bool) (i : Int) (e : Ending) : Prop := ∃ (x : List UInt8) (b : Bool), e = .returned (.tuple #[.agg (bcells x).toArray, .bool b]) ∧ x.length = 20 ∧ ((∃ k : Nat, i = (k : Int) ∧ k < 160 ∧ b = true ∧ ∀ m, m < 160 → bitL x m = laidB o k g m) ∨ (¬ (0 ≤ i ∧ i < 160) ∧ b = false ∧ x = List.replicate 20 0))
theorem InIs.ld {o f : List UInt8} {g : Nat → Bool} {i : Int} {e : Ending} (h : InIs o g i e) (hf : ∀ m, m < 160 → g m = bitL f m) : LdIs o f i e := by
  obtain ⟨x, b, rfl, hx, h | h⟩ := h
  · obtain ⟨k, h1, h2, h3, h4⟩ := h
    refine ⟨x, b, rfl, hx, .inl ⟨k, h1, h2, h3, hx, fun m hm => ?_⟩⟩
    rw [h4 m hm]
    unfold laidB
    rw [hf m hm]
  · exact ⟨x, b, rfl, hx, .inr h⟩
theorem built26s (W : World) : (Instr.build 23 #[]).run Try.prog W = .ok (.agg (bcells (List.replicate 20 0)).toArray) W := run_build W 23 #[] _ (by kernel_rfl)

theorem inBucket_any (o : List UInt8) (ho : o.length = 20) (i : Int) (f : Nat) (caps : Array Value) (g : Nat → Bool) (w : World) (hf : TellsB f caps w.heap.size w g) :
    Calls Try.prog 24 #[.agg (bcells o).toArray, .int .i64 i, .func (.func f) #[] caps] w fun e w' => InIs o g i e ∧ Below w.heap.size w w' := by
  have hz1 := fun W => zero26 W
  have HBU := Lib.hid built26s
  have hmf : ∀ (fn : Fn) (first cap : Array Value) (w : World), (Instr.makeFunc fn first cap).run Try.prog w = .ok (.func fn first cap) w := fun _ _ _ _ => rfl
  have HZS : Hid ((bcells (List.replicate 20 0)).toArray.size = 20) := Lib.hid (bc_size (by simp))
  have HZI := Lib.hid (bc_info26 (x := List.replicate 20 0) (by simp))
  have HZA := Lib.hid (bc_all (List.replicate 20 0))
  have HZL : Hid ((Try.prog.info? 23).map (·.size) = some (bcells (List.replicate 20 0)).length) := Lib.hid (by rw [bcells_length, List.length_replicate]; exact size26)
  obtain ⟨h1, h2, h3, h4, hb⟩ := heap4 w (.cells (bcells o).toArray 23) (.cells #[.int .i64 i] 3) (.cells #[.func (.func f) #[] caps] 49) (.cells (bcells (List.replicate 20 0)).toArray 23)
  obtain ⟨W1, hW1⟩ : ∃ W1, W1 = ((((w.alloc (.cells (bcells o).toArray 23)).alloc (.cells #[.int .i64 i] 3)).alloc (.cells #[.func (.func f) #[] caps] 49)).alloc (.cells (bcells (List.replicate 20 0)).toArray 23)) := ⟨_, rfl⟩
  have hs1 : W1.heap.size = w.heap.size + 1 + 1 + 1 + 1 := by rw [hW1]; simp
  rw [← hW1] at h1 h2 h3 h4 hb
  have HW := Lib.hid hW1
  have c1 : W1.cell? ⟨w.heap.size + 1, 0, none⟩ = some (.int .i64 i) := cell_of_row _ _ 0 _ 3 (0, 0) h2
  have c3 : W1.cell? ⟨w.heap.size + 1 + 1, 0, none⟩ = some (.func (.func f) #[] caps) := cell_of_row _ _ 0 _ 49 (0, 0) h3
  have HB := Lib.hid hb
  by_cases h : 0 ≤ i ∧ i < 160
  · obtain ⟨k, rfl⟩ : ∃ k : Nat, i = (k : Int) := ⟨i.toNat, by omega⟩
    have HT := Lib.hid (bucket_bits o ho k g f caps W1.heap.size W1 (hf.more hb) (w.heap.size + 1) w.heap.size (w.heap.size + 1 + 1) (by omega) (by omega) (by omega) c1 h1 c3)
    have HBD := Lib.hid (build_any 35 _ W1.heap.size W1 _ HT.out (Nat.le_refl _) W1 (Below.refl _ _))
    have HIB := Lib.hid (fun W => isBucket_yes (k : Int) h.1 h.2 W)
    have HH4 := Lib.hid h4
    have HLT : Hid (w.heap.size + 1 + 1 + 1 < W1.heap.size) := Lib.hid (by omega)
    have HKK : Hid (k < 160) := Lib.hid (by omega)
    generalize (bcells o).toArray = O at HW h1 ⊢
    generalize (bcells (List.replicate 20 0)).toArray = Z at HW HH4 hz1 HZS HBU HZI HZA
    clear h1 h2 h3 h4 hb hW1 hf ho HT h c3 hs1 HBU HZL
    go_enter Try.func24, Try.ntmps24
    go_upto_region 1 with fail
    rw [← HW.out]
    clear HW
    go_wp2_with (first
      | (go_at_call 33; (with_reducible refine (HIB.out _).mono ?_); rintro e w1 ⟨rfl, rfl⟩)
      | (go_at_call 34; (with_reducible refine HBD.out.mono ?_); rintro e w1 ⟨⟨x, rfl, hx⟩, hb1⟩; have H4 := Lib.hid ((hb1.block (w.heap.size + 1 + 1 + 1) HLT.out).trans HH4.out); have HI := Lib.hid (bc_info26 hx.len); have HA := Lib.hid (bc_all x); have HS : Hid (Z.size = (bcells x).toArray.size) := Lib.hid (by rw [bc_size hx.len]; exact HZS.out); have HX := Lib.hid hx; have HB1 := Lib.hid hb1; clear hx hb1)
      | ((with_reducible refine wpList_store_row rfl 23 (.tmp 6) (.tmp 13) rfl (w.heap.size + 1 + 1 + 1) (bcells x).toArray ?_ ?_ 23 Z H4.out HI.out HS.out HA.out ?_); rfl; rfl))
    have q1 := setRow_heap _ (w.heap.size + 1 + 1 + 1) _ (bcells x).toArray 23 (0, 0) H4.out
    have q2 := below_setRow (HB.out.trans (HB1.out.mono HB.out.size)) (g := w.heap.size + 1 + 1 + 1) (by omega) (bcells x).toArray
    have HJ : Hid ((Try.prog.info? 23).map (·.size) = some (bcells x).length) := Lib.hid (by rw [bcells_length, HX.out.len]; exact size26)
    generalize w1.setRow (w.heap.size + 1 + 1 + 1) (bcells x).toArray = W5 at q1 q2 ⊢
    refine bodyPost_ret (v := .tuple #[.agg (bcells x).toArray, .bool true]) ?_ rfl ?_
    · exact results_cell_tmpS (p := 6) (ty := 23) (q := 7) rfl _ _ (w.heap.size + 1 + 1 + 1) 0 (bcells x) _ (.bool true) rfl rfl (row_range q1) Try.underlying23 rfl HJ.out
    · exact ⟨⟨x, true, rfl, HX.out.len, .inl ⟨k, rfl, HKK.out, rfl, fun m hm => by rw [HX.out.bits m hm, if_pos hm]⟩⟩, q2⟩
  · have HIB := Lib.hid (fun W => isBucket_no i h W)
    have HN := Lib.hid h
    have HH4 := Lib.hid h4
    generalize (bcells o).toArray = O at HW h1 ⊢
    generalize hZ : bcells (List.replicate 20 0) = Z at HW HH4 hz1 HZS HBU HZI HZA HZL
    have HZ := Lib.hid hZ
    clear h1 h2 h3 h4 hb hW1 hf ho h c3 hs1 hZ
    go_enter Try.func24, Try.ntmps24
    go_upto_region 1 with fail
    rw [← HW.out]
    clear HW
    go_wp2_with (first
      | (go_at_call 33; (with_reducible refine (HIB.out _).mono ?_); rintro e w1 ⟨rfl, rfl⟩)
      | ((with_reducible refine wpList_buildV (o := ⟨some 11, _, _, _, _, _⟩) rfl 23 _ rfl _ ?_ _ (HBU.out _) ?_); (simp only [List.map_toArray, List.map_nil]))
      | ((with_reducible refine wpList_store_row rfl 23 (.tmp 6) (.tmp 11) rfl (w.heap.size + 1 + 1 + 1) Z.toArray ?_ ?_ 23 Z.toArray HH4.out HZI.out rfl HZA.out ?_); rfl; rfl))
    have q1 := setRow_heap _ (w.heap.size + 1 + 1 + 1) _ Z.toArray 23 (0, 0) HH4.out
    have q2 := below_setRow HB.out (g := w.heap.size + 1 + 1 + 1) (by omega) Z.toArray
    generalize W1.setRow (w.heap.size + 1 + 1 + 1) Z.toArray = W5 at q1 q2 ⊢
    refine bodyPost_ret (v := .tuple #[.agg Z.toArray, .bool false]) ?_ rfl ?_
    · exact results_cell_tmpS (p := 6) (ty := 23) (q := 7) rfl _ _ (w.heap.size + 1 + 1 + 1) 0 Z _ (.bool false) rfl rfl (row_range q1) Try.underlying23 rfl HZL.out
    · exact ⟨⟨List.replicate 20 0, false, by rw [HZ.out], by simp, .inr ⟨HN.out, rfl, rfl⟩⟩, q2⟩

theorem low_any (o : List UInt8) (i : Int) (ho : o.length = 20) (w : World) :
    Calls Try.prog 9 #[.agg (bcells o).toArray, .int .i64 i] w fun e w' => LdIs o (List.replicate 20 0) i e ∧ Below w.heap.size w w' := by
  have HLD := Lib.hid (fun W => (inBucket_any o ho i 25 #[] _ W (low_bits _ _)).mono (R' := fun e w' => LdIs o (List.replicate 20 0) i e ∧ Below W.heap.size W w') (by rintro e w' ⟨h, h'⟩; exact ⟨h.ld (fun m _ => (bitL_zeros m).symm), h'⟩))
  have hz1 := fun W => zero26 W
  have HZS : Hid ((bcells (List.replicate 20 0)).toArray.size = 20) := Lib.hid (bc_size (by simp))
  obtain ⟨h1, h2, hb⟩ := heap2 w (.cells (bcells o).toArray 23) (.cells (bcells (List.replicate 20 0)).toArray 23)
  have HK := Lib.hid (load26 ho h1)
  have HH := Lib.hid h2
  have HB := Lib.hid hb
  generalize (bcells o).toArray = A at HLD HK HH HB ⊢
  generalize (bcells (List.replicate 20 0)).toArray = Z at hz1 HZS HK HH HB
  clear h1 h2 hb ho
  go_enter Try.func9, Try.ntmps9
  go_wp2_with (first
    | ((with_reducible refine wpList_loadV (op := ⟨some 6, _, _, _, _, _⟩) rfl 23 (.tmp 2) rfl _ ?_ _ HK.out ?_); rfl)
    | (go_at_call 24; (with_reducible refine (HLD.out _).mono ?_); rintro e w1 ⟨⟨x, b, rfl, hx, hL⟩, hb1⟩; have H4 := Lib.hid ((hb1.block (w.heap.size + 1) (by simp)).trans HH.out); have HI := Lib.hid (bc_info26 hx); have HA := Lib.hid (bc_all x); have HS : Hid (Z.size = (bcells x).toArray.size) := Lib.hid (by rw [bc_size hx]; exact HZS.out); have HX := Lib.hid hx; have HL := Lib.hid hL; have HB1 := Lib.hid hb1; clear hx hL hb1)
    | ((with_reducible refine wpList_store_row rfl 23 (.tmp 4) (.tmp 9) rfl (w.heap.size + 1) (bcells x).toArray ?_ ?_ 23 Z H4.out HI.out HS.out HA.out ?_); rfl; rfl))
  have q1 := setRow_heap _ (w.heap.size + 1) _ (bcells x).toArray 23 (0, 0) H4.out
  have q2 := below_setRow (HB.out.trans (HB1.out.mono HB.out.size)) (g := w.heap.size + 1) (by omega) (bcells x).toArray
  have HJ : Hid ((Try.prog.info? 23).map (·.size) = some (bcells x).length) := Lib.hid (by rw [bcells_length, HX.out]; exact size26)
  generalize w1.setRow (w.heap.size + 1) (bcells x).toArray = W5 at q1 q2 ⊢
  refine bodyPost_ret (v := .tuple #[.agg (bcells x).toArray, .bool b]) ?_ rfl ?_
  · exact results_cell_tmpS (p := 4) (ty := 23) (q := 5) rfl _ _ (w.heap.size + 1) 0 (bcells x) _ (.bool b) rfl rfl (row_range q1) Try.underlying23 rfl HJ.out
  · exact ⟨⟨x, b, rfl, HX.out, HL.out⟩, q2⟩
theorem high_any (o : List UInt8) (i : Int) (ho : o.length = 20) (w : World) :
    Calls Try.prog 11 #[.agg (bcells o).toArray, .int .i64 i] w fun e w' => LdIs o (List.replicate 20 255) i e ∧ Below w.heap.size w w' := by
  have HLD := Lib.hid (fun W => (inBucket_any o ho i 27 #[] _ W (high_bits _ _)).mono (R' := fun e w' => LdIs o (List.replicate 20 255) i e ∧ Below W.heap.size W w') (by rintro e w' ⟨h, h'⟩; exact ⟨h.ld (fun m hm => (bitL_full m hm).symm), h'⟩))
  have hz1 := fun W => zero26 W
  have HZS : Hid ((bcells (List.replicate 20 0)).toArray.size = 20) := Lib.hid (bc_size (by simp))
  obtain ⟨h1, h2, hb⟩ := heap2 w (.cells (bcells o).toArray 23) (.cells (bcells (List.replicate 20 0)).toArray 23)
  have HK := Lib.hid (load26 ho h1)
  have HH := Lib.hid h2
  have HB := Lib.hid hb
  generalize (bcells o).toArray = A at HLD HK HH HB ⊢
  generalize (bcells (List.replicate 20 0)).toArray = Z at hz1 HZS HK HH HB
  clear h1 h2 hb ho
  go_enter Try.func11, Try.ntmps11
  go_wp2_with (first
    | ((with_reducible refine wpList_loadV (op := ⟨some 6, _, _, _, _, _⟩) rfl 23 (.tmp 2) rfl _ ?_ _ HK.out ?_); rfl)
    | (go_at_call 24; (with_reducible refine (HLD.out _).mono ?_); rintro e w1 ⟨⟨x, b, rfl, hx, hL⟩, hb1⟩; have H4 := Lib.hid ((hb1.block (w.heap.size + 1) (by simp)).trans HH.out); have HI := Lib.hid (bc_info26 hx); have HA := Lib.hid (bc_all x); have HS : Hid (Z.size = (bcells x).toArray.size) := Lib.hid (by rw [bc_size hx]; exact HZS.out); have HX := Lib.hid hx; have HL := Lib.hid hL; have HB1 := Lib.hid hb1; clear hx hL hb1)
    | ((with_reducible refine wpList_store_row rfl 23 (.tmp 4) (.tmp 9) rfl (w.heap.size + 1) (bcells x).toArray ?_ ?_ 23 Z H4.out HI.out HS.out HA.out ?_); rfl; rfl))
  have q1 := setRow_heap _ (w.heap.size + 1) _ (bcells x).toArray 23 (0, 0) H4.out
  have q2 := below_setRow (HB.out.trans (HB1.out.mono HB.out.size)) (g := w.heap.size + 1) (by omega) (bcells x).toArray
  have HJ : Hid ((Try.prog.info? 23).map (·.size) = some (bcells x).length) := Lib.hid (by rw [bcells_length, HX.out]; exact size26)
  generalize w1.setRow (w.heap.size + 1) (bcells x).toArray = W5 at q1 q2 ⊢
  refine bodyPost_ret (v := .tuple #[.agg (bcells x).toArray, .bool b]) ?_ rfl ?_
  · exact results_cell_tmpS (p := 4) (ty := 23) (q := 5) rfl _ _ (w.heap.size + 1) 0 (bcells x) _ (.bool b) rfl rfl (row_range q1) Try.underlying23 rfl HJ.out
  · exact ⟨⟨x, b, rfl, HX.out, HL.out⟩, q2⟩
end Go.Proofs.Ytieeffebecghiaa
