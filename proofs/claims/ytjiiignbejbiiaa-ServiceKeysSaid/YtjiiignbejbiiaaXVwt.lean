/- Walk of ServiceTells. No condition. -/
import Derived.Test.YtjiiignbejbiiaaXVla
import Derived.Test.YtjiiignbejbiiaaXVra
import Derived.Test.YtjiiignbejbiiaaXVrc
import Derived.Stop.BytesEq
namespace Go.Proofs.Ytjiiignbejbiiaa
open Go.Shelf Go.RowKit Go.Lib Go.Great
set_option maxRecDepth 100000
set_option maxHeartbeats 2000000
theorem eq54 (xs ys : List UInt8) (hx : xs.length = 20) (hy : ys.length = 20) (W : World) : (Op.equalIn 10000 54 (.agg (bcells xs).toArray) (.agg (bcells ys).toArray)).run Try.prog W = .ok (xs == ys) W :=
  run_equalIn_bytes W 9998 54 5 20 Try.underlying54 Try.underlying5 (fun w => by
    obtain ⟨i0, hi, hz0, hz1, hz2⟩ := info_parts info5
    simp [sizeOf, typeInfo, hi, hz1]) xs ys hx hy
theorem upB {f : FuncId} {args : Array Value} {v : Value} (w : World) (h : ∀ W, Calls Try.prog f args W fun e w' => e = .returned v ∧ Below W.heap.size W w') : Hid (∀ W, Below w.heap.size w W → Calls Try.prog f args W fun e w' => e = .returned v ∧ Below w.heap.size w w') :=
  Lib.hid (fun W hW => (h W).mono (by rintro e w' ⟨rfl, hb⟩; exact ⟨rfl, hW.trans (hb.mono hW.size)⟩))
theorem load51 {w : World} {g : Nat} {K : List Value} {ty : TypeId} (hl : K.length = 20) (h : w.heap[g]? = some (.cells K.toArray ty (0, 0))) : (loadVar 51 ⟨g, 0, none⟩).run Try.prog w = .ok (.agg K.toArray) w :=
  run_loadVar_mid (P := Try.prog) w g 0 51 K _ (row_range h) Try.underlying51 rfl (by rw [hl]; exact size61)
theorem load54 {w : World} {g : Nat} {K : List Value} {ty : TypeId} (hl : K.length = 20) (h : w.heap[g]? = some (.cells K.toArray ty (0, 0))) : (loadVar 54 ⟨g, 0, none⟩).run Try.prog w = .ok (.agg K.toArray) w :=
  run_loadVar_mid (P := Try.prog) w g 0 54 K _ (row_range h) Try.underlying54 rfl (by rw [hl]; exact size28)
theorem wpList_loadG {P : Program} {ops : Array Oper} {rest : List Oper} {o : Oper} {a : Act} {w : World} {Q : Exit → Act → World → Prop} (hw : Region.wanted o (yielded ops a.tmps) = true) (ty : TypeId) (x : Operand) (ho : o.op = .load ty x) (p : Addr) (hx : a.eval x = .pointer (some p)) (v : Value) (hl : (loadVar ty p).run P w = .ok v w)
    (h : wpList P ops Q rest (a.put o.dst v) w) : wpList P ops Q (o :: rest) a w :=
  BigFrame.wpList_want hw fun _ hK => wp_loadV ty x ho p hx v hl (hK _ _ h)
theorem stells_big (s : List UInt8) (h : 600 < s.length) (w : World) : Calls Try.prog 7 #[.string (bstr s)] w fun e w' => e = .returned (.bool true) ∧ Below w.heap.size w w' := by
  have hss := bstr_size s
  have HLI := Lib.hid (slives_any w)
  have hn : (600 : Int) < (s.length : Int) := by omega
  clear h
  generalize bstr s = SB at *
  generalize s.length = ls at *
  go_enter Try.func7, Try.ntmps7
  go_wp2_with (go_at_call 27; (with_reducible refine HLI.out.mono ?_); rintro e w1 ⟨rfl, hb1⟩)
  go_ret
  exact ⟨rfl, by assumption⟩
theorem stells_small (s : List UInt8) (h : s.length ≤ 600) (w : World) : Calls Try.prog 7 #[.string (bstr s)] w fun e w' => e = .returned (.bool true) ∧ Below w.heap.size w w' := by
  have hss := bstr_size s
  have hn : ¬ (600 : Int) < (s.length : Int) := by omega
  have HB0 := Below.refl w.heap.size w
  have C28 := upB w (ssplit_any s)
  have C29 := upB w (rssplit_any s (by omega))
  have C30 := upB w (scanon_any s)
  have C31 := upB w (rscanon_any s (by omega))
  have C32 := upB w (skey_any s)
  have C33 : Hid (∀ W, Calls Try.prog 33 #[.string (bstr s)] W fun e w' => e = .returned (tellsK s) ∧ Below W.heap.size W w') := Lib.hid (rskey_any s (by omega))
  have C34 := upB w (sgood_any s)
  have C35 := upB w (rsgood_any s (by omega))
  have C27 := upB w slives_any
  unfold tellsK at C32 C33
  unfold tellsS at C28 C29
  unfold tellsC at C30 C31
  obtain ⟨Z, hZ⟩ : ∃ Z, Z = bcells (List.replicate 20 0) := ⟨_, rfl⟩
  have hz1 := fun W => zero61 W
  have hz2 := fun W => zero28 W
  rw [← hZ] at hz1 hz2
  have hZl : Z.length = 20 := by rw [hZ, bcells_length, List.length_replicate]
  have he := fun W => eq54 (keyS s) (keyS s) (keyS_length s) (keyS_length s) W
  have hkk : (keyS s == keyS s) = true := by simp
  rw [hkk] at he
  obtain ⟨K, hK⟩ : ∃ K, K = bcells (keyS s) := ⟨_, rfl⟩
  have hKl : K.length = 20 := by rw [hK, bcells_length, keyS_length]
  have hKo : ∀ u ∈ K, u.oneCell' = true := by rw [hK]; exact bcells_one _
  rw [← hK] at C32 C33 he
  have T1 : Hid ((Try.prog.info? 51).map (·.size) = some K.toArray.size) := Lib.hid (by rw [List.size_toArray, hKl]; exact size61)
  have T1' : Hid ((Try.prog.info? 54).map (·.size) = some K.toArray.size) := Lib.hid (by rw [List.size_toArray, hKl]; exact size28)
  have T2 : Hid (Z.toArray.size = K.toArray.size) := Lib.hid (by rw [List.size_toArray, List.size_toArray, hKl, hZl])
  have T3 : Hid (K.toArray.all (·.oneCell') = true) := Lib.hid (all_oneCell_toArray hKo)
  have HKL := Lib.hid hKl
  clear h hZ hZl hK hKl hKo hkk
  generalize bstr (splitS s).1 = X at *
  generalize bstr (splitS s).2.1 = Y at *
  generalize bstr (splitS s).2.2.1 = U at *
  generalize (splitS s).2.2.2 = g at *
  generalize bstr (canonS s).1 = T at *
  generalize (canonS s).2 = c at *
  generalize errS s = d at *
  generalize svcL s = sv at *
  generalize bstr s = SB at *
  generalize s.length = ls at *
  have hX : (X.toList == X.toList) = true := by simp
  have hY : (Y.toList == Y.toList) = true := by simp
  have hU : (U.toList == U.toList) = true := by simp
  have hT : (T.toList == T.toList) = true := by simp
  go_enter Try.func7, Try.ntmps7
  go_upto_region 7 with (first
    | (go_at_call 28; (with_reducible refine (C28.out _ HB0).mono ?_); rintro e w1 ⟨rfl, hb1⟩)
    | (go_at_call 29; (with_reducible refine (C29.out _ hb1).mono ?_); rintro e w2 ⟨rfl, hb2⟩)
    | (go_at_call 30; (with_reducible refine (C30.out _ hb2).mono ?_); rintro e w3 ⟨rfl, hb3⟩)
    | (go_at_call 31; (with_reducible refine (C31.out _ hb3).mono ?_); rintro e w4 ⟨rfl, hb4⟩))
  clear C28 C29 C30 C31 hb1 hb2 hb3
  go_upto_region 8 with (first
    | (go_at_call 32; (with_reducible refine (C32.out _ hb4).mono ?_); rintro e w5 ⟨rfl, hb5⟩; have HA5 := Lib.hid (heap_alloc_new w5 (.cells Z.toArray 51)))
    | ((with_reducible refine wpList_store_row rfl 51 (.tmp 15) (.tmp 50) rfl w5.heap.size K.toArray ?_ ?_ 51 Z.toArray HA5.out T1.out T2.out T3.out ?_); rfl; rfl))
  have K5 := alloc_set' w5 Z.toArray K.toArray 51 _ rfl
  have hl5 : w5.heap.size < ((w5.alloc (.cells Z.toArray 51)).setRow w5.heap.size K.toArray).heap.size := (Array.getElem?_eq_some_iff.1 K5.1).1
  generalize (w5.alloc (.cells Z.toArray 51)).setRow w5.heap.size K.toArray = W6 at K5 hl5 ⊢
  obtain ⟨q1, q2⟩ := K5
  have b6 : Below w.heap.size w W6 := hb5.trans (q2.mono hb5.size)
  clear q2 HA5 hb4
  go_upto_region 9 with (first
    | (go_at_call 33; (with_reducible refine (C33.out W6).mono ?_); rintro e w7 ⟨rfl, hb7⟩; have HA7 := Lib.hid (heap_alloc_new w7 (.cells Z.toArray 54)))
    | ((with_reducible refine wpList_store_row rfl 54 (.tmp 17) (.tmp 55) rfl w7.heap.size K.toArray ?_ ?_ 54 Z.toArray HA7.out T1'.out T2.out T3.out ?_); rfl; rfl))
  have K7 := alloc_set' w7 Z.toArray K.toArray 54 _ rfl
  generalize (w7.alloc (.cells Z.toArray 54)).setRow w7.heap.size K.toArray = W8 at K7 ⊢
  obtain ⟨r1, r2⟩ := K7
  have b7 := b6.trans (hb7.mono b6.size)
  have b8 : Below w.heap.size w W8 := b7.trans (r2.mono b7.size)
  have r0 : W8.heap[w5.heap.size]? = some (.cells K.toArray 51 (0, 0)) := (r2.block _ (Nat.lt_of_lt_of_le hl5 hb7.size)).trans ((hb7.block _ hl5).trans q1)
  have hl51 := load51 HKL.out r0
  have hl54 := load54 HKL.out r1
  clear r0 r1 r2 b7 b6 q1 HA7 hb7 hl5 hb5
  go_wp2_with (first
    | ((with_reducible refine wpList_loadG (o := ⟨some 86, _, _, _, _, _⟩) ?_ 51 (.tmp 15) rfl _ ?_ _ hl51 ?_); rfl; rfl)
    | ((with_reducible refine wpList_loadG (o := ⟨some 87, _, _, _, _, _⟩) ?_ 54 (.tmp 17) rfl _ ?_ _ hl54 ?_); rfl; rfl)
    | (go_at_call 34; (with_reducible refine (C34.out _ b8).mono ?_); rintro e w9 ⟨rfl, hb9⟩)
    | (go_at_call 35; (with_reducible refine (C35.out _ hb9).mono ?_); rintro e w10 ⟨rfl, hb10⟩)
    | (go_at_call 27; (with_reducible refine (C27.out _ hb10).mono ?_); rintro e w11 ⟨rfl, hb11⟩))
  go_ret
  exact ⟨rfl, hb11⟩
theorem stells_walk (s : List UInt8) (w : World) : Calls Try.prog 7 #[.string (bstr s)] w fun e w' => e = .returned (.bool true) ∧ Below w.heap.size w w' := by
  by_cases h : 600 < s.length
  · exact stells_big s h w
  · exact stells_small s (by omega) w
end Go.Proofs.Ytjiiignbejbiiaa
