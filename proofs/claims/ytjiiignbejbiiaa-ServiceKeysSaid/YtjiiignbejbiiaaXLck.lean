/- Contract of Wire of package label. No condition. -/
import Derived.Maps.AppendAt
import Derived.RangeFuncBox
import Derived.Lib.AppendStr
import Derived.Test.YtjiiignbejbiiaaXLcj
import Derived.Test.YtjiiignbejbiiaaXLci
import Derived.Test.YtjiiignbejbiiaaXLpb
namespace Go.Proofs.Ytjiiignbejbiiaa
open Go.Shelf Go.RowKit Go.Lib Go.Great
set_option maxRecDepth 100000
set_option maxHeartbeats 1000000
theorem wpListIn_append_str {F : Fence} {n' : Nat} {P : Program} {ops : Array Oper} {rest : List Oper} {o : Oper} {a : Act} {Q : Exit → Act → World → Prop} (w : World) (hgd : o.guard = none) (sl x : Operand) (t u : TypeId)
    (ho : o.op = .call { callee := .builtin .append, args := #[sl, x], argTypes := #[t, u] })
    (base : Nat) (e : TypeId) (i : TypeInfo) (ht : P.underlying t = some (.slice e)) (hu : P.underlying u = some .string) (hi : P.info? e = some i) (hz : i.zero = some (.int .u8 0))
    (hsize : i.size = 1) (hby : i.bytes = 1)
    (v : Value) (n : Nat) (xs : List Value) (hs : a.eval sl = v) (hown : w.ownsRow base e 1 v n xs) (s : ByteArray) (hx : a.eval x = .string s)
    (h63 : n + s.size ≤ maxLen) (hbytes : n + s.size ≤ 140737488355328) (hbase : base ≤ w.heap.size)
    (h : ∀ v' w', w'.ownsRow base e 1 v' (n + s.size) (xs ++ strCells s) → w.grownBy w' v.ownBlock → (v' = .slice none 0 0 ↔ v = .slice none 0 0 ∧ s.size = 0) → wpListIn F n' P ops Q rest (a.put o.dst v') w') : wpListIn F n' P ops Q (o :: rest) a w := by
  refine wpListIn_plain hgd fun K hK => ?_
  obtain ⟨v', w', hr, h2, h3, h4⟩ := run_append_own_string (P := P) (w := w) base t u o.type e i ht hu hi hz hsize hby v n xs hown s h63 hbytes hbase
  unfold Oper.wpIn
  refine ⟨?_, ?_⟩
  · simp [Oper.about, ho, resolve, Target.leads, Sem.run_pure]
  · rw [Oper.semAt_plain F _ _ (by rw [ho]; intro c hc'; cases hc')]
    simp [execOp, ho, resolve, invoke, builtin, hs, hx, hr, Result.andThen]
    exact hK _ _ (h v' w' h2 h3 h4)
theorem Boxed.appended0 {W w1 : World} {n₀ B : Nat} {t e : TypeId} {size : Nat} {v v' : Value} {k m : Nat} {xs ys : List Value}
    (hv : Boxed W B t v) (hte : t ≠ e) (hrow : W.ownsRow n₀ e size v k xs) (hn₀ : n₀ ≤ W.heap.size) (hB : n₀ ≤ B)
    (hown' : w1.ownsRow n₀ e size v' m ys) (hgrow : W.grownBy w1 v.ownBlock) :
    Boxed w1 B t v ∧ Boxed (w1.setCell ⟨B, 0, none⟩ v') B t v' ∧ (w1.setCell ⟨B, 0, none⟩ v').ownsRow n₀ e size v' m ys ∧ KeepsOthers W (w1.setCell ⟨B, 0, none⟩ v') ∧ Below n₀ W (w1.setCell ⟨B, 0, none⟩ v') := by
  have hv1 : Boxed w1 B t v := hv.kept hgrow (hv.not_row hte hrow)
  refine ⟨hv1, hv1.set v', hown'.kept (grownBy_setCell' w1 B v') (.inr (hv1.not_row hte hown').symm), ?_, ?_⟩
  · refine (KeepsOthers.of_grownBy hgrow fun j o ej hj => ?_).trans (KeepsOthers.setCell _ _ _)
    rcases hrow.2 with ⟨rfl, _⟩ | ⟨g, cap, cur, rfl, _, hgb, _⟩
    · simp [Value.ownBlock] at ej
    · obtain rfl : g = j := by simpa [Value.ownBlock] using ej
      rw [hgb] at hj; cases hj; rfl
  · refine ((Below.refl n₀ W).grown hgrow hn₀ fun j ej => ?_).setCell (p := ⟨B, 0, none⟩) hB v'
    rcases hrow.2 with ⟨rfl, _⟩ | ⟨g, cap, cur, rfl, hb, _, _⟩
    · simp [Value.ownBlock] at ej
    · obtain rfl : g = j := by simpa [Value.ownBlock] using ej
      exact hb
theorem results_2 {fn : Func} {p q : Tmp} (h : fn.results = #[.tmp p, .tmp q]) {P : Program} (tmps : Array Value) (w : World) (u v : Value) (hp : tmps.getD p undef = u) (hq : tmps.getD q undef = v) : (results fn tmps).run P w = .ok (.tuple #[u, v]) w := by
  have hp' : tmps[p]?.getD undef = u := by simpa using hp
  have hq' : tmps[q]?.getD undef = v := by simpa using hq
  simp [results, h, hp', hq']
theorem flatP_le (L : List Tx) : (flatP (L.map Subtype.val)).length ≤ L.length * 100001 := by
  induction L with
  | nil => simp [flatP]
  | cons p r ih =>
    rw [flatP_length] at ih ⊢
    rw [List.map_cons, sizeD_cons]
    have := p.2
    simp only [List.length_cons]
    omega
theorem byte_len (n : Nat) : ((UInt8.ofNat n).toNat : Int) = (n : Int) % 256 := by
  rw [UInt8.toNat_ofNat']
  omega
theorem ownsRow_ne {W : World} {base g : Nat} {e : TypeId} {size : Nat} {v : Value} {k : Nat} {xs : List Value} (h : W.ownsRow base e size v k xs) (hg : g < base) : v.ownBlock = none ∨ v.ownBlock ≠ some g := by
  rcases h.2 with ⟨rfl, _⟩ | ⟨g', cap, cur, rfl, hb, _⟩
  · exact .inl rfl
  · refine .inr fun e => ?_
    simp [Value.ownBlock] at e
    omega
theorem ownsRow_pos {W : World} {base : Nat} {e : TypeId} {size : Nat} {v : Value} {k : Nat} {xs : List Value} (h : W.ownsRow base e size v k xs) (hk : 0 < k) : ∃ g cap, v = .slice (some ⟨g, 0, none⟩) k cap := by
  rcases h.2 with ⟨_, h0⟩ | ⟨g, cap, _, rfl, _⟩
  · omega
  · exact ⟨g, cap, rfl⟩
theorem others_walks {W W' : World} (h : KeepsOthers W W') : KeepsWalks W W' := ⟨h.size, fun k o hk ho => h.same k o hk (Obj.not_cells_of_walk ho)⟩
theorem strCells_b (x : List UInt8) : strCells (bstr x) = bcells x := by simp [strCells, bstr, bcells]
/-- Behind an append: what is no cells lies as it lay, and what lay below. -/
theorem app_keeps {W w1 : World} {n₀ : Nat} {e : TypeId} {size : Nat} {v : Value} {k : Nat} {xs : List Value} {tmp : Obj} (hrow : W.ownsRow n₀ e size v k xs) (hn₀ : n₀ ≤ W.heap.size) (hgrow : (W.alloc tmp).grownBy w1 v.ownBlock) : KeepsOthers W w1 ∧ Below n₀ W w1 := by
  refine ⟨(KeepsOthers.alloc W tmp).trans (KeepsOthers.of_grownBy hgrow fun j o ej hj => ?_), ((Below.refl n₀ W).alloc hn₀ tmp).grown hgrow (by simp; omega) fun j ej => ?_⟩
  · rcases (hrow.alloc tmp).2 with ⟨rfl, _⟩ | ⟨g, cap, cur, rfl, _, hgb, _⟩
    · simp [Value.ownBlock] at ej
    · obtain rfl : g = j := by simpa [Value.ownBlock] using ej
      rw [hgb] at hj; cases hj; rfl
  · rcases hrow.2 with ⟨rfl, _⟩ | ⟨g, cap, cur, rfl, hb, _, _⟩
    · simp [Value.ownBlock] at ej
    · obtain rfl : g = j := by simpa [Value.ownBlock] using ej
      exact hb
theorem wire_bad (s : List UInt8) (hs : goodL s = false) (w : World) : Calls Try.prog 23 #[.string (bstr s)] w fun e w' => e = .returned (.tuple #[.slice none 0 0, .int .i64 40]) ∧ Below w.heap.size w w' := by
  have HG := Lib.hid (goodp_any s w)
  rw [hs] at HG
  generalize bstr s = S at *
  clear hs
  go_enter Try.func23, Try.ntmps23
  go_wp2_with (go_at_call 13; (with_reducible refine HG.out.mono ?_); rintro e w1 ⟨rfl, hb1⟩)
  refine bodyPost_ret (v := .tuple #[.slice none 0 0, .int .i64 40]) (results_2 (p := 2) (q := 3) rfl _ _ _ _ rfl rfl) rfl ?_
  exact ⟨rfl, hb1⟩
theorem wire_good (s : List UInt8) (hs : goodL s = true) (w : World) : Calls Try.prog 23 #[.string (bstr s)] w fun e w' => ∃ v, e = .returned (.tuple #[v, .int .i64 0]) ∧ w'.ownsRow w.heap.size 5 1 v (wireL s).length (bcells (wireL s)) ∧ Below w.heap.size w w' := by
  have hsz := bstr_size s
  have hlen : s.length ≤ 253 := ((goodL_iff s).1 hs).2
  have HG := Lib.hid (goodp_any s w)
  rw [hs] at HG
  have HBT := Lib.hid (fun W => btw_any s W)
  obtain ⟨i0, hi, hz0, hz1, hz2⟩ := info_parts info5
  have hmk : ∀ W, (Instr.makeSlice 29 (.int .i64 0) (.int .i64 ((s.length : Int) + 2))).run Try.prog W = .ok (.slice (some ⟨W.heap.size, 0, none⟩) 0 (s.length + 2)) (W.alloc (.cells (List.replicate (s.length + 2) (Value.int .u8 0)).toArray 5)) := fun W => by
    have := run_make_u8 0 (s.length + 2) (by omega) (by omega) W
    rwa [Int.natCast_add] at this
  refine (callsIn_wide (n := 20)).1 ?_
  refine callsIn_of_wp_marks Try.func23 rfl trivial ?_ rfl
  simp only [Try.ntmps23, List.size_toArray, List.length_cons, List.length_nil, Nat.reduceAdd, Nat.reduceSub, Array.replicate_succ, Array.replicate_zero, List.push_toArray, List.append_toArray, List.nil_append, List.cons_append]
  gi_wp2_with (first
    | (refine ⟨trivial, ?_⟩; gi_at_call 13; (with_reducible refine (callsIn_wide.2 HG.out).mono ?_); rintro e w1 ⟨rfl, hb1⟩)
    | (refine ⟨trivial, ?_⟩; gi_at_call 40; (with_reducible refine (callsIn_wide.2 (HBT.out _)).mono ?_); rintro e w' ⟨rfl, rfl⟩))
  obtain ⟨g, hg⟩ : ∃ g, g = w1.heap.size := ⟨_, rfl⟩
  obtain ⟨W0, hW0⟩ : ∃ W0, W0 = ((w1.alloc (.cells (Array.replicate (s.length + 2) (.int .u8 0)) 5)).alloc (.cells #[.slice (some ⟨w1.heap.size, 0, none⟩) 0 (s.length + 2)] 29)).alloc (.cells #[.string (bstr s)] 9) := ⟨_, rfl⟩
  have hs0 : W0.heap.size = g + 3 := by rw [hW0, hg]; simp
  have hbox : Boxed W0 (g + 1) 29 (.slice (some ⟨g, 0, none⟩) 0 (s.length + 2)) := by
    rw [hW0, hg]
    have := (Boxed.new (w1.alloc (.cells (Array.replicate (s.length + 2) (.int .u8 0)) 5)) 29 (.slice (some ⟨w1.heap.size, 0, none⟩) 0 (s.length + 2))).alloc (.cells #[.string (bstr s)] 9)
    rwa [World.size_alloc] at this
  have hstr : W0.cell? ⟨g + 2, 0, none⟩ = some (.string (bstr s)) := by
    rw [hW0, hg]
    have := (cell_new_l ((w1.alloc (.cells (Array.replicate (s.length + 2) (.int .u8 0)) 5)).alloc (.cells #[.slice (some ⟨w1.heap.size, 0, none⟩) 0 (s.length + 2)] 29)) (.string (bstr s)) 9).1
    rwa [World.size_alloc, World.size_alloc] at this
  have hown : W0.ownsRow g 5 1 (.slice (some ⟨g, 0, none⟩) 0 (s.length + 2)) 0 [] := by
    refine ⟨rfl, .inr ⟨g, s.length + 2, Array.replicate (s.length + 2) (.int .u8 0), rfl, Nat.le_refl _, ?_, by omega, by simp only [maxLen]; omega, by simp, by simp⟩⟩
    rw [hW0, hg, Below.heap_alloc _ _ _ (by simp; omega), Below.heap_alloc _ _ _ (by simp)]
    exact World.alloc_heap_new w1 _
  have hbel : Below g w1 W0 := by
    rw [hW0, hg]
    exact (((Below.refl _ w1).alloc (Nat.le_refl _) _).alloc (by simp) _).alloc (by simp; omega) _
  have hpl := splitD_length_le s
  have HG2 := Lib.hid hg
  have HFIN := Lib.hid (fun W' (h : Below g w1 W') => hb1.trans (h.mono (by rw [HG2.out]; exact hb1.size)))
  have hgw : w.heap.size ≤ g := by rw [HG2.out]; exact hb1.size
  rw [← hW0, show w1.heap.size + 1 = g + 1 by rw [hg], show g + 1 + 1 = g + 2 from rfl, ← hg]
  clear hW0 hg hb1 hmk HG HBT
  refine wpIn_rangeFunc_ownF (encs := fun p => #[encX p]) rfl (by omega) (gf := 52) (lb := #[.pointer (some ⟨g + 2, 0, none⟩)]) rfl trivial (enters_of Try.func52 (by kernel_rfl) rfl)
    (btw_stops1 (20 - 1) (by omega) s (by omega) (g + 2) W0 (by omega) hstr) walksK_t (fun W l o o' hl h1 h2 h3 => walksK_b (w := W0) W l o o' hl h1 h2 h3) (Below.refl _ _) (fun _ => rfl)
    (fun pre W => (∃ v, Boxed W (g + 1) 29 v ∧ W.ownsRow g 5 1 v (flatP (pre.map Subtype.val)).length (bcells (flatP (pre.map Subtype.val))) ∧ True) ∧ Below g w1 W)
    (fun _ _ _ => False)
    (OwnFrom.and (Own.from (holdsRow_own g (g + 1) 29 5 1 (fun pre : List Tx => (flatP (pre.map Subtype.val)).length) (fun pre => bcells (flatP (pre.map Subtype.val))) (fun _ _ => True)) _) (ownFrom_below (by rw [← HG2.out]; exact Nat.le_refl _) (by omega)))
    (fun _ _ _ _ _ hs _ _ => hs)
    ⟨⟨_, hbox, hown, trivial⟩, hbel⟩
    (fun x => { tmps := #[.string (bstr s), undef, .slice none 0 0, .int .i64 0, .pointer (some ⟨g + 1, 0, none⟩), encX x, .string (bstr s), .bool true, .bool false, .string (bstr s), .int .i64 s.length, .int .i64 ((s.length : Int) + 2), .slice (some ⟨g, 0, none⟩) 0 (s.length + 2), .string (bstr s), .func (.func 52) #[] #[.pointer (some ⟨g + 2, 0, none⟩)], encX x, undef, undef, undef, undef, undef, undef, undef, undef, undef, undef, undef, undef], defers := [] }) ?assign ?body ?done ?stop
  case assign =>
    intro l x W K hK
    have hsem := Oper.semAt_some l
    unfold encX at hK ⊢
    gi_wp2
    exact hK
  case body =>
    rintro l pre x W ⟨⟨v, hv, hrow, _⟩, hB⟩ hlt
    have hsem := Oper.semAt_some l
    have hc := hv.cell
    have hfl := flatP_le pre
    have HLAST := Lib.hid (show flatP ((pre ++ [x]).map Subtype.val) = flatP (pre.map Subtype.val) ++ UInt8.ofNat x.1.length :: x.1 by rw [List.map_append, flatP_append]; exact congrArg _ (flatP_one x.1))
    obtain ⟨F, hF⟩ : ∃ F, F = flatP (pre.map Subtype.val) := ⟨_, rfl⟩
    rw [← hF] at hrow hfl HLAST
    obtain ⟨fl, hfe⟩ : ∃ fl, fl = F.length := ⟨_, rfl⟩
    rw [← hfe] at hrow hfl
    have HFE := Lib.hid hfe
    clear hfe hF
    have hx2 := x.2
    have hxs := bstr_size x.1
    have hbl := byte_len x.1.length
    have hgW : g ≤ W.heap.size := by have := hv.lt; omega
    unfold encX
    gi_wp2_with (first
      | (gi_at_builtin; refine wpListIn_append_own _ rfl (.tmp 16) (.tmp 20) 29 rfl g 5 i0 (.int .u8 0) 1 1 Try.underlying29 hi hz0 hz1 hz2 rfl (by decide) _ _ _ rfl (hrow.alloc _) ⟨W.heap.size, 0, none⟩ 1 1 [.int .u8 ((x.1.length : Int) % 256)] rfl rfl (cell_one_new _ _ _) (by simp [Value.oneCell']) (by simp only [maxLen]; omega) (by omega) (by simp; omega) ?_; intro v' w1 hown' hgrow _; obtain ⟨g', cap', rfl⟩ := ownsRow_succ hown'; obtain ⟨hv1, hv2, hr2, hk2, hb2⟩ := hv.appended (by decide) hrow hgW (by omega) hown' hgrow; have hc1 := hv1.cell; have hf1 := hv1.frozen; have hc2 := hv2.cell)
      | (gi_at_builtin; refine wpListIn_append_str _ rfl (.tmp 22) (.tmp 23) 29 9 rfl g 5 i0 Try.underlying29 Try.underlying9 hi hz0 hz1 hz2 _ _ _ rfl hr2 (bstr x.1) rfl (by simp only [maxLen]; omega) (by omega) (by have := hb2.size; omega) ?_; intro v2 w2 hown2 hgrow2 _; obtain ⟨g2, cap2, rfl⟩ := ownsRow_pos hown2 (by omega); obtain ⟨hv3, hv4, hr4, hk4, hb4⟩ := Boxed.appended0 hv2 (by decide) hr2 (by have := hb2.size; omega) (by omega) hown2 hgrow2; have hc3 := hv3.cell; have hf3 := hv3.frozen))
    have hlen2 : fl + 1 + (bstr x.1).size = (F ++ UInt8.ofNat x.1.length :: x.1).length := by rw [hxs, HFE.out]; simp; omega
    have hcells : bcells F ++ [.int .u8 ((x.1.length : Int) % 256)] ++ strCells (bstr x.1) = bcells (F ++ UInt8.ofNat x.1.length :: x.1) := by
      rw [strCells_b, ← hbl]
      simp [bcells]
    rw [hlen2, hcells] at hr4
    rw [hlen2] at hv4 hk4 hb4
    rw [hxs] at hlen2
    rw [hlen2]
    exact ⟨hk2.trans hk4, others_walks (hk2.trans hk4), ⟨_, hv4, by rw [HLAST.out]; exact hr4, trivial⟩, hB.trans (hb2.trans hb4)⟩
  case done =>
    rintro D ys W hD hys ⟨⟨v, hv, hrow, _⟩, hB⟩ hK
    have hc := hv.cell
    rw [hys] at hrow
    have HL := Lib.hid (wireL_length s)
    have HFL : Hid ((flatP (splitD s)).length = s.length + 1) := Lib.hid (by rw [flatP_length, sizeD_split])
    rw [HFL.out] at hrow
    have HW := Lib.hid (show bcells (wireL s) = bcells (flatP (splitD s)) ++ [.int .u8 0] by simp [wireL, bcells])
    have hgW : g ≤ W.heap.size := by have := hv.lt; omega
    gi_wp2_with (gi_at_builtin; refine wpListIn_append_own _ rfl (.tmp 25) (.tmp 26) 29 rfl g 5 i0 (.int .u8 0) 1 1 Try.underlying29 hi hz0 hz1 hz2 rfl (by decide) _ _ _ rfl (hrow.alloc _) ⟨W.heap.size, 0, none⟩ 1 1 [.int .u8 0] rfl rfl (cell_one_new _ _ _) (by simp [Value.oneCell']) (by simp only [maxLen]; omega) (by omega) (by simp; omega) ?_; intro v' w1 hown' hgrow _; obtain ⟨hk2, hb2⟩ := app_keeps hrow hgW hgrow)
    have hK5 := hk2.same D _ hK rfl
    refine ⟨by simp, .inl ⟨_, _, rfl, run_takeDeferred hK5, ?_⟩⟩
    have ho5 := ownsRow_putObj hown' (.deferred none) hK5 rfl
    rw [← HW.out, show s.length + 1 + 1 = (wireL s).length from HL.out.symm] at ho5
    exact ⟨_, results_2 (p := 2) (q := 3) rfl _ _ _ _ rfl rfl, _, rfl, ownsRow_base_a ho5 hgw, HFIN.out _ ((hB.trans hb2).trans (belowK_b (w := W0) (by omega) _ D _ _ hD hK5 rfl rfl))⟩
  case stop =>
    rintro D c pre W _ _ h _
    exact h.elim
end Go.Proofs.Ytjiiignbejbiiaa
