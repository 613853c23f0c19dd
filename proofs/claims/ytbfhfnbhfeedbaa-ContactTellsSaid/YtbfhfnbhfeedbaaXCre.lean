/- Sort of the reference. Conditions: at most 10,000 contacts. -/
import Derived.Test.YtbfhfnbhfeedbaaXCrd
namespace Go.Proofs.Ytbfhfnbhfeedbaa
open Go.Shelf Go.RowKit Go.Lib Go.Sort Go.Great
set_option maxRecDepth 100000
set_option maxHeartbeats 2000000
theorem und62 : Try.prog.underlying 62 = some (.slice 73) := by kernel_rfl
theorem under62 : Try.prog.underlying 62 = some (.slice (Try.prog.elem 62)) := by kernel_rfl
theorem size62 (W : World) : (sizeOf (Try.prog.elem 62)).run Try.prog W = .ok 22 W := by kernel_rfl
def headC (A : Option Addr) (c : Nat) : Option Addr := if c = 0 then A else A.map (·.add 0)
def cutC (A : Option Addr) (c k : Nat) : Option Addr := if c = k then A else A.map (·.add (k * 22))
theorem run_headC (A : Option Addr) (n c k : Nat) (hk : k ≤ c) (W : World) :
    (Instr.slice 62 (.slice A n c) none (some (.int .i64 (k : Int))) none).run Try.prog W = .ok (.slice (headC A c) k c) W := by
  rw [run_slice_h W 62 A n c under62 .i64 k (by omega) (by omega), size62]
  simp [Result.andThen, sliced, headC]
theorem run_cutC (A : Option Addr) (n c k : Nat) (hk : k ≤ n) (W : World) :
    (Instr.slice 62 (.slice A n c) (some (.int .i64 (k : Int))) none none).run Try.prog W = .ok (.slice (cutC A c k) (n - k) (c - k)) W := by
  rw [run_slice_l W 62 A n c under62 .i64 k (by omega) (by omega), size62]
  simp [Result.andThen, sliced, cutC]
theorem exec_headC {ρ : Operand → Value} {o : Oper} (x y : Operand) (ho : o.op = .slice 62 x none (some y) none) (A : Option Addr) (n c k : Nat) (hx : ρ x = .slice A n c) (hy : ρ y = .int .i64 (k : Int)) (hk : k ≤ c) (W : World) :
    (execOp ρ o).run Try.prog W = .ok (.value (.slice (headC A c) k c)) W := by
  have := run_headC A n c k hk W
  unfold execOp
  simp only [ho, hx, hy, Sem.run_bind, Option.map_some, Option.map_none, run_sliceAt_slice W 62 _ _ _ _ under62, this, Result.andThen_ok, Sem.run_pure]
theorem exec_cutC {ρ : Operand → Value} {o : Oper} (x y : Operand) (ho : o.op = .slice 62 x (some y) none none) (A : Option Addr) (n c k : Nat) (hx : ρ x = .slice A n c) (hy : ρ y = .int .i64 (k : Int)) (hk : k ≤ n) (W : World) :
    (execOp ρ o).run Try.prog W = .ok (.value (.slice (cutC A c k) (n - k) (c - k))) W := by
  have := run_cutC A n c k hk W
  unfold execOp
  simp only [ho, hx, hy, Sem.run_bind, Option.map_some, Option.map_none, run_sliceAt_slice W 62 _ _ _ _ under62, this, Result.andThen_ok, Sem.run_pure]
section
variable {w w' : World} {B c k : Nat} {A : Option Addr} {L : List Con}
theorem flatE_split (L : List Con) (k : Nat) : flatE encC L = flatE encC (L.take k) ++ flatE encC (L.drop k) := by
  have e : flatE encC (L.take k ++ L.drop k) = flatE encC (L.take k) ++ flatE encC (L.drop k) := by unfold flatE; rw [List.flatMap_append]
  rw [← e, List.take_append_drop]
theorem CAt.headC (h : CAt w B A L) (c k : Nat) : CAt w B (headC A c) (L.take k) := by
  rcases h with rfl | ⟨g, off, rfl, hg, hr⟩
  · exact .inl (by simp)
  · refine .inr ⟨g, off, ?_, hg, ?_⟩
    · unfold Ytbfhfnbhfeedbaa.headC
      split
      · rfl
      · simp [addr_add]
    · rw [flatE_split L k] at hr
      exact range_front hr
theorem CAt.cutC (h : CAt w B A L) (hc : L.length ≤ c) : CAt w B (cutC A c k) (L.drop k) := by
  by_cases hk : c ≤ k
  · exact .inl (List.drop_eq_nil_of_le (by omega))
  · rcases h with rfl | ⟨g, off, rfl, hg, hr⟩
    · exact .inl (by simp)
    · by_cases hkl : L.length ≤ k
      · exact .inl (List.drop_eq_nil_of_le hkl)
      · refine .inr ⟨g, off + k * 22, ?_, hg, ?_⟩
        · unfold Ytbfhfnbhfeedbaa.cutC
          rw [if_neg (by omega)]
          simp [addr_add]
        · rw [flatE_split L k] at hr
          have := range_back hr
          rwa [flatE_length encC_length, List.length_take, show min k L.length = k by omega] at this
theorem src_cat (h : CAt w B A L) (c : Nat) : Src Try.prog 22 62 (.slice A L.length c) L.length (flatE encC L) w := by
  rcases h with rfl | ⟨g, off, rfl, _, hr⟩
  · cases A with
    | none => exact Src.ofNil w und62 c
    | some a => exact Src.ofSlice w und62 a 0 c (flatE encC []) (by simp [flatE]) (fun j u hu => by simp [flatE] at hu) (flatE_one [])
  · refine Src.ofSlice w und62 _ L.length c _ (flatE_length encC_length L) (fun j u hu => ?_) (flatE_one _)
    rw [Addr.add_mid]
    exact hr j u hu
theorem src_oneH {b : Nat} {x : Con} (h : w.heap[b]? = some (.cells (encC x).toArray 73 (0, 0))) : Src Try.prog 22 62 (.slice (some ⟨b, 0, none⟩) 1 1) [x].length (flatE encC [x]) w := by
  have e1 : flatE encC [x] = encC x := by unfold flatE; simp
  refine Src.ofSlice w und62 _ 1 1 _ (by rw [flatE_length encC_length]; rfl) (fun j u hu => ?_) (flatE_one _)
  rw [Addr.add_mid]
  rw [e1] at hu
  exact row_range h j u hu
end
theorem step_noneC {ops : Array Oper} {o : Oper} {a : Act} {w : World} {K : Act → World → Prop} {Q : Exit → Act → World → Prop} {E : Prop} (hgd : o.guard = none) (d : Nat) (hd : o.dst = some d) (ho : o.op = .buildSlice 62 0 #[])
    (h : K (a.put (some d) (.slice (some ⟨w.heap.size, 0, none⟩) 0 0)) (w.alloc (.cells #[] 73))) : if Region.wanted o (yielded ops a.tmps) = true then Oper.wp Try.prog o a w K Q else E := by
  have hw : Region.wanted o (yielded ops a.tmps) = true := by simp [Region.wanted, hgd]
  rw [if_pos hw]
  unfold Oper.wp execOp
  simp only [ho, List.map_toArray, List.map_nil, Sem.run_bind, run_build_noneC conR, Result.andThen_ok, Sem.run_pure]
  show K (a.put o.dst _) _
  rw [hd]
  exact h
theorem step_oneC (x : Con) {ops : Array Oper} {o : Oper} {a : Act} {w : World} {K : Act → World → Prop} {Q : Exit → Act → World → Prop} {E : Prop} (hgd : o.guard = none) (d : Nat) (hd : o.dst = some d) (y : Operand) (ho : o.op = .buildSlice 62 1 #[(0, y)]) (hy : a.eval y = .agg (encC x).toArray)
    (h : K (a.put (some d) (.slice (some ⟨w.heap.size, 0, none⟩) 1 1)) (w.alloc (.cells (encC x).toArray 73))) : if Region.wanted o (yielded ops a.tmps) = true then Oper.wp Try.prog o a w K Q else E := by
  have hw : Region.wanted o (yielded ops a.tmps) = true := by simp [Region.wanted, hgd]
  rw [if_pos hw]
  refine wp_build_oneC conR x y ho hy ?_
  rw [hd]
  exact h
theorem step_appC {ops : Array Oper} {o : Oper} {a : Act} {w : World} {K : Act → World → Prop} {Q : Exit → Act → World → Prop} {E : Prop} (hgd : o.guard = none) (d : Nat) (hd : o.dst = some d) (s x : Operand)
    (ho : o.op = .call { callee := .builtin .append, args := #[s, x], argTypes := #[62, 62] })
    (base : Nat) (v : Value) (L M : List Con) (hs : a.eval s = v) (hown : w.ownsRow base 73 22 v L.length (flatE encC L)) (y : Value) (hx : a.eval x = y) (hr : Src Try.prog 22 62 y M.length (flatE encC M) w) (h63 : L.length + M.length ≤ 1000000) (hbase : base ≤ w.heap.size)
    (h : ∀ v' w', w'.ownsRow base 73 22 v' (L ++ M).length (flatE encC (L ++ M)) → w.grownBy w' v.ownBlock → K (a.put (some d) v') w') :
    if Region.wanted o (yielded ops a.tmps) = true then Oper.wp Try.prog o a w K Q else E := by
  have hw : Region.wanted o (yielded ops a.tmps) = true := by simp [Region.wanted, hgd]
  rw [if_pos hw]
  obtain ⟨i0, hi, hz0, hz1, hz2⟩ := conR.info
  obtain ⟨v', w', hrun, h2, h3, _⟩ := run_append_srcK w base 62 62 o.type 73 i0 _ 22 28 conR.und hi hz0 hz1 hz2 (by simp [Value.cells, encC_length]) v L.length (flatE encC L) hown y M.length (flatE encC M) hr (by simp only [maxLen]; omega) (by omega) hbase
  unfold Oper.wp execOp
  simp only [ho, resolve, invoke, builtin, Sem.run_bind, Sem.run_pure, Result.andThen_ok, List.map_toArray, List.map_cons, List.map_nil, hs, hx, hrun]
  show K (a.put o.dst _) _
  rw [hd]
  have e1 : flatE encC L ++ flatE encC M = flatE encC (L ++ M) := by unfold flatE; rw [List.flatMap_append]
  rw [e1, ← List.length_append] at h2
  exact h v' w' h2 h3
theorem srtG_snoc {α : Type} (key : α → Nat) (x : α) : ∀ (l acc : List α), srtG key acc (l ++ [x]) = if (srtG key acc l).any (fun d => key d == key x) then srtG key acc l else insG key x (srtG key acc l)
  | [], acc => by rw [List.nil_append, srtG, srtG, srtG]
  | y :: l, acc => by rw [List.cons_append, srtG, srtG]; exact srtG_snoc key x l _
theorem any_find (t : IDv) (S : List Con) (x : Con) : (S.any (fun d => kC t d == kC t x)) = decide (0 ≤ idxP (isC (idC x)) S) := by
  have he : ∀ d : Con, (kC t d == kC t x) = isC (idC x) d := fun d => by
    unfold isC
    rw [eqC_key t d x, Bool.eq_iff_iff]
    simp
  simp only [he]
  rcases idxP_cases (isC (idC x)) S with ⟨h1, h2⟩ | ⟨k, hk, h1, h2, _⟩
  · rw [h1]
    have : S.any (isC (idC x)) = false := by rw [List.any_eq_false]; intro y hy; rw [h2 y hy]; simp
    rw [this]
    rfl
  · rw [h1]
    have : S.any (isC (idC x)) = true := List.any_eq_true.2 ⟨_, List.getElem_mem hk, h2⟩
    rw [this]
    simp
theorem own_formF {e : TypeId} {w : World} {base n : Nat} {v : Value} {L : List Con} (h : w.ownsRow base e 22 v n (flatE encC L)) : ∃ A c, v = .slice A n c ∧ n = L.length ∧ n ≤ c ∧ CAt w w.heap.size A L := by
  have hl := h.1
  rw [flatE_length encC_length] at hl
  have hn : n = L.length := by omega
  rcases h.2 with ⟨rfl, h0⟩ | ⟨g, cap, cur, rfl, hb, hg, hc, hm, hs, ht⟩
  · exact ⟨none, 0, by rw [h0], hn, by omega, .inl (List.eq_nil_of_length_eq_zero (by omega))⟩
  · refine ⟨some ⟨g, 0, none⟩, cap, rfl, hn, hc, .inr ⟨g, 0, rfl, (Array.getElem?_eq_some_iff.1 hg).1, fun j u hu => ?_⟩⟩
    rw [Nat.zero_add, cell_of_row w g j _ e (0, 0) hg]
    rw [← ht, List.getElem?_take] at hu
    split at hu
    · simpa using hu
    · cases hu
def SrRel (W0 : World) (t : IDv) (L : List Con) (s5 s6 : Value) (wr : World) : Prop := ∃ j : Nat, j ≤ L.length ∧ s6 = .int .i64 (j : Int) ∧ wr.ownsRow W0.heap.size 73 22 s5 (srtG (kC t) [] (L.take j)).length (flatE encC (srtG (kC t) [] (L.take j))) ∧ Below W0.heap.size W0 wr
def SiRel (W2 : World) (p : Nat) (s7 : Value) (wr : World) : Prop := ∃ q : Nat, q ≤ p ∧ s7 = .int .i64 (q : Int) ∧ Below W2.heap.size W2 wr
theorem srtG_le0 (t : IDv) (L : List Con) : (srtG (kC t) [] L).length ≤ L.length := by have := srtG_le (key := kC t) L []; simpa using this
theorem rcsort_any (t : IDv) (A : Option Addr) (c : Nat) (L : List Con) (w : World) (hL : L.length ≤ 10000) (hA : CAt w w.heap.size A L) :
    Calls Try.prog 39 #[.agg (encID t).toArray, .slice A L.length c] w fun e w' => ∃ v, e = .returned v ∧ w'.ownsRow w.heap.size 73 22 v (srtG (kC t) [] L).length (flatE encC (srtG (kC t) [] L)) ∧ Below w.heap.size w w' := by
  obtain ⟨X, hX⟩ : ∃ X, X = (encID t).toArray := ⟨_, rfl⟩
  have hb0 : Below w.heap.size w (w.alloc (.cells X 64)) := (Below.refl _ w).alloc (Nat.le_refl _) _
  obtain ⟨W0, hW0⟩ : ∃ W0, W0 = w.alloc (.cells X 64) := ⟨_, rfl⟩
  have h0 := heap_alloc_new w (.cells X 64)
  rw [← hW0] at hb0 h0
  have HA := Lib.hid ((hA.below hb0).more hb0.size)
  have HB0 := Lib.hid hb0
  have HW := Lib.hid hW0
  have hg0 := (Array.getElem?_eq_some_iff.1 h0).1
  have HLT : Hid (∀ W, Below W0.heap.size W0 W → (loadVar 64 ⟨w.heap.size, 0, none⟩).run Try.prog W = .ok (.agg X) W) := Lib.hid (fun W h => by
    rw [hX] at h0 ⊢
    exact range_load42 (row_range ((h.block _ hg0).trans h0)))
  have R0 : Hid (SrRel W0 t L (.slice none 0 0) (.int .i64 0) W0) := Lib.hid ⟨0, by omega, rfl, World.ownsRow_nil W0 _ 73 22, Below.refl _ _⟩
  have HEND : Hid (∀ (s : Value) (wr : World), wr.ownsRow W0.heap.size 73 22 s (srtG (kC t) [] (L.take L.length)).length (flatE encC (srtG (kC t) [] (L.take L.length))) → Below W0.heap.size W0 wr → wr.ownsRow w.heap.size 73 22 s (srtG (kC t) [] L).length (flatE encC (srtG (kC t) [] L)) ∧ Below w.heap.size w wr) := Lib.hid (fun s wr h hb => by
    rw [List.take_length] at h
    exact ⟨own_baseC h HB0.out.size, HB0.out.trans (hb.mono HB0.out.size)⟩)
  have HX := Lib.hid hX
  rw [← hX]
  obtain ⟨n, hn⟩ : ∃ n, n = L.length := ⟨_, rfl⟩
  rw [← hn] at hL HEND ⊢
  have HN := Lib.hid hn
  clear hA hX hb0 h0 hg0 hW0 hn
  go_enter Try.func39, Try.ntmps39
  go_upto_region 3 with fail
  rw [← HW.out]
  go_loopw [5, 6] (SrRel W0 t L) (fun _ i _ => n - (RowKit.intOf i).toNat)
  case atStart => exact R0.out
  case round =>
    obtain ⟨j, hj, rfl, ho, hb⟩ := hrel
    clear R0
    by_cases hlt : j < n
    · have hjL : j < L.length := by have := HN.out; omega
      obtain ⟨g, off, rfl, hg, hr⟩ := (HA.out.below hb).some_ (by omega)
      obtain ⟨x, hx⟩ : ∃ x, L[j]'hjL = x := ⟨_, rfl⟩
      have hre := range_elem hr j hjL
      rw [hx] at hre
      have hgr : g < wr.heap.size := Nat.lt_of_lt_of_le hg hb.size
      obtain ⟨Y, hY⟩ : ∃ Y, Y = (encID (idC x)).toArray := ⟨_, rfl⟩
      have HLI : Hid (∀ W, Below wr.heap.size wr W → (loadVar 64 ⟨g, off + j * 22, none⟩).run Try.prog W = .ok (.agg Y) W) := Lib.hid (fun W hW => by rw [hY]; exact range_load42 (range_keep (range_idC hre) (hW.block g hgr)))
      have HLI0 := Lib.hid (HLI.out wr (Below.refl _ _))
      have HLZ : Hid (∀ W, Below wr.heap.size wr W → (loadVar 73 ⟨g, off + j * 22, none⟩).run Try.prog W = .ok (.agg (encC x).toArray) W) := Lib.hid (fun W hW => load73 (range_keep hre (hW.block g hgr)))
      obtain ⟨S, hS⟩ : ∃ S, S = srtG (kC t) [] (L.take j) := ⟨_, rfl⟩
      have hSn : srtG (kC t) [] (L.take (j + 1)) = if 0 ≤ idxP (isC (idC x)) S then S else insG (kC t) x S := by
        rw [List.take_succ_eq_append_getElem hjL, hx, srtG_snoc, ← hS, any_find]
        by_cases h : 0 ≤ idxP (isC (idC x)) S
        · rw [if_pos h]; simp [h]
        · rw [if_neg h]; simp [h]
      rw [← hS] at ho
      have hSl : S.length ≤ 10000 := by rw [hS]; have := srtG_le0 t (L.take j); rw [List.length_take] at this; omega
      obtain ⟨A5, c5, hv5, _, hcap, hcat⟩ := own_formF ho
      subst hv5
      have H41 : Hid (Calls Try.prog 41 #[.slice A5 S.length c5, .agg Y] wr fun e w' => e = .returned (.int .i64 (idxP (isC (idC x)) S)) ∧ Below wr.heap.size wr w') := Lib.hid (by rw [hY]; exact rfind_any A5 c5 S (idC x) wr hSl hcat)
      have HO := Lib.hid ho
      have HB := Lib.hid hb
      have HCAT := Lib.hid hcat
      have HSN := Lib.hid hSn
      have hix := idxP_cases (isC (idC x)) S
      obtain ⟨ix, hixd⟩ : ∃ i, i = idxP (isC (idC x)) S := ⟨_, rfl⟩
      rw [← hixd] at H41 HSN hix
      by_cases h0 : 0 ≤ ix
      · have HNX : Hid (∀ wk, Below wr.heap.size wr wk → SrRel W0 t L (.slice A5 S.length c5) (.int .i64 ((j : Int) + 1)) wk) := Lib.hid (fun wk hk => ⟨j + 1, by omega, by go_num, by rw [HSN.out, if_pos h0]; exact own_belC HO.out hk, HB.out.trans (hk.mono HB.out.size)⟩)
        clear hr hre hg hgr hx hY hS hSn ho hb hcat hix hixd hjL HCAT HSN HB HO HLZ HLI
        generalize S.length = ns at *
        go_wp2_with (first
          | ((with_reducible refine wpList_loadV (op := ⟨some 19, _, _, _, _, _⟩) rfl 64 (.tmp 18) rfl _ ?_ _ HLI0.out ?_); rfl)
          | (go_at_call 41; (with_reducible refine H41.out.mono ?_); rintro e w2 ⟨rfl, hb2⟩))
        go_roundw
        case rel => exact HNX.out _ hb2
        case measure => simp [RowKit.intOf]; omega
      · obtain rfl : ix = -1 := by
          rcases hix with h | ⟨k, _, h, _⟩
          · exact h.1
          · omega
        have hins : srtG (kC t) [] (L.take (j + 1)) = [] ++ S.take (placeG (kC t) x S) ++ [x] ++ S.drop (placeG (kC t) x S) := by
          rw [HSN.out, if_neg h0, insG_place, List.nil_append, List.append_assoc]
          rfl
        obtain ⟨p, hp⟩ : ∃ p, p = placeG (kC t) x S := ⟨_, rfl⟩
        have hpl : p ≤ S.length := by rw [hp]; exact placeG_le _ _ _
        have HPLT : Hid (∀ q (hq : q < S.length), q < p → cfM t (idC (S[q]'hq)) (idC x) < 0) := Lib.hid (fun q hq h => (cfM_key t _ _).2 (placeG_lt (kC t) x S q _ (by rw [← hp]; exact h) (List.getElem?_eq_getElem hq)))
        have HPAT : Hid (∀ (hq : p < S.length), ¬ cfM t (idC (S[p]'hq)) (idC x) < 0) := Lib.hid (fun hq h => placeG_at (kC t) x S _ (by rw [← hp]; exact List.getElem?_eq_getElem hq) ((cfM_key t _ _).1 h))
        rw [← hp] at hins
        have HINS := Lib.hid hins
        have HPL := Lib.hid hpl
        have HCAP := Lib.hid hcap
        have HRQ : Hid (∀ (q : Nat) (hq : q < S.length), ∃ g5 o5, A5 = some ⟨g5, o5, none⟩ ∧ ∀ W, Below wr.heap.size wr W → (loadVar 64 ⟨g5, o5 + q * 22, none⟩).run Try.prog W = .ok (.agg (encID (idC (S[q]'hq))).toArray) W) := Lib.hid (fun q hq => by
          obtain ⟨g5, o5, e5, hg5, hr5⟩ := HCAT.out.some_ (by omega)
          exact ⟨g5, o5, e5, fun W hW => range_load42 (range_keep (range_idC (range_elem hr5 q hq)) (hW.block g5 hg5))⟩)
        have HCM : Hid (∀ W y, Calls Try.prog 73 #[.agg X, .agg (encID (idC y)).toArray, .agg Y] W fun e w' => e = .returned (.int .i64 (cfM t (idC y) (idC x))) ∧ Below W.heap.size W w') := Lib.hid (fun W y => by rw [HX.out, hY]; exact rmcmp_any t (idC y) (idC x) W)
        have HLT2 : Hid (∀ W, Below wr.heap.size wr W → (loadVar 64 ⟨w.heap.size, 0, none⟩).run Try.prog W = .ok (.agg X) W) := Lib.hid (fun W hW => HLT.out W (HB.out.trans (hW.mono HB.out.size)))
        have HSH : Hid (∀ W, Below wr.heap.size wr W → Src Try.prog 22 62 (.slice (headC A5 c5) p c5) (S.take p).length (flatE encC (S.take p)) W) := Lib.hid (fun W hW => by
          have h1 := ((HCAT.out.below hW).headC c5 p)
          have h2 := src_cat h1 c5
          rwa [show (Value.slice (headC A5 c5) (S.take p).length c5) = .slice (headC A5 c5) p c5 by rw [List.length_take, Nat.min_eq_left HPL.out]] at h2)
        have HST : Hid (∀ W, Below wr.heap.size wr W → Src Try.prog 22 62 (.slice (cutC A5 c5 p) (S.length - p) (c5 - p)) (S.drop p).length (flatE encC (S.drop p)) W) := Lib.hid (fun W hW => by
          have h1 := ((HCAT.out.below hW).cutC (k := p) HCAP.out)
          have h2 := src_cat h1 (c5 - p)
          rwa [show (Value.slice (cutC A5 c5 p) (S.drop p).length (c5 - p)) = .slice (cutC A5 c5 p) (S.length - p) (c5 - p) by rw [List.length_drop]] at h2)
        have HLE : Hid (([] : List Con).length + (S.take p).length ≤ 1000000 ∧ ([] ++ S.take p).length + [x].length ≤ 1000000 ∧ ([] ++ S.take p ++ [x]).length + (S.drop p).length ≤ 1000000) := Lib.hid (by simp only [List.length_append, List.length_nil, List.length_singleton, List.length_take, List.length_drop]; omega)
        have HFIN : Hid (∀ (wk : World) (v : Value) (u : World), Below wr.heap.size wr wk → Below wk.heap.size wk u → u.ownsRow wk.heap.size 73 22 v ([] ++ S.take p ++ [x] ++ S.drop p).length (flatE encC ([] ++ S.take p ++ [x] ++ S.drop p)) → SrRel W0 t L v (.int .i64 ((j : Int) + 1)) u) := Lib.hid (fun wk v u h1 h2 h3 => by
          have hwk := HB.out.trans (h1.mono HB.out.size)
          exact ⟨j + 1, by omega, by go_num, by rw [HINS.out]; exact own_baseC h3 hwk.size, hwk.trans (h2.mono hwk.size)⟩)
        clear hr hre hg hgr hx hY hS hSn ho hb hcat hix hixd HSN hp hins h0 HINS HB HO HCAT HX
        obtain ⟨ns, hns⟩ : ∃ n, n = S.length := ⟨_, rfl⟩
        have HNS : Hid (ns = S.length) := Lib.hid hns
        rw [← hns] at H41 HST hpl hcap hSl ⊢
        clear hns
        go_upto_region 6 with (first
          | ((with_reducible refine wpList_loadV (op := ⟨some 19, _, _, _, _, _⟩) rfl 64 (.tmp 18) rfl _ ?_ _ HLI0.out ?_); rfl)
          | (go_at_call 41; (with_reducible refine H41.out.mono ?_); rintro e w2 ⟨rfl, hb2⟩))
        have HB2 := Lib.hid hb2
        have R1 : Hid (SiRel w2 p (.int .i64 0) w2) := Lib.hid ⟨0, by omega, rfl, Below.refl _ _⟩
        clear hb2 H41 HLI0
        go_upto_region 7 with fail
        go_loopw [7] (SiRel w2 p) (fun i _ => p - (RowKit.intOf i).toNat)
        case atStart => exact R1.out
        case round =>
          clear R1
          obtain ⟨q, hq, rfl, hbi⟩ := hrel
          have hbo := HB2.out.trans (hbi.mono HB2.out.size)
          have HBI := Lib.hid hbi
          have HBO := Lib.hid hbo
          by_cases hqp : q < p
          · have hqS : q < S.length := by have := HNS.out; omega
            have hcf := HPLT.out q hqS hqp
            obtain ⟨g5, o5, rfl, hld5⟩ := HRQ.out q hqS
            have HLa : Hid (∀ n : Kept wr.heap.size wr, (loadVar 64 ⟨w.heap.size, 0, none⟩).run Try.prog n.val = .ok (.agg X) n.val) := Lib.hid (fun n => HLT2.out _ (hbo.trans (n.property.mono hbo.size)))
            have HLb : Hid (∀ n : Kept wr.heap.size wr, (loadVar 64 ⟨g5, o5 + q * 22, none⟩).run Try.prog n.val = .ok (.agg (encID (idC (S[q]'hqS))).toArray) n.val) := Lib.hid (fun n => hld5 _ (hbo.trans (n.property.mono hbo.size)))
            have HLc : Hid (∀ n : Kept wr.heap.size wr, (loadVar 64 ⟨g, off + j * 22, none⟩).run Try.prog n.val = .ok (.agg Y) n.val) := Lib.hid (fun n => HLI.out _ (hbo.trans (n.property.mono hbo.size)))
            have HCq := Lib.hid (fun W => HCM.out W (S[q]'hqS))
            generalize cfM t (idC (S[q]'hqS)) (idC x) = cf at hcf HCq
            generalize (encID (idC (S[q]'hqS))).toArray = Z at HLb HCq
            have hqn : (q : Int) < (ns : Int) := by have := HNS.out; omega
            have hqd : decide ((q : Int) < (ns : Int)) = true := decide_eq_true hqn
            have HSI : Hid (∀ wk, Below wr.heap.size wr wk → SiRel w2 p (.int .i64 ((q : Int) + 1)) wk) := Lib.hid (fun wk hk => ⟨q + 1, by omega, by go_num, HBI.out.trans (hk.mono HBI.out.size)⟩)
            clear hld5 hbi hbo HBI HBO
            go_upto_region 7 with fail
            refine wp_region_kept wr.heap.size wr (Below.refl _ _) (by kernel_rfl) (by kernel_rfl) ?_
            repeat (first
              | (go_big_quiet_want; (with_reducible refine quiet_loadV 64 (.tmp 2) rfl _ ?_ _ HLa.out ?_); rfl; simp only [Act.put, List.setIfInBounds_toArray, List.set_cons_zero, List.set_cons_succ]; go_big_quiet_on)
              | (go_big_quiet_want; (with_reducible refine quiet_loadV 64 (.tmp 31) rfl _ ?_ _ HLb.out ?_); rfl; simp only [Act.put, List.setIfInBounds_toArray, List.set_cons_zero, List.set_cons_succ]; go_big_quiet_on)
              | (go_big_quiet_want; (with_reducible refine quiet_loadV 64 (.tmp 36) rfl _ ?_ _ HLc.out ?_); rfl; simp only [Act.put, List.setIfInBounds_toArray, List.set_cons_zero, List.set_cons_succ]; go_big_quiet_on)
              | go_big_quiet_step (first | (go_at_call 73; with_reducible exact kept_of (Nat.le_refl _) HCq.out _)))
            refine wpQuiet_nil ?_
            rintro wk ⟨⟨_, hwk⟩, rfl⟩
            have HREL := Lib.hid (HSI.out wk hwk)
            clear hwk HLa HLb HLc HCq HSI
            go_wp2
            go_roundw
            case rel => exact HREL.out
            case measure => simp [RowKit.intOf]; omega
          · obtain rfl : q = p := by omega
            by_cases hqS : q < S.length
            · have hcf := HPAT.out hqS
              obtain ⟨g5, o5, rfl, hld5⟩ := HRQ.out q hqS
              have HLa : Hid (∀ n : Kept wr.heap.size wr, (loadVar 64 ⟨w.heap.size, 0, none⟩).run Try.prog n.val = .ok (.agg X) n.val) := Lib.hid (fun n => HLT2.out _ (hbo.trans (n.property.mono hbo.size)))
              have HLb : Hid (∀ n : Kept wr.heap.size wr, (loadVar 64 ⟨g5, o5 + q * 22, none⟩).run Try.prog n.val = .ok (.agg (encID (idC (S[q]'hqS))).toArray) n.val) := Lib.hid (fun n => hld5 _ (hbo.trans (n.property.mono hbo.size)))
              have HLc : Hid (∀ n : Kept wr.heap.size wr, (loadVar 64 ⟨g, off + j * 22, none⟩).run Try.prog n.val = .ok (.agg Y) n.val) := Lib.hid (fun n => HLI.out _ (hbo.trans (n.property.mono hbo.size)))
              have HCq := Lib.hid (fun W => HCM.out W (S[q]'hqS))
              generalize cfM t (idC (S[q]'hqS)) (idC x) = cf at hcf HCq
              generalize (encID (idC (S[q]'hqS))).toArray = Z at HLb HCq
              have hqn : (q : Int) < (ns : Int) := by have := HNS.out; omega
              have hqd : decide ((q : Int) < (ns : Int)) = true := decide_eq_true hqn
              clear hld5 hbi hbo HBI
              go_upto_region 7 with fail
              refine wp_region_kept wr.heap.size wr (Below.refl _ _) (by kernel_rfl) (by kernel_rfl) ?_
              repeat (first
                | (go_big_quiet_want; (with_reducible refine quiet_loadV 64 (.tmp 2) rfl _ ?_ _ HLa.out ?_); rfl; simp only [Act.put, List.setIfInBounds_toArray, List.set_cons_zero, List.set_cons_succ]; go_big_quiet_on)
                | (go_big_quiet_want; (with_reducible refine quiet_loadV 64 (.tmp 31) rfl _ ?_ _ HLb.out ?_); rfl; simp only [Act.put, List.setIfInBounds_toArray, List.set_cons_zero, List.set_cons_succ]; go_big_quiet_on)
                | (go_big_quiet_want; (with_reducible refine quiet_loadV 64 (.tmp 36) rfl _ ?_ _ HLc.out ?_); rfl; simp only [Act.put, List.setIfInBounds_toArray, List.set_cons_zero, List.set_cons_succ]; go_big_quiet_on)
                | go_big_quiet_step (first | (go_at_call 73; with_reducible exact kept_of (Nat.le_refl _) HCq.out _)))
              refine wpQuiet_nil ?_
              rintro wk ⟨⟨_, hwk⟩, rfl⟩
              have HK9 := Lib.hid (HBO.out.trans (hwk.mono HBO.out.size))
              clear hwk HLa HLb HLc HCq HBO
              go_upto_region 9 with fail
              have hS0 : Below wk.heap.size wk wk.drew := (Below.refl _ wk).drew
              have HLZ9 : Hid (∀ W, Below wk.heap.size wk W → (loadVar 73 ⟨g, off + j * 22, none⟩).run Try.prog W = .ok (.agg (encC x).toArray) W) := Lib.hid (fun W hW => HLZ.out W (HK9.out.trans (hW.mono HK9.out.size)))
              have HSH9 : Hid (∀ W, Below wk.heap.size wk W → Src Try.prog 22 62 (.slice (headC (some ⟨g5, o5, none⟩) c5) q c5) (S.take q).length (flatE encC (S.take q)) W) := Lib.hid (fun W hW => HSH.out W (HK9.out.trans (hW.mono HK9.out.size)))
              have HST9 : Hid (∀ W, Below wk.heap.size wk W → Src Try.prog 22 62 (.slice (cutC (some ⟨g5, o5, none⟩) c5 q) (ns - q) (c5 - q)) (S.drop q).length (flatE encC (S.drop q)) W) := Lib.hid (fun W hW => HST.out W (HK9.out.trans (hW.mono HK9.out.size)))
              have HFIN9 := Lib.hid (fun v u => HFIN.out wk v u HK9.out)
              have hpc : q ≤ c5 := by omega
              clear HLZ HSH HST HFIN HLI HLT HLT2 HCM HRQ HPAT HPLT HA HEND HB0 HB2 HN HK9
              refine wp_region_noPanic ?_
              refine wp_region_held_drew (S := fun w' => Below wk.heap.size wk w') (by kernel_rfl) hS0 (fun hHeld => ?_)
              refine takeH_at 1 44 (v := ?_) rfl rfl (by kernel_rfl) (by kernel_rfl) (by kernel_rfl) (fun _ _ _ h => h) (Or.inl ⟨by rfl, ?_⟩) (by assumption) ?_
              rotate_left
              · (intro wx hSw; clear hSw; go_simp) <;> with_reducible rfl
              simp only [Act.put, List.setIfInBounds_toArray, List.set_cons_zero, List.set_cons_succ]
              refine takeH_at 2 45 (v := ?_) rfl rfl (by kernel_rfl) (by kernel_rfl) (by kernel_rfl) (fun _ _ _ h => h) (Or.inl ⟨by rfl, ?_⟩) (by assumption) ?_
              rotate_left
              · (intro wx hSw; clear hSw; go_simp) <;> with_reducible rfl
              simp only [Act.put, List.setIfInBounds_toArray, List.set_cons_zero, List.set_cons_succ]
              refine takeH_at 3 46 (v := .slice (headC (some ⟨g5, o5, none⟩) c5) q c5) rfl rfl (by kernel_rfl) (by kernel_rfl) (by kernel_rfl) (fun _ _ _ h => h) (Or.inl ⟨by rfl, fun w _ => exec_headC (.tmp 44) (.tmp 45) rfl (some ⟨g5, o5, none⟩) ns c5 q rfl rfl hpc w⟩) (by assumption) ?_
              simp only [Act.put, List.setIfInBounds_toArray, List.set_cons_zero, List.set_cons_succ]
              refine takeH_at 5 48 (v := ?_) rfl rfl (by kernel_rfl) (by kernel_rfl) (by kernel_rfl) (fun _ _ _ h => h) (Or.inl ⟨by rfl, ?_⟩) (by assumption) ?_
              rotate_left
              · (intro wx hSw; clear hSw; go_simp) <;> with_reducible rfl
              simp only [Act.put, List.setIfInBounds_toArray, List.set_cons_zero, List.set_cons_succ]
              refine takeH_at 6 49 (v := ?_) rfl rfl (by kernel_rfl) (by kernel_rfl) (by kernel_rfl) (fun _ _ _ h => h) (Or.inl ⟨by rfl, ?_⟩) (by assumption) ?_
              rotate_left
              · (intro wx hSw; clear hSw; go_simp) <;> with_reducible rfl
              simp only [Act.put, List.setIfInBounds_toArray, List.set_cons_zero, List.set_cons_succ]
              refine takeH_at 7 50 (v := ?_) rfl rfl (by kernel_rfl) (by kernel_rfl) (by kernel_rfl) (fun _ _ _ h => h) (Or.inl ⟨by rfl, ?_⟩) (by assumption) ?_
              rotate_left
              · (intro wx hSw; clear hSw; go_simp) <;> with_reducible rfl
              simp only [Act.put, List.setIfInBounds_toArray, List.set_cons_zero, List.set_cons_succ]
              refine takeH_at 8 51 (v := .agg (encC x).toArray) rfl rfl (by kernel_rfl) (by kernel_rfl) (by kernel_rfl) (fun _ _ _ h => h) (yieldsIf_loadP (by rfl) 73 (.tmp 50) rfl ⟨g, off + j * 22, none⟩ rfl _ (fun w hw => HLZ9.out w hw)) (by assumption) ?_
              simp only [Act.put, List.setIfInBounds_toArray, List.set_cons_zero, List.set_cons_succ]
              refine takeH_at 11 54 (v := ?_) rfl rfl (by kernel_rfl) (by kernel_rfl) (by kernel_rfl) (fun _ _ _ h => h) (Or.inl ⟨by rfl, ?_⟩) (by assumption) ?_
              rotate_left
              · (intro wx hSw; clear hSw; go_simp) <;> with_reducible rfl
              simp only [Act.put, List.setIfInBounds_toArray, List.set_cons_zero, List.set_cons_succ]
              refine takeH_at 12 55 (v := ?_) rfl rfl (by kernel_rfl) (by kernel_rfl) (by kernel_rfl) (fun _ _ _ h => h) (Or.inl ⟨by rfl, ?_⟩) (by assumption) ?_
              rotate_left
              · (intro wx hSw; clear hSw; go_simp) <;> with_reducible rfl
              simp only [Act.put, List.setIfInBounds_toArray, List.set_cons_zero, List.set_cons_succ]
              refine takeH_at 13 56 (v := .slice (cutC (some ⟨g5, o5, none⟩) c5 q) (ns - q) (c5 - q)) rfl rfl (by kernel_rfl) (by kernel_rfl) (by kernel_rfl) (fun _ _ _ h => h) (Or.inl ⟨by rfl, fun w _ => exec_cutC (.tmp 54) (.tmp 55) rfl (some ⟨g5, o5, none⟩) ns c5 q rfl rfl hpl w⟩) (by assumption) ?_
              simp only [Act.put, List.setIfInBounds_toArray, List.set_cons_zero, List.set_cons_succ]
              refine wpAnyH_ready (rs := [0, 9]) (by kernel_rfl) (by simp) ?_
              refine AllReadyH.cons rfl (fun K hK => ?_) (AllReadyH.cons rfl (fun K hK => ?_) AllReadyH.nil)
              · refine step_noneC rfl 43 rfl rfl ?_
                have hb4 : Below wk.heap.size wk (wk.drew.alloc (.cells #[] 73)) := hS0.alloc hS0.size _
                have HO4 : Hid ((wk.drew.alloc (.cells #[] 73)).ownsRow wk.heap.size 73 22 (.slice (some ⟨wk.drew.heap.size, 0, none⟩) 0 0) ([] : List Con).length (flatE encC [])) := Lib.hid (ownNone 73 22 hS0.size)
                refine hK.out _ _ hb4 (fun _ => ?_)
                clear hK K
                simp only [Act.put, List.setIfInBounds_toArray, List.set_cons_zero, List.set_cons_succ]
                refine wpAnyH_ready (rs := [4, 9]) (by kernel_rfl) (by simp) ?_
                refine AllReadyH.cons rfl (fun K hK => ?_) (AllReadyH.cons rfl (fun K hK => ?_) AllReadyH.nil)
                · refine step_appC rfl 47 rfl (.tmp 43) (.tmp 46) rfl wk.heap.size _ [] (S.take q) rfl HO4.out _ rfl (HSH9.out _ hb4) HLE.out.1 hb4.size ?_
                  intro v47 w47 ho47 hg47
                  have hb47 := below_ownB hb4 hb4.size hg47 (fun k hk => ((HO4.out).lt k hk).1)
                  refine hK.out _ _ hb47 (fun _ => ?_)
                  clear hK K
                  simp only [Act.put, List.setIfInBounds_toArray, List.set_cons_zero, List.set_cons_succ]
                  refine wpAnyH_ready (rs := [9]) (by kernel_rfl) (by simp) (AllReadyH.cons rfl (fun K hK => ?_) AllReadyH.nil)
                  refine step_oneC x rfl 52 rfl (.tmp 51) rfl rfl ?_
                  have ha9 : Below w47.heap.size w47 (w47.alloc (.cells (encC x).toArray 73)) := (Below.refl _ w47).alloc (Nat.le_refl _) _
                  have hb9 := hb47.trans (ha9.mono hb47.size)
                  have ho9 := own_belC ho47 ha9
                  have h19 := heap_alloc_new w47 (.cells (encC x).toArray 73)
                  refine hK.out _ _ hb9 (fun _ => ?_)
                  clear hK K
                  simp only [Act.put, List.setIfInBounds_toArray, List.set_cons_zero, List.set_cons_succ]
                  refine wpAnyH_ready (rs := [10]) (by kernel_rfl) (by simp) (AllReadyH.cons rfl (fun K hK => ?_) AllReadyH.nil)
                  refine step_appC rfl 53 rfl (.tmp 47) (.tmp 52) rfl wk.heap.size _ ([] ++ S.take q) [x] rfl ho9 _ rfl (src_oneH h19) HLE.out.2.1 hb9.size ?_
                  intro v53 w53 ho53 hg53
                  have hb53 := below_ownB hb9 hb9.size hg53 (fun k hk => (ho9.lt k hk).1)
                  refine hK.out _ _ hb53 (fun _ => ?_)
                  clear hK K
                  simp only [Act.put, List.setIfInBounds_toArray, List.set_cons_zero, List.set_cons_succ]
                  refine wpAnyH_ready (rs := [14]) (by kernel_rfl) (by simp) (AllReadyH.cons rfl (fun K hK => ?_) AllReadyH.nil)
                  refine step_appC rfl 57 rfl (.tmp 53) (.tmp 56) rfl wk.heap.size _ ([] ++ S.take q ++ [x]) (S.drop q) rfl ho53 _ rfl (HST9.out _ hb53) HLE.out.2.2 hb53.size ?_
                  intro v57 w57 ho57 hg57
                  have hb57 := below_ownB hb53 hb53.size hg57 (fun k hk => (ho53.lt k hk).1)
                  refine hK.out _ _ hb57 (fun _ => ?_)
                  clear hK K
                  simp only [Act.put, List.setIfInBounds_toArray, List.set_cons_zero, List.set_cons_succ]
                  refine takeH_at 15 5 (v := ?_) rfl rfl (by kernel_rfl) (by kernel_rfl) (by kernel_rfl) (fun _ _ _ h => h) (Or.inl ⟨by rfl, ?_⟩) (by assumption) ?_
                  rotate_left
                  · (intro wx hSw; clear hSw; go_simp) <;> with_reducible rfl
                  simp only [Act.put, List.setIfInBounds_toArray, List.set_cons_zero, List.set_cons_succ]
                  refine wpAnyH_done (by kernel_rfl) ?_ _
                  refine NoPanic.normal ?_
                  have HREL := Lib.hid (HFIN9.out v57 w57 hb57 ho57)
                  clear HFIN9 hHeld hS0 HLZ9 HSH9 HST9 HLE
                  go_wp2
                  go_roundw
                  case rel => exact HREL.out
                  case measure => simp [RowKit.intOf]; omega
                · refine step_oneC x rfl 52 rfl (.tmp 51) rfl rfl ?_
                  have ha9 : Below (wk.drew.alloc (.cells #[] 73)).heap.size (wk.drew.alloc (.cells #[] 73)) ((wk.drew.alloc (.cells #[] 73)).alloc (.cells (encC x).toArray 73)) := (Below.refl _ _).alloc (Nat.le_refl _) _
                  have hb9 := hb4.trans (ha9.mono hb4.size)
                  have ho9 := own_belC HO4.out ha9
                  have h19 := heap_alloc_new (wk.drew.alloc (.cells #[] 73)) (.cells (encC x).toArray 73)
                  have hlt9 : (wk.drew.alloc (.cells #[] 73)).heap.size = wk.drew.heap.size + 1 := by simp
                  refine hK.out _ _ hb9 (fun _ => ?_)
                  clear hK K
                  simp only [Act.put, List.setIfInBounds_toArray, List.set_cons_zero, List.set_cons_succ]
                  refine wpAnyH_ready (rs := [4]) (by kernel_rfl) (by simp) (AllReadyH.cons rfl (fun K hK => ?_) AllReadyH.nil)
                  refine step_appC rfl 47 rfl (.tmp 43) (.tmp 46) rfl wk.heap.size _ [] (S.take q) rfl ho9 _ rfl (HSH9.out _ hb9) HLE.out.1 hb9.size ?_
                  intro v47 w47 ho47 hg47
                  have hb47 := below_ownB hb9 hb9.size hg47 (fun k hk => ((ho9).lt k hk).1)
                  have hne9 : some wk.drew.heap.size ≠ some (wk.drew.alloc (.cells #[] 73)).heap.size := by intro e; injection e with e; omega
                  have h1a := (hg47.block (wk.drew.alloc (.cells #[] 73)).heap.size (by simp) (by first | exact hne9 | exact hne9.symm)).trans h19
                  refine hK.out _ _ hb47 (fun _ => ?_)
                  clear hK K
                  simp only [Act.put, List.setIfInBounds_toArray, List.set_cons_zero, List.set_cons_succ]
                  refine wpAnyH_ready (rs := [10]) (by kernel_rfl) (by simp) (AllReadyH.cons rfl (fun K hK => ?_) AllReadyH.nil)
                  refine step_appC rfl 53 rfl (.tmp 47) (.tmp 52) rfl wk.heap.size _ ([] ++ S.take q) [x] rfl ho47 _ rfl (src_oneH h1a) HLE.out.2.1 hb47.size ?_
                  intro v53 w53 ho53 hg53
                  have hb53 := below_ownB hb47 hb47.size hg53 (fun k hk => (ho47.lt k hk).1)
                  refine hK.out _ _ hb53 (fun _ => ?_)
                  clear hK K
                  simp only [Act.put, List.setIfInBounds_toArray, List.set_cons_zero, List.set_cons_succ]
                  refine wpAnyH_ready (rs := [14]) (by kernel_rfl) (by simp) (AllReadyH.cons rfl (fun K hK => ?_) AllReadyH.nil)
                  refine step_appC rfl 57 rfl (.tmp 53) (.tmp 56) rfl wk.heap.size _ ([] ++ S.take q ++ [x]) (S.drop q) rfl ho53 _ rfl (HST9.out _ hb53) HLE.out.2.2 hb53.size ?_
                  intro v57 w57 ho57 hg57
                  have hb57 := below_ownB hb53 hb53.size hg57 (fun k hk => (ho53.lt k hk).1)
                  refine hK.out _ _ hb57 (fun _ => ?_)
                  clear hK K
                  simp only [Act.put, List.setIfInBounds_toArray, List.set_cons_zero, List.set_cons_succ]
                  refine takeH_at 15 5 (v := ?_) rfl rfl (by kernel_rfl) (by kernel_rfl) (by kernel_rfl) (fun _ _ _ h => h) (Or.inl ⟨by rfl, ?_⟩) (by assumption) ?_
                  rotate_left
                  · (intro wx hSw; clear hSw; go_simp) <;> with_reducible rfl
                  simp only [Act.put, List.setIfInBounds_toArray, List.set_cons_zero, List.set_cons_succ]
                  refine wpAnyH_done (by kernel_rfl) ?_ _
                  refine NoPanic.normal ?_
                  have HREL := Lib.hid (HFIN9.out v57 w57 hb57 ho57)
                  clear HFIN9 hHeld hS0 HLZ9 HSH9 HST9 HLE
                  go_wp2
                  go_roundw
                  case rel => exact HREL.out
                  case measure => simp [RowKit.intOf]; omega
              · refine step_oneC x rfl 52 rfl (.tmp 51) rfl rfl ?_
                have ha9 : Below wk.drew.heap.size wk.drew (wk.drew.alloc (.cells (encC x).toArray 73)) := (Below.refl _ _).alloc (Nat.le_refl _) _
                have hb9 : Below wk.heap.size wk (wk.drew.alloc (.cells (encC x).toArray 73)) := hS0.alloc hS0.size _
                have h19 := heap_alloc_new wk.drew (.cells (encC x).toArray 73)
                refine hK.out _ _ hb9 (fun _ => ?_)
                clear hK K
                simp only [Act.put, List.setIfInBounds_toArray, List.set_cons_zero, List.set_cons_succ]
                refine wpAnyH_ready (rs := [0]) (by kernel_rfl) (by simp) (AllReadyH.cons rfl (fun K hK => ?_) AllReadyH.nil)
                refine step_noneC rfl 43 rfl rfl ?_
                have hb4 : Below wk.heap.size wk ((wk.drew.alloc (.cells (encC x).toArray 73)).alloc (.cells #[] 73)) := hb9.alloc hb9.size _
                have HO4 : Hid (((wk.drew.alloc (.cells (encC x).toArray 73)).alloc (.cells #[] 73)).ownsRow wk.heap.size 73 22 (.slice (some ⟨(wk.drew.alloc (.cells (encC x).toArray 73)).heap.size, 0, none⟩) 0 0) ([] : List Con).length (flatE encC [])) := Lib.hid (ownNone 73 22 hb9.size)
                have hl9 : (wk.drew.alloc (.cells (encC x).toArray 73)).heap.size = wk.drew.heap.size + 1 := by simp
                have h1b := (((Below.refl _ (wk.drew.alloc (.cells (encC x).toArray 73))).alloc (Nat.le_refl _) (.cells #[] 73)).block wk.drew.heap.size (by omega)).trans h19
                refine hK.out _ _ hb4 (fun _ => ?_)
                clear hK K
                simp only [Act.put, List.setIfInBounds_toArray, List.set_cons_zero, List.set_cons_succ]
                refine wpAnyH_ready (rs := [4]) (by kernel_rfl) (by simp) (AllReadyH.cons rfl (fun K hK => ?_) AllReadyH.nil)
                refine step_appC rfl 47 rfl (.tmp 43) (.tmp 46) rfl wk.heap.size _ [] (S.take q) rfl HO4.out _ rfl (HSH9.out _ hb4) HLE.out.1 hb4.size ?_
                intro v47 w47 ho47 hg47
                have hb47 := below_ownB hb4 hb4.size hg47 (fun k hk => ((HO4.out).lt k hk).1)
                have hne9 : some (wk.drew.alloc (.cells (encC x).toArray 73)).heap.size ≠ some wk.drew.heap.size := by intro e; injection e with e; omega
                have h1a := (hg47.block wk.drew.heap.size (by simp <;> omega) (by first | exact hne9 | exact hne9.symm)).trans h1b
                refine hK.out _ _ hb47 (fun _ => ?_)
                clear hK K
                simp only [Act.put, List.setIfInBounds_toArray, List.set_cons_zero, List.set_cons_succ]
                refine wpAnyH_ready (rs := [10]) (by kernel_rfl) (by simp) (AllReadyH.cons rfl (fun K hK => ?_) AllReadyH.nil)
                refine step_appC rfl 53 rfl (.tmp 47) (.tmp 52) rfl wk.heap.size _ ([] ++ S.take q) [x] rfl ho47 _ rfl (src_oneH h1a) HLE.out.2.1 hb47.size ?_
                intro v53 w53 ho53 hg53
                have hb53 := below_ownB hb47 hb47.size hg53 (fun k hk => (ho47.lt k hk).1)
                refine hK.out _ _ hb53 (fun _ => ?_)
                clear hK K
                simp only [Act.put, List.setIfInBounds_toArray, List.set_cons_zero, List.set_cons_succ]
                refine wpAnyH_ready (rs := [14]) (by kernel_rfl) (by simp) (AllReadyH.cons rfl (fun K hK => ?_) AllReadyH.nil)
                refine step_appC rfl 57 rfl (.tmp 53) (.tmp 56) rfl wk.heap.size _ ([] ++ S.take q ++ [x]) (S.drop q) rfl ho53 _ rfl (HST9.out _ hb53) HLE.out.2.2 hb53.size ?_
                intro v57 w57 ho57 hg57
                have hb57 := below_ownB hb53 hb53.size hg57 (fun k hk => (ho53.lt k hk).1)
                refine hK.out _ _ hb57 (fun _ => ?_)
                clear hK K
                simp only [Act.put, List.setIfInBounds_toArray, List.set_cons_zero, List.set_cons_succ]
                refine takeH_at 15 5 (v := ?_) rfl rfl (by kernel_rfl) (by kernel_rfl) (by kernel_rfl) (fun _ _ _ h => h) (Or.inl ⟨by rfl, ?_⟩) (by assumption) ?_
                rotate_left
                · (intro wx hSw; clear hSw; go_simp) <;> with_reducible rfl
                simp only [Act.put, List.setIfInBounds_toArray, List.set_cons_zero, List.set_cons_succ]
                refine wpAnyH_done (by kernel_rfl) ?_ _
                refine NoPanic.normal ?_
                have HREL := Lib.hid (HFIN9.out v57 w57 hb57 ho57)
                clear HFIN9 hHeld hS0 HLZ9 HSH9 HST9 HLE
                go_wp2
                go_roundw
                case rel => exact HREL.out
                case measure => simp [RowKit.intOf]; omega
            · have hqn : ¬ (q : Int) < (ns : Int) := by have := HNS.out; omega
              have hqd : decide ((q : Int) < (ns : Int)) = false := decide_eq_false hqn
              clear hbi hbo HBI
              go_upto_region 7 with fail
              refine wp_region_kept wr.heap.size wr (Below.refl _ _) (by kernel_rfl) (by kernel_rfl) ?_
              repeat (first
                | go_big_quiet_step (fail))
              refine wpQuiet_nil ?_
              rintro wk ⟨⟨_, hwk⟩, rfl⟩
              have HK9 := Lib.hid (HBO.out.trans (hwk.mono HBO.out.size))
              clear hwk HBO
              go_upto_region 9 with fail
              have hS0 : Below wk.heap.size wk wk.drew := (Below.refl _ wk).drew
              have HLZ9 : Hid (∀ W, Below wk.heap.size wk W → (loadVar 73 ⟨g, off + j * 22, none⟩).run Try.prog W = .ok (.agg (encC x).toArray) W) := Lib.hid (fun W hW => HLZ.out W (HK9.out.trans (hW.mono HK9.out.size)))
              have HSH9 : Hid (∀ W, Below wk.heap.size wk W → Src Try.prog 22 62 (.slice (headC A5 c5) q c5) (S.take q).length (flatE encC (S.take q)) W) := Lib.hid (fun W hW => HSH.out W (HK9.out.trans (hW.mono HK9.out.size)))
              have HST9 : Hid (∀ W, Below wk.heap.size wk W → Src Try.prog 22 62 (.slice (cutC A5 c5 q) (ns - q) (c5 - q)) (S.drop q).length (flatE encC (S.drop q)) W) := Lib.hid (fun W hW => HST.out W (HK9.out.trans (hW.mono HK9.out.size)))
              have HFIN9 := Lib.hid (fun v u => HFIN.out wk v u HK9.out)
              have hpc : q ≤ c5 := by omega
              clear HLZ HSH HST HFIN HLI HLT HLT2 HCM HRQ HPAT HPLT HA HEND HB0 HB2 HN HK9
              refine wp_region_noPanic ?_
              refine wp_region_held_drew (S := fun w' => Below wk.heap.size wk w') (by kernel_rfl) hS0 (fun hHeld => ?_)
              refine takeH_at 1 44 (v := ?_) rfl rfl (by kernel_rfl) (by kernel_rfl) (by kernel_rfl) (fun _ _ _ h => h) (Or.inl ⟨by rfl, ?_⟩) (by assumption) ?_
              rotate_left
              · (intro wx hSw; clear hSw; go_simp) <;> with_reducible rfl
              simp only [Act.put, List.setIfInBounds_toArray, List.set_cons_zero, List.set_cons_succ]
              refine takeH_at 2 45 (v := ?_) rfl rfl (by kernel_rfl) (by kernel_rfl) (by kernel_rfl) (fun _ _ _ h => h) (Or.inl ⟨by rfl, ?_⟩) (by assumption) ?_
              rotate_left
              · (intro wx hSw; clear hSw; go_simp) <;> with_reducible rfl
              simp only [Act.put, List.setIfInBounds_toArray, List.set_cons_zero, List.set_cons_succ]
              refine takeH_at 3 46 (v := .slice (headC A5 c5) q c5) rfl rfl (by kernel_rfl) (by kernel_rfl) (by kernel_rfl) (fun _ _ _ h => h) (Or.inl ⟨by rfl, fun w _ => exec_headC (.tmp 44) (.tmp 45) rfl A5 ns c5 q rfl rfl hpc w⟩) (by assumption) ?_
              simp only [Act.put, List.setIfInBounds_toArray, List.set_cons_zero, List.set_cons_succ]
              refine takeH_at 5 48 (v := ?_) rfl rfl (by kernel_rfl) (by kernel_rfl) (by kernel_rfl) (fun _ _ _ h => h) (Or.inl ⟨by rfl, ?_⟩) (by assumption) ?_
              rotate_left
              · (intro wx hSw; clear hSw; go_simp) <;> with_reducible rfl
              simp only [Act.put, List.setIfInBounds_toArray, List.set_cons_zero, List.set_cons_succ]
              refine takeH_at 6 49 (v := ?_) rfl rfl (by kernel_rfl) (by kernel_rfl) (by kernel_rfl) (fun _ _ _ h => h) (Or.inl ⟨by rfl, ?_⟩) (by assumption) ?_
              rotate_left
              · (intro wx hSw; clear hSw; go_simp) <;> with_reducible rfl
              simp only [Act.put, List.setIfInBounds_toArray, List.set_cons_zero, List.set_cons_succ]
              refine takeH_at 7 50 (v := ?_) rfl rfl (by kernel_rfl) (by kernel_rfl) (by kernel_rfl) (fun _ _ _ h => h) (Or.inl ⟨by rfl, ?_⟩) (by assumption) ?_
              rotate_left
              · (intro wx hSw; clear hSw; go_simp) <;> with_reducible rfl
              simp only [Act.put, List.setIfInBounds_toArray, List.set_cons_zero, List.set_cons_succ]
              refine takeH_at 8 51 (v := .agg (encC x).toArray) rfl rfl (by kernel_rfl) (by kernel_rfl) (by kernel_rfl) (fun _ _ _ h => h) (yieldsIf_loadP (by rfl) 73 (.tmp 50) rfl ⟨g, off + j * 22, none⟩ rfl _ (fun w hw => HLZ9.out w hw)) (by assumption) ?_
              simp only [Act.put, List.setIfInBounds_toArray, List.set_cons_zero, List.set_cons_succ]
              refine takeH_at 11 54 (v := ?_) rfl rfl (by kernel_rfl) (by kernel_rfl) (by kernel_rfl) (fun _ _ _ h => h) (Or.inl ⟨by rfl, ?_⟩) (by assumption) ?_
              rotate_left
              · (intro wx hSw; clear hSw; go_simp) <;> with_reducible rfl
              simp only [Act.put, List.setIfInBounds_toArray, List.set_cons_zero, List.set_cons_succ]
              refine takeH_at 12 55 (v := ?_) rfl rfl (by kernel_rfl) (by kernel_rfl) (by kernel_rfl) (fun _ _ _ h => h) (Or.inl ⟨by rfl, ?_⟩) (by assumption) ?_
              rotate_left
              · (intro wx hSw; clear hSw; go_simp) <;> with_reducible rfl
              simp only [Act.put, List.setIfInBounds_toArray, List.set_cons_zero, List.set_cons_succ]
              refine takeH_at 13 56 (v := .slice (cutC A5 c5 q) (ns - q) (c5 - q)) rfl rfl (by kernel_rfl) (by kernel_rfl) (by kernel_rfl) (fun _ _ _ h => h) (Or.inl ⟨by rfl, fun w _ => exec_cutC (.tmp 54) (.tmp 55) rfl A5 ns c5 q rfl rfl hpl w⟩) (by assumption) ?_
              simp only [Act.put, List.setIfInBounds_toArray, List.set_cons_zero, List.set_cons_succ]
              refine wpAnyH_ready (rs := [0, 9]) (by kernel_rfl) (by simp) ?_
              refine AllReadyH.cons rfl (fun K hK => ?_) (AllReadyH.cons rfl (fun K hK => ?_) AllReadyH.nil)
              · refine step_noneC rfl 43 rfl rfl ?_
                have hb4 : Below wk.heap.size wk (wk.drew.alloc (.cells #[] 73)) := hS0.alloc hS0.size _
                have HO4 : Hid ((wk.drew.alloc (.cells #[] 73)).ownsRow wk.heap.size 73 22 (.slice (some ⟨wk.drew.heap.size, 0, none⟩) 0 0) ([] : List Con).length (flatE encC [])) := Lib.hid (ownNone 73 22 hS0.size)
                refine hK.out _ _ hb4 (fun _ => ?_)
                clear hK K
                simp only [Act.put, List.setIfInBounds_toArray, List.set_cons_zero, List.set_cons_succ]
                refine wpAnyH_ready (rs := [4, 9]) (by kernel_rfl) (by simp) ?_
                refine AllReadyH.cons rfl (fun K hK => ?_) (AllReadyH.cons rfl (fun K hK => ?_) AllReadyH.nil)
                · refine step_appC rfl 47 rfl (.tmp 43) (.tmp 46) rfl wk.heap.size _ [] (S.take q) rfl HO4.out _ rfl (HSH9.out _ hb4) HLE.out.1 hb4.size ?_
                  intro v47 w47 ho47 hg47
                  have hb47 := below_ownB hb4 hb4.size hg47 (fun k hk => ((HO4.out).lt k hk).1)
                  refine hK.out _ _ hb47 (fun _ => ?_)
                  clear hK K
                  simp only [Act.put, List.setIfInBounds_toArray, List.set_cons_zero, List.set_cons_succ]
                  refine wpAnyH_ready (rs := [9]) (by kernel_rfl) (by simp) (AllReadyH.cons rfl (fun K hK => ?_) AllReadyH.nil)
                  refine step_oneC x rfl 52 rfl (.tmp 51) rfl rfl ?_
                  have ha9 : Below w47.heap.size w47 (w47.alloc (.cells (encC x).toArray 73)) := (Below.refl _ w47).alloc (Nat.le_refl _) _
                  have hb9 := hb47.trans (ha9.mono hb47.size)
                  have ho9 := own_belC ho47 ha9
                  have h19 := heap_alloc_new w47 (.cells (encC x).toArray 73)
                  refine hK.out _ _ hb9 (fun _ => ?_)
                  clear hK K
                  simp only [Act.put, List.setIfInBounds_toArray, List.set_cons_zero, List.set_cons_succ]
                  refine wpAnyH_ready (rs := [10]) (by kernel_rfl) (by simp) (AllReadyH.cons rfl (fun K hK => ?_) AllReadyH.nil)
                  refine step_appC rfl 53 rfl (.tmp 47) (.tmp 52) rfl wk.heap.size _ ([] ++ S.take q) [x] rfl ho9 _ rfl (src_oneH h19) HLE.out.2.1 hb9.size ?_
                  intro v53 w53 ho53 hg53
                  have hb53 := below_ownB hb9 hb9.size hg53 (fun k hk => (ho9.lt k hk).1)
                  refine hK.out _ _ hb53 (fun _ => ?_)
                  clear hK K
                  simp only [Act.put, List.setIfInBounds_toArray, List.set_cons_zero, List.set_cons_succ]
                  refine wpAnyH_ready (rs := [14]) (by kernel_rfl) (by simp) (AllReadyH.cons rfl (fun K hK => ?_) AllReadyH.nil)
                  refine step_appC rfl 57 rfl (.tmp 53) (.tmp 56) rfl wk.heap.size _ ([] ++ S.take q ++ [x]) (S.drop q) rfl ho53 _ rfl (HST9.out _ hb53) HLE.out.2.2 hb53.size ?_
                  intro v57 w57 ho57 hg57
                  have hb57 := below_ownB hb53 hb53.size hg57 (fun k hk => (ho53.lt k hk).1)
                  refine hK.out _ _ hb57 (fun _ => ?_)
                  clear hK K
                  simp only [Act.put, List.setIfInBounds_toArray, List.set_cons_zero, List.set_cons_succ]
                  refine takeH_at 15 5 (v := ?_) rfl rfl (by kernel_rfl) (by kernel_rfl) (by kernel_rfl) (fun _ _ _ h => h) (Or.inl ⟨by rfl, ?_⟩) (by assumption) ?_
                  rotate_left
                  · (intro wx hSw; clear hSw; go_simp) <;> with_reducible rfl
                  simp only [Act.put, List.setIfInBounds_toArray, List.set_cons_zero, List.set_cons_succ]
                  refine wpAnyH_done (by kernel_rfl) ?_ _
                  refine NoPanic.normal ?_
                  have HREL := Lib.hid (HFIN9.out v57 w57 hb57 ho57)
                  clear HFIN9 hHeld hS0 HLZ9 HSH9 HST9 HLE
                  go_wp2
                  go_roundw
                  case rel => exact HREL.out
                  case measure => simp [RowKit.intOf]; omega
                · refine step_oneC x rfl 52 rfl (.tmp 51) rfl rfl ?_
                  have ha9 : Below (wk.drew.alloc (.cells #[] 73)).heap.size (wk.drew.alloc (.cells #[] 73)) ((wk.drew.alloc (.cells #[] 73)).alloc (.cells (encC x).toArray 73)) := (Below.refl _ _).alloc (Nat.le_refl _) _
                  have hb9 := hb4.trans (ha9.mono hb4.size)
                  have ho9 := own_belC HO4.out ha9
                  have h19 := heap_alloc_new (wk.drew.alloc (.cells #[] 73)) (.cells (encC x).toArray 73)
                  have hlt9 : (wk.drew.alloc (.cells #[] 73)).heap.size = wk.drew.heap.size + 1 := by simp
                  refine hK.out _ _ hb9 (fun _ => ?_)
                  clear hK K
                  simp only [Act.put, List.setIfInBounds_toArray, List.set_cons_zero, List.set_cons_succ]
                  refine wpAnyH_ready (rs := [4]) (by kernel_rfl) (by simp) (AllReadyH.cons rfl (fun K hK => ?_) AllReadyH.nil)
                  refine step_appC rfl 47 rfl (.tmp 43) (.tmp 46) rfl wk.heap.size _ [] (S.take q) rfl ho9 _ rfl (HSH9.out _ hb9) HLE.out.1 hb9.size ?_
                  intro v47 w47 ho47 hg47
                  have hb47 := below_ownB hb9 hb9.size hg47 (fun k hk => ((ho9).lt k hk).1)
                  have hne9 : some wk.drew.heap.size ≠ some (wk.drew.alloc (.cells #[] 73)).heap.size := by intro e; injection e with e; omega
                  have h1a := (hg47.block (wk.drew.alloc (.cells #[] 73)).heap.size (by simp) (by first | exact hne9 | exact hne9.symm)).trans h19
                  refine hK.out _ _ hb47 (fun _ => ?_)
                  clear hK K
                  simp only [Act.put, List.setIfInBounds_toArray, List.set_cons_zero, List.set_cons_succ]
                  refine wpAnyH_ready (rs := [10]) (by kernel_rfl) (by simp) (AllReadyH.cons rfl (fun K hK => ?_) AllReadyH.nil)
                  refine step_appC rfl 53 rfl (.tmp 47) (.tmp 52) rfl wk.heap.size _ ([] ++ S.take q) [x] rfl ho47 _ rfl (src_oneH h1a) HLE.out.2.1 hb47.size ?_
                  intro v53 w53 ho53 hg53
                  have hb53 := below_ownB hb47 hb47.size hg53 (fun k hk => (ho47.lt k hk).1)
                  refine hK.out _ _ hb53 (fun _ => ?_)
                  clear hK K
                  simp only [Act.put, List.setIfInBounds_toArray, List.set_cons_zero, List.set_cons_succ]
                  refine wpAnyH_ready (rs := [14]) (by kernel_rfl) (by simp) (AllReadyH.cons rfl (fun K hK => ?_) AllReadyH.nil)
                  refine step_appC rfl 57 rfl (.tmp 53) (.tmp 56) rfl wk.heap.size _ ([] ++ S.take q ++ [x]) (S.drop q) rfl ho53 _ rfl (HST9.out _ hb53) HLE.out.2.2 hb53.size ?_
                  intro v57 w57 ho57 hg57
                  have hb57 := below_ownB hb53 hb53.size hg57 (fun k hk => (ho53.lt k hk).1)
                  refine hK.out _ _ hb57 (fun _ => ?_)
                  clear hK K
                  simp only [Act.put, List.setIfInBounds_toArray, List.set_cons_zero, List.set_cons_succ]
                  refine takeH_at 15 5 (v := ?_) rfl rfl (by kernel_rfl) (by kernel_rfl) (by kernel_rfl) (fun _ _ _ h => h) (Or.inl ⟨by rfl, ?_⟩) (by assumption) ?_
                  rotate_left
                  · (intro wx hSw; clear hSw; go_simp) <;> with_reducible rfl
                  simp only [Act.put, List.setIfInBounds_toArray, List.set_cons_zero, List.set_cons_succ]
                  refine wpAnyH_done (by kernel_rfl) ?_ _
                  refine NoPanic.normal ?_
                  have HREL := Lib.hid (HFIN9.out v57 w57 hb57 ho57)
                  clear HFIN9 hHeld hS0 HLZ9 HSH9 HST9 HLE
                  go_wp2
                  go_roundw
                  case rel => exact HREL.out
                  case measure => simp [RowKit.intOf]; omega
              · refine step_oneC x rfl 52 rfl (.tmp 51) rfl rfl ?_
                have ha9 : Below wk.drew.heap.size wk.drew (wk.drew.alloc (.cells (encC x).toArray 73)) := (Below.refl _ _).alloc (Nat.le_refl _) _
                have hb9 : Below wk.heap.size wk (wk.drew.alloc (.cells (encC x).toArray 73)) := hS0.alloc hS0.size _
                have h19 := heap_alloc_new wk.drew (.cells (encC x).toArray 73)
                refine hK.out _ _ hb9 (fun _ => ?_)
                clear hK K
                simp only [Act.put, List.setIfInBounds_toArray, List.set_cons_zero, List.set_cons_succ]
                refine wpAnyH_ready (rs := [0]) (by kernel_rfl) (by simp) (AllReadyH.cons rfl (fun K hK => ?_) AllReadyH.nil)
                refine step_noneC rfl 43 rfl rfl ?_
                have hb4 : Below wk.heap.size wk ((wk.drew.alloc (.cells (encC x).toArray 73)).alloc (.cells #[] 73)) := hb9.alloc hb9.size _
                have HO4 : Hid (((wk.drew.alloc (.cells (encC x).toArray 73)).alloc (.cells #[] 73)).ownsRow wk.heap.size 73 22 (.slice (some ⟨(wk.drew.alloc (.cells (encC x).toArray 73)).heap.size, 0, none⟩) 0 0) ([] : List Con).length (flatE encC [])) := Lib.hid (ownNone 73 22 hb9.size)
                have hl9 : (wk.drew.alloc (.cells (encC x).toArray 73)).heap.size = wk.drew.heap.size + 1 := by simp
                have h1b := (((Below.refl _ (wk.drew.alloc (.cells (encC x).toArray 73))).alloc (Nat.le_refl _) (.cells #[] 73)).block wk.drew.heap.size (by omega)).trans h19
                refine hK.out _ _ hb4 (fun _ => ?_)
                clear hK K
                simp only [Act.put, List.setIfInBounds_toArray, List.set_cons_zero, List.set_cons_succ]
                refine wpAnyH_ready (rs := [4]) (by kernel_rfl) (by simp) (AllReadyH.cons rfl (fun K hK => ?_) AllReadyH.nil)
                refine step_appC rfl 47 rfl (.tmp 43) (.tmp 46) rfl wk.heap.size _ [] (S.take q) rfl HO4.out _ rfl (HSH9.out _ hb4) HLE.out.1 hb4.size ?_
                intro v47 w47 ho47 hg47
                have hb47 := below_ownB hb4 hb4.size hg47 (fun k hk => ((HO4.out).lt k hk).1)
                have hne9 : some (wk.drew.alloc (.cells (encC x).toArray 73)).heap.size ≠ some wk.drew.heap.size := by intro e; injection e with e; omega
                have h1a := (hg47.block wk.drew.heap.size (by simp <;> omega) (by first | exact hne9 | exact hne9.symm)).trans h1b
                refine hK.out _ _ hb47 (fun _ => ?_)
                clear hK K
                simp only [Act.put, List.setIfInBounds_toArray, List.set_cons_zero, List.set_cons_succ]
                refine wpAnyH_ready (rs := [10]) (by kernel_rfl) (by simp) (AllReadyH.cons rfl (fun K hK => ?_) AllReadyH.nil)
                refine step_appC rfl 53 rfl (.tmp 47) (.tmp 52) rfl wk.heap.size _ ([] ++ S.take q) [x] rfl ho47 _ rfl (src_oneH h1a) HLE.out.2.1 hb47.size ?_
                intro v53 w53 ho53 hg53
                have hb53 := below_ownB hb47 hb47.size hg53 (fun k hk => (ho47.lt k hk).1)
                refine hK.out _ _ hb53 (fun _ => ?_)
                clear hK K
                simp only [Act.put, List.setIfInBounds_toArray, List.set_cons_zero, List.set_cons_succ]
                refine wpAnyH_ready (rs := [14]) (by kernel_rfl) (by simp) (AllReadyH.cons rfl (fun K hK => ?_) AllReadyH.nil)
                refine step_appC rfl 57 rfl (.tmp 53) (.tmp 56) rfl wk.heap.size _ ([] ++ S.take q ++ [x]) (S.drop q) rfl ho53 _ rfl (HST9.out _ hb53) HLE.out.2.2 hb53.size ?_
                intro v57 w57 ho57 hg57
                have hb57 := below_ownB hb53 hb53.size hg57 (fun k hk => (ho53.lt k hk).1)
                refine hK.out _ _ hb57 (fun _ => ?_)
                clear hK K
                simp only [Act.put, List.setIfInBounds_toArray, List.set_cons_zero, List.set_cons_succ]
                refine takeH_at 15 5 (v := ?_) rfl rfl (by kernel_rfl) (by kernel_rfl) (by kernel_rfl) (fun _ _ _ h => h) (Or.inl ⟨by rfl, ?_⟩) (by assumption) ?_
                rotate_left
                · (intro wx hSw; clear hSw; go_simp) <;> with_reducible rfl
                simp only [Act.put, List.setIfInBounds_toArray, List.set_cons_zero, List.set_cons_succ]
                refine wpAnyH_done (by kernel_rfl) ?_ _
                refine NoPanic.normal ?_
                have HREL := Lib.hid (HFIN9.out v57 w57 hb57 ho57)
                clear HFIN9 hHeld hS0 HLZ9 HSH9 HST9 HLE
                go_wp2
                go_roundw
                case rel => exact HREL.out
                case measure => simp [RowKit.intOf]; omega
    · obtain rfl : j = n := by have := HN.out; omega
      have HF := Lib.hid (HEND.out _ _ ho hb)
      clear ho hb
      go_wp2
      go_ret
      exact ⟨_, rfl, HF.out⟩
end Go.Proofs.Ytbfhfnbhfeedbaa
