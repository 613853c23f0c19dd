/- Contract of slices.DeleteFunc at contacts. Conditions: at most 10,000 contacts. Contract of Without of package contact. Conditions: at most 10,000 contacts. -/
import Derived.Test.YtbfhfnbhfeedbaaXCdk
section
namespace Go.Proofs.Ytbfhfnbhfeedbaa
open Go.Shelf Go.RowKit Go.Lib Go.Sort Go.Great
set_option maxRecDepth 100000
set_option maxHeartbeats 1000000
/-- A call of a function's value. -/
theorem callV_run {P : Program} {o : Oper} {a : Act} {w : World} (f : Nat) (caps : Array Value) (x : Operand) {xs : Array Operand} {ts : Array TypeId} (ho : o.op = .call { callee := .value x, args := xs, argTypes := ts })
    (hx : a.eval x = .func (.func f) #[] caps) (eg : ∀ args w, (callFunc f args).run P w = .ok (.enter f args) w) (args : Array Value) (hargs : xs.map a.eval = args) : (execOp a.eval o).run P w = .ok (.enter f (args ++ caps)) w := by
  unfold execOp
  simp only [ho, resolve, invoke, Sem.run_bind, hx]
  simp only [Deferred.ofValue, Sem.run_pure, Result.andThen_ok, Array.empty_append, hargs, eg]
theorem wpList_callV {P : Program} {ops : Array Oper} {rest : List Oper} {o : Oper} {a : Act} {w : World} {Q : Exit → Act → World → Prop} (hgd : o.guard = none) (f : Nat) (caps : Array Value) (x : Operand) {xs : Array Operand} {ts : Array TypeId} (ho : o.op = .call { callee := .value x, args := xs, argTypes := ts })
    (hx : a.eval x = .func (.func f) #[] caps) (eg : ∀ args w, (callFunc f args).run P w = .ok (.enter f args) w) (args : Array Value) (hargs : xs.map a.eval = args)
    (h : Calls P f (args ++ caps) w fun e w' => ∃ v, e = .returned v ∧ wpList P ops Q rest (a.put o.dst v) w') : wpList P ops Q (o :: rest) a w :=
  wpList_plain hgd fun _ hK => by
    unfold Oper.wp
    rw [callV_run f caps x ho hx eg args hargs]
    simp only [Oper.upon]
    exact h.mono (by rintro e w'' ⟨v, rfl, h1⟩; exact hK _ _ h1)
/-- A contact is stored at a place of a row. -/
theorem wpList_store60at {w : World} {ops : Array Oper} {rest : List Oper} {o : Oper} {a : Act} {Q : Exit → Act → World → Prop} (hgd : o.guard = none) (x y : Operand) (ho : o.op = .store 60 x y) (g f : Nat) (c : Con) (hx : a.eval x = .pointer (some ⟨g, f, none⟩)) (hy : a.eval y = .agg (encC c).toArray) (hth : w.there g f 22)
    (h : wpList Try.prog ops Q rest (a.put o.dst undef) (w.setCells g f (encC c))) : wpList Try.prog ops Q (o :: rest) a w := by
  have hsz : (encC c).toArray.size = 22 := by rw [List.size_toArray, encC_length]
  refine wpList_store_mid (P := Try.prog) hgd 60 x y ho g f (encC c).toArray hx hy (by rw [hsz]; exact hth) (by rw [hsz]; exact size60) ?_ h
  rw [Array.all_eq_true_iff_forall_mem]
  intro v hv
  exact encC_one c v (by simpa using hv)
section
variable {w w' : World} {g off B : Nat} {d : Array Con}
theorem rowK_put (R : RowK encC 22 w g off d) (i : Nat) (hi : i < d.size) (y : Con) : RowK encC 22 (w.setCells g (off + i * 22) (encC y)) g off (d.setIfInBounds i y) ∧ w.grownBy (w.setCells g (off + i * 22) (encC y)) (some g) := by
  have S := swk_put1 (SWK.start R.hH) R i hi y
  exact ⟨⟨encC_length, encC_one, S.holds R.hblk R.hH (by simp), S.lt R.hblk⟩, grown_cells _ _ _ (World.grownBy.refl w _)⟩
theorem rowK_bel (R : RowK encC 22 w g off d) (hb : w'.heap[g]? = w.heap[g]?) (hs : w.heap.size ≤ w'.heap.size) : RowK encC 22 w' g off d :=
  ⟨encC_length, encC_one, fun j hj => by
    have := R.hH j hj
    rw [World.cell?_of_block (w := w) (w' := w') (a := ⟨g, off + j, none⟩) hb]
    refine ⟨this.1, ?_⟩
    have h2 := this.2
    unfold World.frozen? at h2 ⊢
    simp only at h2 ⊢
    rw [hb]
    exact h2, Nat.lt_of_lt_of_le R.hblk hs⟩
theorem rowK_range (R : RowK encC 22 w g off d) (i : Nat) (hi : i < d.size) : w.rangeAt g (off + i * 22) (encC d[i]!) := fun c v hv => by
  have hc := (List.getElem?_eq_some_iff.1 hv).1
  have hc' := hc
  rw [encC_length] at hc'
  have := HoldsK.cell R.hH hi hc'
  rw [this.1]
  rw [List.getElem?_eq_getElem hc] at hv
  rw [getElem!_pos _ c hc]
  exact hv
theorem rowK_there (R : RowK encC 22 w g off d) (i m : Nat) (hi : i + m ≤ d.size) : w.there g (off + i * 22) (m * 22) := by
  intro j hj
  have hji : i + j / 22 < d.size := by
    have : j / 22 < m := Nat.div_lt_of_lt_mul (by rw [Nat.mul_comm]; exact hj)
    omega
  have := HoldsK.cell R.hH hji (Nat.mod_lt j (show 0 < 22 by omega))
  rw [show off + (i + j / 22) * 22 + j % 22 = off + i * 22 + j by omega] at this
  exact ⟨by rw [this.1]; rfl, this.2⟩
end
/-- The contacts that p does not tell. -/
def keepC (p : Con → Bool) (L : List Con) : List Con := L.filter (fun x => !p x)
theorem keepC_snoc (p : Con → Bool) (L : List Con) (j : Nat) (hj : j < L.length) : keepC p (L.take (j + 1)) = if p L[j] = true then keepC p (L.take j) else keepC p (L.take j) ++ [L[j]] := by
  unfold keepC
  rw [List.take_succ_eq_append_getElem hj, List.filter_append]
  by_cases h : p L[j] = true
  · rw [if_pos h]; simp [h]
  · rw [if_neg h]; simp [h]
theorem keepC_none {p : Con → Bool} {L : List Con} (h : ∀ x ∈ L, p x = false) : keepC p L = L := by
  unfold keepC
  rw [List.filter_eq_self]
  intro x hx
  rw [h x hx]
  rfl
theorem idxF_cases (p : Con → Bool) : ∀ (L : List Con) (i : Nat), (Lib.idxByFrom (fun _ y => p y) default L i = -1 ∧ ∀ x ∈ L, p x = false) ∨ ∃ (k : Nat) (hk : k < L.length), Lib.idxByFrom (fun _ y => p y) default L i = ((i + k : Nat) : Int) ∧ p L[k] = true ∧ ∀ x ∈ L.take k, p x = false
  | [], i => .inl ⟨rfl, by simp⟩
  | y :: L, i => by
    rw [Lib.idxByFrom]
    by_cases h : p y = true
    · exact .inr ⟨0, by simp, by simp [h], h, by simp⟩
    · have h' : p y = false := by simpa using h
      rw [if_neg (by simpa using h)]
      rcases idxF_cases p L (i + 1) with ⟨a, b⟩ | ⟨k, hk, a, b, c⟩
      · refine .inl ⟨a, fun x hx => ?_⟩
        rcases List.mem_cons.1 hx with rfl | hx
        · exact h'
        · exact b x hx
      · refine .inr ⟨k + 1, by simpa using hk, by rw [a]; omega, by simpa using b, fun x hx => ?_⟩
        rw [List.take_succ_cons] at hx
        rcases List.mem_cons.1 hx with rfl | hx
        · exact h'
        · exact c x hx
theorem idxP_cases (p : Con → Bool) (L : List Con) : (idxP p L = -1 ∧ ∀ x ∈ L, p x = false) ∨ ∃ (k : Nat) (hk : k < L.length), idxP p L = (k : Int) ∧ p L[k] = true ∧ ∀ x ∈ L.take k, p x = false := by
  rcases idxF_cases p L 0 with h | ⟨k, hk, a, b, c⟩
  · exact .inl h
  · exact .inr ⟨k, hk, by unfold idxP Lib.idxBy; rw [a, Nat.zero_add], b, c⟩
theorem delf_any (p : Con → Bool) (f : Nat) (lb : Array Value) (ef : ∀ args w, (callFunc f args).run Try.prog w = .ok (.enter f args) w) (g off cap : Nat) (L : List Con) (w0 : World) (hL : L.length ≤ 10000)
    (hp : ∀ W x, w0.grownBy W (some g) → Calls Try.prog f (#[.agg (encC x).toArray] ++ lb) W fun e w' => e = .returned (.bool (p x)) ∧ Below W.heap.size W w')
    (R : RowK encC 22 w0 g off L.toArray) (hcap : L.length ≤ cap) (hcm : cap ≤ maxLen) :
    Calls Try.prog 76 #[.slice (some ⟨g, off, none⟩) L.length cap, .func (.func f) #[] lb] w0 fun e w' => e = .returned (.slice (some ⟨g, off, none⟩) (keepC p L).length cap) ∧ ComIs encC g off g w0 (keepC p L) w' := by
  have hgw := R.hblk
  have hr0 : w0.rangeAt g off (flatE encC L) := swk_range (SWK.start R.hH) R rfl (by omega) L (by simp) (fun j x hx => by
    obtain ⟨hj, rfl⟩ := List.getElem?_eq_some_iff.1 hx
    simp [hj])
  have HI := Lib.hid (idx_any p f lb ef (some ⟨g, off, none⟩) cap L w0 hL (fun W x hW => (hp W x (grown_of_bel hW _)).mono (by rintro e w' ⟨rfl, h⟩; exact ⟨rfl, hW.trans (h.mono hW.size)⟩)) (.inr ⟨g, off, rfl, hgw, hr0⟩))
  have HP : Hid (∀ W x, w0.grownBy W (some g) → Calls Try.prog f (#[.agg (encC x).toArray] ++ lb) W fun e w' => e = .returned (.bool (p x)) ∧ Below W.heap.size W w') := Lib.hid hp
  have HE := Lib.hid ef
  have HR0 := Lib.hid hr0
  have HR := Lib.hid R
  have hcm2 : cap ≤ 9223372036854775807 := by simp only [maxLen] at hcm; omega
  obtain ⟨n, hn⟩ : ∃ n, n = L.length := ⟨_, rfl⟩
  have HN := Lib.hid hn
  rw [← hn] at HI hL hcap ⊢
  clear hp R hr0 hcm hn ef
  rcases idxP_cases p L with ⟨hi, hall⟩ | ⟨i0, hi0, hi, hpi, hall⟩
  · rw [hi] at HI
    have HF : Hid (∀ w', Below w0.heap.size w0 w' → (keepC p L).length = n ∧ ComIs encC g off g w0 (keepC p L) w') := Lib.hid (fun w' hb => by
      rw [keepC_none hall]
      exact ⟨HN.out.symm, rangeAt_below HR0.out (hb.block g hgw), Nat.lt_of_lt_of_le hgw hb.size, hb.mono (Nat.le_of_lt hgw)⟩)
    clear hi hall HP
    go_enter Try.func76, Try.ntmps76
    go_wp2_with (first | (go_at_call 74; (with_reducible refine HI.out.mono ?_); rintro e w1 ⟨rfl, hb1⟩))
    go_ret
    rw [(HF.out _ hb1).1]
    exact ⟨rfl, (HF.out _ hb1).2⟩
  · rw [hi] at HI
    have hi0n : i0 < n := by have := HN.out; omega
    have HST : Hid (keepC p (L.take (i0 + 1)) = L.take i0) := Lib.hid (by rw [keepC_snoc p L i0 hi0, if_pos hpi, keepC_none hall])
    clear hi hpi hall
    go_enter Try.func76, Try.ntmps76
    have hne : ((i0 : Int) == -1) = false := by simp <;> omega
    go_upto_region 5 with (first | (go_at_call 74; (with_reducible refine HI.out.mono ?_); rintro e w1 ⟨rfl, hb1⟩))
    have HB1 := Lib.hid hb1
    clear HI hb1 hne
    go_loopg [5, 6] n (fun kx s5 s6 wr => ∃ (i j : Nat) (dk : Array Con), s5 = .int .i64 (i : Int) ∧ s6 = .int .i64 (j : Int) ∧ i < j ∧ j ≤ n ∧ n - j ≤ kx ∧ i = (keepC p (L.take j)).length ∧ dk.size = n ∧ (∀ (q : Nat) (x : Con), (keepC p (L.take j))[q]? = some x → dk[q]! = x) ∧ (∀ q (hq : q < L.length), j ≤ q → dk[q]! = L[q]) ∧ RowK encC 22 wr g off dk ∧ w0.grownBy wr (some g))
    case atStart =>
      refine ⟨i0, i0 + 1, L.toArray, rfl, by go_num, by omega, by omega, by omega, ?_, by simp; exact HN.out.symm, fun q x hx => ?_, fun q hq _ => by simp [hq], rowK_bel HR.out (HB1.out.block g hgw) HB1.out.size, grown_of_bel HB1.out _⟩
      · rw [HST.out, List.length_take]; omega
      · rw [HST.out] at hx
        obtain ⟨hj, hx⟩ := List.getElem?_eq_some_iff.1 hx
        rw [List.getElem_take] at hx
        have hq : q < L.length := by rw [List.length_take] at hj; omega
        rw [← hx]
        simp [hq]
    case round =>
      obtain ⟨i, j, dk, rfl, rfl, hij, hjn, hkx, hil, hds, hlow, hhigh, hR, hb⟩ := hrel
      have HIL := Lib.hid hil
      have HDS := Lib.hid hds
      have HLOW : Hid (∀ (q : Nat) (x : Con), (keepC p (L.take j))[q]? = some x → dk[q]! = x) := Lib.hid hlow
      have HHIGH : Hid (∀ q (hq : q < L.length), j ≤ q → dk[q]! = L[q]) := Lib.hid hhigh
      have HRR := Lib.hid hR
      have HB := Lib.hid hb
      clear HB1 hil hlow hhigh hR hb hds
      by_cases hlt : j < n
      · have hjL : j < L.length := by have := HN.out; omega
        obtain ⟨x, hx⟩ : ∃ x, x = L[j] := ⟨_, rfl⟩
        have HLD := Lib.hid (load60 (rowK_range HRR.out j (by have := HDS.out; omega)))
        rw [HHIGH.out j hjL (Nat.le_refl _), ← hx] at HLD
        have hbo : Below wr.heap.size wr (wr.alloc (.cells (encC x).toArray 60)) := (Below.refl _ wr).alloc (Nat.le_refl _) _
        have HLX := Lib.hid (load60 (row_range (heap_alloc_new wr (.cells (encC x).toArray 60))))
        have hgl : g < wr.heap.size := HRR.out.hblk
        have HC := Lib.hid (HP.out (wr.alloc (.cells (encC x).toArray 60)) x (grownBy_trans HB.out (grown_of_bel hbo _)))
        have HAR : Hid (wr.heap.size < (wr.alloc (.cells (encC x).toArray 60)).heap.size) := Lib.hid (by simp)
        have HK2 : Hid (∀ W, Below (wr.alloc (.cells (encC x).toArray 60)).heap.size (wr.alloc (.cells (encC x).toArray 60)) W → (loadVar 60 ⟨wr.heap.size, 0, none⟩).run Try.prog W = .ok (.agg (encC x).toArray) W ∧ RowK encC 22 W g off dk ∧ w0.grownBy W (some g)) := Lib.hid (fun W hW => by
          have h1 := hbo.trans (hW.mono hbo.size)
          exact ⟨load60 (row_range ((hW.block _ HAR.out).trans (heap_alloc_new wr (.cells (encC x).toArray 60)))), rowK_bel HRR.out (h1.block g hgl) h1.size, grownBy_trans HB.out (grown_of_bel h1 _)⟩)
        by_cases hpx : p x = true
        · rw [hpx] at HC
          have HKS : Hid (keepC p (L.take (j + 1)) = keepC p (L.take j)) := Lib.hid (by rw [keepC_snoc p L j hjL, ← hx, if_pos hpx])
          have HFIN : Hid (∀ W, Below (wr.alloc (.cells (encC x).toArray 60)).heap.size (wr.alloc (.cells (encC x).toArray 60)) W → i = (keepC p (L.take (j + 1))).length ∧ dk.size = n ∧ (∀ (q : Nat) (x : Con), (keepC p (L.take (j + 1)))[q]? = some x → dk[q]! = x) ∧ (∀ q (hq : q < L.length), j + 1 ≤ q → dk[q]! = L[q]) ∧ RowK encC 22 W g off dk ∧ w0.grownBy W (some g)) := Lib.hid (fun W hW => by
            rw [HKS.out]
            exact ⟨HIL.out, HDS.out, HLOW.out, fun q hq h => HHIGH.out q hq (by omega), (HK2.out W hW).2⟩)
          clear hx hbo hpx HKS HK2 HIL HLOW HHIGH HRR HAR hjL
          go_wp2_with (first
            | ((with_reducible refine wpList_loadV (op := ⟨some 25, _, _, _, _, _⟩) rfl 60 (.tmp 24) rfl _ ?_ _ HLD.out ?_); rfl)
            | (with_reducible refine wpList_alloc60 (o := ⟨some 7, _, _, _, _, _⟩) rfl 7 rfl rfl ?_)
            | ((with_reducible refine wpList_store60 (o := ⟨none, _, _, _, _, _⟩) rfl (.tmp 7) (.tmp 25) rfl default x ?_ ?_ ?_); rfl; rfl)
            | ((with_reducible refine wpList_loadV (op := ⟨some 27, _, _, _, _, _⟩) rfl 60 (.tmp 7) rfl _ ?_ _ HLX.out ?_); rfl)
            | ((with_reducible refine wpList_callV (o := ⟨some 28, _, _, _, _, _⟩) rfl f lb (.tmp 26) rfl ?_ HE.out #[.agg (encC x).toArray] ?_ ?_); rfl; (simp only [List.map_toArray, List.map_cons, List.map_nil]; rfl); (with_reducible refine HC.out.mono ?_); rintro e w2 ⟨rfl, hb2⟩; refine ⟨_, rfl, ?_⟩))
          go_roundg (n - (j + 1))
          case measure => omega
          case rel => exact ⟨i, j + 1, dk, rfl, by go_num, by omega, by omega, Nat.le_refl _, HFIN.out _ hb2⟩
        · have hpx' : p x = false := by simpa using hpx
          rw [hpx'] at HC
          have HKS : Hid (keepC p (L.take (j + 1)) = keepC p (L.take j) ++ [x]) := Lib.hid (by rw [keepC_snoc p L j hjL, ← hx, if_neg hpx])
          have HTH : Hid (∀ W, Below (wr.alloc (.cells (encC x).toArray 60)).heap.size (wr.alloc (.cells (encC x).toArray 60)) W → W.there g (off + i * 22) 22) := Lib.hid (fun W hW => by
            have := rowK_there (HK2.out W hW).2.1 i 1 (by have := HDS.out; omega)
            rwa [Nat.one_mul] at this)
          have HFIN : Hid (∀ W, Below (wr.alloc (.cells (encC x).toArray 60)).heap.size (wr.alloc (.cells (encC x).toArray 60)) W → i + 1 = (keepC p (L.take (j + 1))).length ∧ (dk.setIfInBounds i x).size = n ∧ (∀ (q : Nat) (z : Con), (keepC p (L.take (j + 1)))[q]? = some z → (dk.setIfInBounds i x)[q]! = z) ∧ (∀ q (hq : q < L.length), j + 1 ≤ q → (dk.setIfInBounds i x)[q]! = L[q]) ∧ RowK encC 22 (W.setCells g (off + i * 22) (encC x)) g off (dk.setIfInBounds i x) ∧ w0.grownBy (W.setCells g (off + i * 22) (encC x)) (some g)) := Lib.hid (fun W hW => by
            have hid : i < dk.size := by have := HDS.out; omega
            obtain ⟨_, k2, k3⟩ := HK2.out W hW
            obtain ⟨m1, m2⟩ := rowK_put k2 i hid x
            have hl := HIL.out
            refine ⟨by rw [HKS.out, List.length_append, List.length_singleton, ← hl], by rw [Array.size_setIfInBounds]; exact HDS.out, fun q z hz => ?_, fun q hq h => ?_, m1, grownBy_trans k3 m2⟩
            · rw [get_set! dk i q x hid]
              rw [HKS.out] at hz
              by_cases hqi : q = i
              · rw [if_pos hqi]
                rw [List.getElem?_append_right (by omega), show q - (keepC p (L.take j)).length = 0 by omega] at hz
                simpa using hz
              · rw [if_neg hqi]
                have hql := (List.getElem?_eq_some_iff.1 hz).1
                rw [List.length_append, List.length_singleton] at hql
                rw [List.getElem?_append_left (by omega)] at hz
                exact HLOW.out q z hz
            · rw [get_set! dk i q x hid, if_neg (by omega)]
              exact HHIGH.out q hq (by omega))
          clear hx hbo hpx hpx' HKS HIL HLOW HHIGH HRR HAR hjL
          have hin : (i : Int) < (n : Int) := by omega
          go_wp2_with (first
            | ((with_reducible refine wpList_loadV (op := ⟨some 25, _, _, _, _, _⟩) rfl 60 (.tmp 24) rfl _ ?_ _ HLD.out ?_); rfl)
            | (with_reducible refine wpList_alloc60 (o := ⟨some 7, _, _, _, _, _⟩) rfl 7 rfl rfl ?_)
            | ((with_reducible refine wpList_store60 (o := ⟨none, _, _, _, _, _⟩) rfl (.tmp 7) (.tmp 25) rfl default x ?_ ?_ ?_); rfl; rfl)
            | ((with_reducible refine wpList_loadV (op := ⟨some 27, _, _, _, _, _⟩) rfl 60 (.tmp 7) rfl _ ?_ _ HLX.out ?_); rfl)
            | ((with_reducible refine wpList_callV (o := ⟨some 28, _, _, _, _, _⟩) rfl f lb (.tmp 26) rfl ?_ HE.out #[.agg (encC x).toArray] ?_ ?_); rfl; (simp only [List.map_toArray, List.map_cons, List.map_nil]; rfl); (with_reducible refine HC.out.mono ?_); rintro e w2 ⟨rfl, hb2⟩; refine ⟨_, rfl, ?_⟩)
            | ((with_reducible refine wpList_loadV (op := ⟨some 32, _, _, _, _, _⟩) rfl 60 (.tmp 7) rfl _ ?_ _ (HK2.out _ hb2).1 ?_); rfl)
            | ((with_reducible refine wpList_store60at (o := ⟨none, _, _, _, _, _⟩) rfl (.tmp 33) (.tmp 32) rfl g (off + i * 22) x ?_ ?_ (HTH.out _ hb2) ?_); rfl; rfl))
          go_roundg (n - (j + 1))
          case measure => omega
          case rel => exact ⟨i + 1, j + 1, _, by go_num, by go_num, by omega, by omega, Nat.le_refl _, HFIN.out _ hb2⟩
      · obtain rfl : j = n := by omega
        have hkc : i ≤ cap := by omega
        have hkc2 : ¬ cap = i := by omega
        have hkc3 : i ≤ j := by omega
        have HKL : Hid (L.take j = L) := Lib.hid (by rw [HN.out, List.take_length])
        have HFIN : Hid (i = (keepC p L).length ∧ ∀ vs : List Value, ComIs encC g off g w0 (keepC p L) (wr.setCells g (off + i * 22) vs)) := by
          refine Lib.hid ?_
          have hk1 := HIL.out
          have hl := HLOW.out
          rw [HKL.out] at hk1 hl
          refine ⟨hk1, fun vs => ?_⟩
          have hrg := swk_range (SWK.start HRR.out.hH) HRR.out rfl (by omega) (keepC p L) (by have := HDS.out; omega) hl
          refine ⟨fun q v hv => ?_, ?_, ?_⟩
          · have hq := (List.getElem?_eq_some_iff.1 hv).1
            rw [flatE_length encC_length, ← hk1] at hq
            rw [World.cell?_setCells_out g vs (off + i * 22) wr ⟨g, off + q, none⟩ (fun _ _ => .inl (by simp; omega))]
            exact hrg q v hv
          · rw [size_setCells]; exact HRR.out.hblk
          · have hg9 := grown_cells vs (off + i * 22) wr HB.out
            exact ⟨hg9.os, hg9.tape, hg9.output, hg9.size, fun q hq => hg9.block q (by omega) (by intro e; injection e with e; omega)⟩
        have HTH : Hid (wr.there g (off + i * 22) ((j - i) * 22)) := Lib.hid (rowK_there HRR.out i (j - i) (by have := HDS.out; omega))
        have hz := zV60
        have hZs : (encC default).toArray.size = 22 := by simp [encC_length]
        have hZ1 : ∀ v ∈ (encC default).toArray, v.oneCell' = true := fun v hv => encC_one default v (by simpa using hv)
        have HZ := Lib.hid hz
        have HZS := Lib.hid hZs
        have HZ1 : Hid (∀ v ∈ (encC default).toArray, v.oneCell' = true) := Lib.hid hZ1
        clear hz hZs hZ1 HIL HLOW HHIGH HRR HKL
        generalize (encC default).toArray = Z at HZ HZS HZ1
        go_wp2_with (first
          | ((with_reducible refine wpList_clear_con 22 Z HZ.out HZS.out (by omega) HZ1.out (o := ⟨none, _, _, _, _, _⟩) rfl (.tmp 38) rfl g (off + i * 22) (j - i) (cap - i) ?_ HTH.out ?_); rfl; intro vs hvs))
        go_ret
        rw [← HFIN.out.1]
        exact ⟨rfl, HFIN.out.2 vs⟩
end Go.Proofs.Ytbfhfnbhfeedbaa
end
section
namespace Go.Proofs.Ytbfhfnbhfeedbaa
open Go.Shelf Go.RowKit Go.Lib Go.Sort Go.Great
set_option maxRecDepth 100000
set_option maxHeartbeats 1000000
/-- What Without tells. -/
def WoIs (t : IDv) (L : List Con) (w : World) (e : Ending) (w' : World) : Prop := ∃ A c, e = .returned (.slice A (keepC (isC t) L).length c) ∧ CAt w' w'.heap.size A (keepC (isC t) L) ∧ (A = none ∨ ∃ g off, A = some ⟨g, off, none⟩) ∧ Below w.heap.size w w'
theorem delf_none (c : Nat) (p : Nat) (w : World) : Calls Try.prog 76 #[.slice none 0 c, hasF p] w fun e w' => e = .returned (.slice none 0 c) ∧ Below w.heap.size w w' := by
  have HI : Hid (Calls Try.prog 74 #[.slice none 0 c, hasF p] w fun e w' => e = .returned (.int .i64 (-1)) ∧ w' = w) := by
    refine Lib.hid ?_
    unfold hasF
    go_enter Try.func74, Try.ntmps74
    go_wp2
    go_loopg [8] 0 (fun _ s wr => s = .int .i64 0 ∧ wr = w)
    case atStart => exact ⟨rfl, rfl⟩
    case round =>
      obtain ⟨rfl, rfl⟩ := hrel
      go_wp2
      go_ret
      exact ⟨rfl, rfl⟩
  unfold hasF at *
  go_enter Try.func76, Try.ntmps76
  go_wp2_with (first | (go_at_call 74; (with_reducible refine HI.out.mono ?_); rintro e w1 ⟨rfl, rfl⟩))
  go_ret
  exact ⟨rfl, Below.refl _ _⟩
theorem cwithout_any (t : IDv) (A : Option Addr) (c : Nat) (L : List Con) (w : World) (hL : L.length ≤ 10000) (hA : CAt w w.heap.size A L) (hA2 : A = none ∨ ∃ g off, A = some ⟨g, off, none⟩) :
    Calls Try.prog 42 #[.slice A L.length c, .agg (encID t).toArray] w (WoIs t L w) := by
  obtain ⟨T, hT⟩ : ∃ T, T = (encID t).toArray := ⟨_, rfl⟩
  have hb0 : Below w.heap.size w (w.alloc (.cells T 55)) := (Below.refl _ w).alloc (Nat.le_refl _) _
  obtain ⟨W0, hW0⟩ : ∃ W0, W0 = w.alloc (.cells T 55) := ⟨_, rfl⟩
  have h0 := heap_alloc_new w (.cells T 55)
  rw [← hW0] at hb0 h0
  have hA0 := (hA.below hb0).more hb0.size
  have g0 := (Array.getElem?_eq_some_iff.1 h0).1
  have HLT : Hid (∀ W, Below W0.heap.size W0 W → (loadVar 55 ⟨w.heap.size, 0, none⟩).run Try.prog W = .ok (.agg T) W) := Lib.hid (fun W h => by
    rw [hT] at h0 ⊢
    exact range_load26 (row_range ((h.block _ g0).trans h0)))
  have H1 : Hid (∀ W, Below W0.heap.size W0 W → Calls Try.prog 67 #[.slice A L.length c] W fun e w1 => ∃ A1 c1, e = .returned (.slice A1 L.length c1) ∧ w1.ownsRow W0.heap.size 60 22 (.slice A1 L.length c1) L.length (flatE encC L) ∧ Below W0.heap.size W0 w1) := by
    refine Lib.hid (fun W hW => (cloneC_any A c L W hL ((hA0.below hW).more hW.size) hA2).mono ?_)
    rintro e w1 ⟨v, rfl, ho, hb⟩
    obtain ⟨A1, c1, rfl, _, _, _, _⟩ := own_formC ho
    exact ⟨A1, c1, rfl, own_baseC ho hW.size, hW.trans (hb.mono hW.size)⟩
  have H2 : Hid (∀ W, Calls Try.prog 75 #[.agg T] W fun e w' => e = .returned (hasF W.heap.size) ∧ w' = W.alloc (.cells T 55)) := Lib.hid (fun W => by rw [hT]; exact hasid_any t W)
  have H3 : Hid (∀ w1 A1 c1, w1.ownsRow W0.heap.size 60 22 (.slice A1 L.length c1) L.length (flatE encC L) → Below W0.heap.size W0 w1 → Calls Try.prog 76 #[.slice A1 L.length c1, hasF w1.heap.size] (w1.alloc (.cells T 55)) fun e w2 => ∃ A2 c2, e = .returned (.slice A2 (keepC (isC t) L).length c2) ∧ WoIs t L w (.returned (.slice A2 (keepC (isC t) L).length c2)) w2 ∧ Below W0.heap.size W0 w2) := by
    refine Lib.hid (fun w1 A1 c1 ho hb => ?_)
    have hb1 : Below w1.heap.size w1 (w1.alloc (.cells T 55)) := (Below.refl _ w1).alloc (Nat.le_refl _) _
    have hbw : Below w.heap.size w W0 := hb0
    obtain ⟨A1', c1', hv, hn1, hcap, hcm, hform⟩ := own_formC ho
    injection hv with e1 e2 e3
    subst e1 e3
    rcases hform with ⟨rfl, rfl, rfl⟩ | ⟨g, rfl, hbg, hgw, hrg⟩
    · refine (delf_none 0 w1.heap.size _).mono ?_
      rintro e w2 ⟨rfl, hb2⟩
      have hb9 := hb.trans ((hb1.trans (hb2.mono hb1.size)).mono hb.size)
      exact ⟨none, 0, rfl, ⟨none, 0, rfl, .inl rfl, .inl rfl, hbw.trans (hb9.mono hbw.size)⟩, hb9⟩
    · have ht := there_ownC ho
      have R1 : RowK encC 22 w1 g 0 L.toArray := ⟨encC_length, encC_one, holdsC hrg ht, hgw⟩
      have R2 : RowK encC 22 (w1.alloc (.cells T 55)) g 0 L.toArray := rowK_bel R1 (hb1.block g hgw) hb1.size
      have hn := heap_alloc_new w1 (.cells T 55)
      have hp9 : w1.heap.size < (w1.alloc (.cells T 55)).heap.size := by simp
      have eg : ∀ args w, (callFunc 100 args).run Try.prog w = .ok (.enter 100 args) w := enters_of Try.func100 (by kernel_rfl) rfl
      refine (delf_any (isC t) 100 #[.pointer (some ⟨w1.heap.size, 0, none⟩)] eg g 0 c1 L _ hL (fun W x hW => ?_) R2 hcap hcm).mono ?_
      · refine (clo100_g t x w1.heap.size W (Nat.lt_of_lt_of_le hp9 hW.size) ?_).mono ?_
        · have hn' := hn
          rw [hT] at hn'
          have hk := hW.block w1.heap.size hp9 (by intro e; injection e with e; omega)
          rw [hT] at hk
          exact row_range (hk.trans hn')
        · rintro e w' ⟨rfl, hg⟩
          exact ⟨rfl, hg.1⟩
      · rintro e w2 ⟨rfl, hr2, hg2, hb2⟩
        have hb8 := hb.trans (hb1.mono hb.size)
        have hb9 := hb8.trans (hb2.mono hbg)
        exact ⟨some ⟨g, 0, none⟩, c1, rfl, ⟨some ⟨g, 0, none⟩, c1, rfl, .inr ⟨g, 0, rfl, hg2, hr2⟩, .inr ⟨g, 0, rfl⟩, hbw.trans (hb9.mono hbw.size)⟩, hb9⟩
  have HW := Lib.hid hW0
  rw [← hT]
  obtain ⟨n, hn⟩ : ∃ n, n = L.length := ⟨_, rfl⟩
  rw [← hn] at H1 H3 ⊢
  clear hA hA0 hA2 hb0 h0 g0 hW0 hT hL hn
  go_enter Try.func42, Try.ntmps42
  go_upto_region 1 with fail
  rw [← HW.out]
  clear HW
  have hS0 : Below W0.heap.size W0 W0.drew := (Below.refl _ W0).drew
  refine wp_region_noPanic ?_
  refine wp_region_held_drew (S := fun w' => Below W0.heap.size W0 w') (by kernel_rfl) hS0 (fun hHeld => ?_)
  refine takeH_at 0 5 (v := ?_) rfl rfl (by kernel_rfl) (by kernel_rfl) (by kernel_rfl) (fun _ _ _ h => h) (Or.inl ⟨by rfl, ?_⟩) (by assumption) ?_
  rotate_left
  · (intro wx hSw; (try dsimp only at hSw); go_simp) <;> with_reducible rfl
  simp only [Act.put, List.setIfInBounds_toArray, List.set_cons_zero, List.set_cons_succ]
  refine takeH_at 2 7 (v := .agg T) rfl rfl (by kernel_rfl) (by kernel_rfl) (by kernel_rfl) (fun _ _ _ h => h) (yieldsIf_loadP (by rfl) 55 (.tmp 3) rfl ⟨w.heap.size, 0, none⟩ rfl _ (fun w hw => HLT.out w hw)) (by assumption) ?_
  simp only [Act.put, List.setIfInBounds_toArray, List.set_cons_zero, List.set_cons_succ]
  refine wpAnyH_ready (rs := [1]) (by kernel_rfl) (by simp) ?_
  refine AllReadyH.cons rfl (fun K hK => ?_) ?_
  · go_simp
    go_wp2_with (go_at_call 67; (with_reducible refine (H1.out _ hS0).mono ?_); rintro e w1 ⟨A1, c1, rfl, ho1, hb1⟩)
    refine hK.out _ _ (by assumption) (fun hHeld => ?_)
    clear hK K
    refine wpAnyH_ready (rs := [3]) (by kernel_rfl) (by simp) ?_
    refine AllReadyH.cons rfl (fun K hK => ?_) ?_
    · go_simp
      have hb2 : Below W0.heap.size W0 (w1.alloc (.cells T 55)) := hb1.alloc hb1.size _
      go_wp2_with (go_at_call 75; (with_reducible refine (H2.out _).mono ?_); rintro e w2 ⟨rfl, rfl⟩)
      refine hK.out _ _ (by assumption) (fun hHeld => ?_)
      clear hK K
      refine wpAnyH_ready (rs := [4]) (by kernel_rfl) (by simp) ?_
      refine AllReadyH.cons rfl (fun K hK => ?_) ?_
      · go_simp
        go_wp2_with (go_at_call 76; (with_reducible refine (H3.out _ _ _ ho1 hb1).mono ?_); rintro e w3 ⟨A3, c3, rfl, hw3, hb3⟩)
        refine hK.out _ _ (by assumption) (fun hHeld => ?_)
        clear hK K
        refine takeH_at 5 4 (v := ?_) rfl rfl (by kernel_rfl) (by kernel_rfl) (by kernel_rfl) (fun _ _ _ h => h) (Or.inl ⟨by rfl, ?_⟩) (by assumption) ?_
        rotate_left
        · (intro wx hSw; (try dsimp only at hSw); go_simp) <;> with_reducible rfl
        simp only [Act.put, List.setIfInBounds_toArray, List.set_cons_zero, List.set_cons_succ]
        refine wpAnyH_done (by kernel_rfl) ?_ _
        refine NoPanic.normal ?_
        go_wp2
        go_ret
        exact hw3
      exact AllReadyH.nil
    exact AllReadyH.nil
  exact AllReadyH.nil
end Go.Proofs.Ytbfhfnbhfeedbaa
end
