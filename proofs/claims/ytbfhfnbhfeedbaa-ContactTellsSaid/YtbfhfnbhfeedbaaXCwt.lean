/- The walk of the statement ContactTells: it answers true. No condition. -/
import Derived.Test.YtbfhfnbhfeedbaaXCre
import Derived.Test.YtbfhfnbhfeedbaaXCwb
namespace Go.Proofs.Ytbfhfnbhfeedbaa
open Go.Shelf Go.RowKit Go.Lib Go.Sort Go.Great
set_option maxRecDepth 100000
set_option maxHeartbeats 2000000
/-- Two that may come now, and nothing else may ahead of both. -/
theorem diamond {P : Program} {md : Region.Mode} {ops : Array Oper} {Q : Exit → Act → World → Prop} {S : World → Prop} (i j di dj : Nat) {oi oj : Oper} {fuel : Nat} {listed : Array Bool} {a : Act} {w : World}
    (hi : ops[i]? = some oi) (hj : ops[j]? = some oj) (hdi : oi.dst = some di) (hdj : oj.dst = some dj)
    (hs : Region.noSelect ops = true) (hr : Region.ready md ops listed = [i, j]) (hri : Region.ready md ops (listed.setIfInBounds i true) = [j]) (hrj : Region.ready md ops (listed.setIfInBounds j true) = [i])
    (hne : i ≠ j) (hij : oi.apart ops oj = true) (hji : oj.apart ops oi = true) (wi : Region.wanted oi (yielded ops a.tmps) = true) (wj : Region.wanted oj (yielded ops a.tmps) = true)
    (X Y : Value → World → Prop) (hX : ∀ v w w', Below w.heap.size w w' → X v w → X v w') (hY : ∀ v w w', Below w.heap.size w w' → Y v w → Y v w')
    (li : Loose P oi a S X) (lj : Loose P oj a S Y) (hw : S w)
    (h : ∀ u v w', S w' → Below w.heap.size w w' → X u w' → Y v w' → wpAnyH P md ops Q S fuel ((listed.setIfInBounds i true).setIfInBounds j true) ((a.put (some di) u).put (some dj) v) w') : wpAnyH P md ops Q S (fuel + 1 + 1) listed a w := by
  refine wpAnyH_ready hr (by simp) ?_
  refine AllReadyH.cons hi (fun K hK => ?_) (AllReadyH.cons hj (fun K hK => ?_) AllReadyH.nil)
  · rw [if_pos wi]
    refine li.wp hw (fun u w1 hs1 hb1 hx => hK.out _ _ hs1 (fun _ => ?_))
    refine wpAnyH_ready hri (by simp) (AllReadyH.cons hj (fun K hK => ?_) AllReadyH.nil)
    rw [if_pos (by rw [wanted_put oj a oi.dst u (Oper.apart_spec hij).1]; exact wj)]
    refine (lj.put hs hj hij u).wp hs1 (fun v w2 hs2 hb2 hy => hK.out _ _ hs2 (fun _ => ?_))
    rw [hdi, hdj]
    exact h u v w2 hs2 (hb1.trans (hb2.mono hb1.size)) (hX _ _ _ hb2 hx) hy
  · rw [if_pos wj]
    refine lj.wp hw (fun v w1 hs1 hb1 hy => hK.out _ _ hs1 (fun _ => ?_))
    refine wpAnyH_ready hrj (by simp) (AllReadyH.cons hi (fun K hK => ?_) AllReadyH.nil)
    rw [if_pos (by rw [wanted_put oi a oj.dst v (Oper.apart_spec hji).1]; exact wi)]
    refine (li.put hs hi hji v).wp hs1 (fun u w2 hs2 hb2 hx => hK.out _ _ hs2 (fun _ => ?_))
    rw [Array.setIfInBounds_comm _ _ (Ne.symm hne), hdi, hdj]
    have e := Act.put_comm a u v (Oper.apart_spec hij).2.1
    rw [hdi, hdj] at e
    first
      | (rw [e]; exact h u v w2 hs2 (hb1.trans (hb2.mono hb1.size)) hx (hY _ _ _ hb2 hy))
      | (rw [← e]; exact h u v w2 hs2 (hb1.trans (hb2.mono hb1.size)) hx (hY _ _ _ hb2 hy))
theorem looseR_imp {P : Program} {w : World} {S : World → Prop} {X Y : Value → World → Prop} {r : Result Next} (hXY : ∀ v w', X v w' → Y v w') (h : LooseR P w S X r) : LooseR P w S Y r := by
  cases r with
  | halt x w' => exact h
  | ok n w' =>
    cases n <;> simp only [LooseR] at h ⊢
    case value v => exact ⟨h.1, h.2.1, hXY _ _ h.2.2⟩
    case enter f args => exact ⟨h.1, h.2.mono (by rintro e w'' ⟨v, rfl, h1, h2, h3⟩; exact ⟨v, rfl, h1, h2, hXY _ _ h3⟩)⟩
theorem wpAnyH_mono {P : Program} {md : Region.Mode} {ops : Array Oper} {Q : Exit → Act → World → Prop} {S S' : World → Prop} (hSS : ∀ w, S' w → S w) : ∀ (fuel : Nat) (listed : Array Bool) (a : Act) (w : World), wpAnyH P md ops Q S' fuel listed a w → wpAnyH P md ops Q S fuel listed a w
  | 0, _, _, _, h => h
  | fuel + 1, _, _, _, h => ⟨h.1, fun i hi => wpOp_mono (fun a' w' h' => ⟨hSS _ h'.1, wpAnyH_mono hSS fuel _ a' w' h'.2⟩) (h.2 i hi)⟩
theorem exec_convB {ρ : Operand → Value} {o : Oper} (x : Operand) (ho : o.op = .convert 22 9 x) (u : Value) (hx : ρ x = u) (s : ByteArray) (W : World) (hc : (convert 22 9 u).run Try.prog W = .ok (.string s) W) : (execOp ρ o).run Try.prog W = .ok (.value (.string s)) W := by
  unfold execOp
  simp only [ho, hx, Sem.run_bind, hc, Result.andThen_ok, Sem.run_pure]
theorem conv_bs {xs : List UInt8} {v : Value} {W : World} (h : BsIs xs v W) : (convert 22 9 v).run Try.prog W = .ok (.string (bstr xs)) W := by
  obtain ⟨A, k, rfl, _, hA⟩ := h
  exact run_convert_bat 22 9 5 k Try.underlying22 Try.underlying5 Try.underlying9 hA
theorem zV64 (W : World) : (zeroValue 64).run Try.prog W = .ok (.agg (encID zID).toArray) W := by kernel_rfl
theorem loose_alloc64 {o : Oper} {a : Act} {W0 : World} (ho : o.op = .alloc 64) : Loose Try.prog o a (fun w' => Below W0.heap.size W0 w') (fun v W => ∃ b, v = .pointer (some ⟨b, 0, none⟩) ∧ W0.heap.size ≤ b ∧ W.heap[b]? = some (.cells (encID zID).toArray 64 (0, 0))) := fun W hW =>
  looseR_imp (fun v w' h => ⟨W.heap.size, h.1, hW.size, by rw [h.2]; exact heap_alloc_new W _⟩) (looseR_alloc 64 ho (encID zID).toArray zV64 (hW.alloc hW.size _))
theorem CAt.ne_short {w : World} {B g : Nat} {A : Option Addr} {L : List Con} {cs : Array Value} {t : TypeId} (h : CAt w B A L) (hg : w.heap[g]? = some (.cells cs t (0, 0))) (hs : cs.size < 22) : ∀ g' off, A = some ⟨g', off, none⟩ → L ≠ [] → g' ≠ g := by
  rintro g' off rfl hL rfl
  rcases h with h | ⟨g2, off2, he, _, hr⟩
  · exact hL h
  · injection he with he
    injection he with e1 e2
    subst e1 e2
    have hl : 21 < (flatE encC L).length := by
      rw [flatE_length encC_length]
      have := List.length_pos_iff.2 hL
      omega
    have h1 := hr 21 _ (List.getElem?_eq_getElem hl)
    rw [cell_of_row w g' _ _ t (0, 0) hg, Array.getElem?_eq_none (by omega)] at h1
    cases h1
theorem CAt.grownS {w w' : World} {B x : Nat} {A : Option Addr} {L : List Con} (hA : CAt w B A L) (hB : B ≤ w.heap.size) (hg : w.grownBy w' (some x)) (hne : ∀ g' off, A = some ⟨g', off, none⟩ → L ≠ [] → g' ≠ x) : CAt w' B A L := by
  by_cases hL : L = []
  · exact .inl hL
  · rcases hA with h | ⟨g, off, rfl, hlt, hr⟩
    · exact absurd h hL
    · exact .inr ⟨g, off, rfl, hlt, rangeAt_below hr (hg.block g (by omega) (by intro e; have := hne g off rfl hL; first | (injection e with e; omega) | (injection e.symm with e; omega)))⟩
/-- What ContactTells has in memory. -/
structure CTW (w : World) (c : Con) (t : IDv) (L : List Con) (b8 : Nat) (A7 : Option Addr) (W : World) : Prop where
  h3 : W.heap[w.heap.size]? = some (.cells (encC c).toArray 60 (0, 0))
  h5 : W.heap[w.heap.size + 1]? = some (.cells (encID t).toArray 55 (0, 0))
  h8 : W.heap[b8]? = some (.cells (encID t).toArray 64 (0, 0))
  hp : CAt W W.heap.size A7 L
  be : Below w.heap.size w W
section
variable {w W W' : World} {c : Con} {t : IDv} {L : List Con} {b8 : Nat} {A7 : Option Addr}
theorem CTW.bel (r : CTW w c t L b8 A7 W) (hb : Below W.heap.size W W') : CTW w c t L b8 A7 W' :=
  ⟨(hb.block _ (Array.getElem?_eq_some_iff.1 r.h3).1).trans r.h3, (hb.block _ (Array.getElem?_eq_some_iff.1 r.h5).1).trans r.h5, (hb.block _ (Array.getElem?_eq_some_iff.1 r.h8).1).trans r.h8, (r.hp.below hb).more hb.size, r.be.trans (hb.mono r.be.size)⟩
end
theorem ctells_big (c : Con) (t : IDv) (Al : Option Addr) (cl n : Nat) (w : World) (h : 80 < n) :
    Calls Try.prog 7 #[.agg (encC c).toArray, .slice Al n cl, .agg (encID t).toArray] w fun e w' => e = .returned (.bool true) ∧ Below w.heap.size w w' := by
  obtain ⟨_, _, hb⟩ := heap2 w (.cells (encC c).toArray 60) (.cells (encID t).toArray 55)
  have HB := Lib.hid hb
  have H28 := Lib.hid (fun W => clives_any W)
  have h' : (80 : Int) < (n : Int) := by omega
  generalize (encC c).toArray = X at HB ⊢
  generalize (encID t).toArray = T at HB ⊢
  clear hb
  go_enter Try.func7, Try.ntmps7
  go_wp2_with (first | (go_at_call 28; (with_reducible refine (H28.out _).mono ?_); rintro e w1 ⟨rfl, hb1⟩))
  go_ret
  exact ⟨rfl, HB.out.trans (hb1.mono HB.out.size)⟩
theorem ctells_walk (c : Con) (t : IDv) (Al : Option Addr) (cl : Nat) (L : List Con) (w : World) (hA : CAt w w.heap.size Al L) (hA2 : Al = none ∨ ∃ g off, Al = some ⟨g, off, none⟩) :
    Calls Try.prog 7 #[.agg (encC c).toArray, .slice Al L.length cl, .agg (encID t).toArray] w fun e w' => e = .returned (.bool true) ∧ Below w.heap.size w w' := by
  by_cases hbig : 80 < L.length
  · exact ctells_big c t Al cl L.length w hbig
  have h80 : ¬ (80 : Int) < (L.length : Int) := by omega
  have hL : L.length ≤ 10000 := by omega
  obtain ⟨k1, k2, hb0⟩ := heap2 w (.cells (encC c).toArray 60) (.cells (encID t).toArray 55)
  obtain ⟨W0, hW0⟩ : ∃ W0, W0 = (w.alloc (.cells (encC c).toArray 60)).alloc (.cells (encID t).toArray 55) := ⟨_, rfl⟩
  rw [← hW0] at k1 k2 hb0
  have HA := Lib.hid hA
  have hl1 := (Array.getElem?_eq_some_iff.1 k1).1
  have hl2 := (Array.getElem?_eq_some_iff.1 k2).1
  have HLD5 : Hid (∀ W, Below W0.heap.size W0 W → (loadVar 55 ⟨w.heap.size + 1, 0, none⟩).run Try.prog W = .ok (.agg (encID t).toArray) W) := Lib.hid (fun W hW => range_load26 (row_range ((hW.block _ hl2).trans k2)))
  have F29 : Hid (∀ W, Below W0.heap.size W0 W → Calls Try.prog 29 #[.slice Al L.length cl] W fun e w' => ∃ v, e = .returned v ∧ Below W0.heap.size W0 w' ∧ Below W.heap.size W w' ∧ ∃ A k, v = .slice A L.length k ∧ CAt w' w'.heap.size A L) := by
    refine Lib.hid (fun W hW => (plain_any Al cl L W hL ((hA.below (hb0.trans (hW.mono hb0.size))).more (hb0.trans (hW.mono hb0.size)).size)).mono ?_)
    rintro e w' ⟨v, rfl, ho, hb⟩
    obtain ⟨A, k, rfl, _, hc, _⟩ := own_formE ho
    exact ⟨_, rfl, hW.trans (hb.mono hW.size), hb, A, k, rfl, hc⟩
  have HST : Hid (∀ W b8 A7, Below W0.heap.size W0 W → W0.heap.size ≤ b8 → W.heap[b8]? = some (.cells (encID zID).toArray 64 (0, 0)) → CAt W W.heap.size A7 L → W.there b8 0 (encID t).toArray.size ∧ Below W0.heap.size W0 (W.setCells b8 0 (encID t).toArray.toList) ∧ CTW w c t L b8 A7 (W.setCells b8 0 (encID t).toArray.toList)) := by
    refine Lib.hid (fun W b8 A7 hW hb8 h8 hc => ?_)
    have hz : (encID zID).length = 20 := encID_length zID
    have ht : (encID t).length = 20 := encID_length t
    have hth := row_there h8
    rw [hz] at hth
    have hg : W.grownBy (W.setCells b8 0 (encID t)) (some b8) := grown_cells (encID t) 0 W (World.grownBy.refl W _)
    have hn8 := heap_setCells_row b8 64 (encID t) 0 (encID zID) W h8 (by omega)
    have hb9 : Below W0.heap.size W0 (W.setCells b8 0 (encID t)) := below_cellsE hb8 _ _ _ hW
    refine ⟨by rw [List.size_toArray, ht]; exact hth, hb9, ?_⟩
    show CTW w c t L b8 A7 (W.setCells b8 0 (encID t))
    refine ⟨(hb9.block _ hl1).trans k1, (hb9.block _ hl2).trans k2, ?_, (hc.grownS (Nat.le_refl _) hg (hc.ne_short h8 (by simp; omega))).more hg.size, hb0.trans (hb9.mono hb0.size)⟩
    rw [hn8, List.take_zero, List.nil_append, List.drop_of_length_le (by omega), List.append_nil]
  obtain ⟨lst, hlst⟩ : ∃ l, l = if goodC (ctsC L) then listC (ctsC L) else [] := ⟨_, rfl⟩
  obtain ⟨e9, he9⟩ : ∃ i : Int, i = if goodC (ctsC L) then 0 else 2 := ⟨_, rfl⟩
  have H30 : Hid (∀ W b8 A7, CTW w c t L b8 A7 W → Calls Try.prog 30 #[.slice Al L.length cl] W fun e w' => ∃ v, e = .returned (.tuple #[v, .int .i64 e9]) ∧ BsIs lst v w' ∧ CTW w c t L b8 A7 w') := by
    refine Lib.hid (fun W b8 A7 r => (clist_any Al cl L W hL ((hA.below r.be).more r.be.size) hA2).mono ?_)
    rintro e w' ⟨v, rfl, ho, hb⟩
    exact ⟨v, by rw [he9], by rw [hlst]; exact BsIs.of_own ho, r.bel hb⟩
  have H31 : Hid (∀ W b8 A7 k v9, CTW w c t L b8 A7 W → BsIs lst v9 W → Calls Try.prog 31 #[.slice A7 L.length k] W fun e w' => ∃ v, e = .returned (.tuple #[v, .int .i64 e9]) ∧ BsIs lst v w' ∧ BsIs lst v9 w' ∧ CTW w c t L b8 A7 w') := by
    refine Lib.hid (fun W b8 A7 k v9 r h9 => (rclist_any A7 k L W hL r.hp).mono ?_)
    rintro e w' ⟨v, rfl, ho, hb⟩
    exact ⟨v, by rw [he9], by rw [hlst]; exact BsIs.of_own ho, BsIs.keep _ _ _ hb h9, r.bel hb⟩
  obtain ⟨gd, hgd⟩ : ∃ b, b = ctGood c.1 := ⟨_, rfl⟩
  obtain ⟨bc, hbc⟩ : ∃ b, b = ctB c.1 := ⟨_, rfl⟩
  have F32 : Hid (∀ W6 W, Below W6.heap.size W6 W → Calls Try.prog 32 #[.agg (encC c).toArray] W fun e w' => ∃ v, e = .returned v ∧ Below W6.heap.size W6 w' ∧ Below W.heap.size W w' ∧ v = .bool gd) := Lib.hid (fun W6 W hW => (cgood_any c W).mono (by rintro e w' ⟨rfl, q⟩; exact ⟨_, rfl, hW.trans (q.mono hW.size), q, by rw [hgd]⟩))
  have F33 : Hid (∀ W6 W, Below W6.heap.size W6 W → Calls Try.prog 33 #[.agg (encC c).toArray] W fun e w' => ∃ v, e = .returned v ∧ Below W6.heap.size W6 w' ∧ Below W.heap.size W w' ∧ v = .bool gd) := Lib.hid (fun W6 W hW => (rcgood_any c W).mono (by rintro e w' ⟨rfl, q⟩; exact ⟨_, rfl, hW.trans (q.mono hW.size), q, by rw [hgd]⟩))
  have F34 : Hid (∀ W6 W, Below W6.heap.size W6 W → Calls Try.prog 34 #[.agg (encC c).toArray] W fun e w' => ∃ v, e = .returned v ∧ Below W6.heap.size W6 w' ∧ Below W.heap.size W w' ∧ v = .agg (encC c).toArray) := Lib.hid (fun W6 W hW => (one_any c W).mono (by rintro e w' ⟨rfl, q⟩; exact ⟨_, rfl, hW.trans (q.mono hW.size), q, rfl⟩))
  have F35 : Hid (∀ W6 W, Below W6.heap.size W6 W → Calls Try.prog 35 #[.agg (encC c).toArray] W fun e w' => ∃ v, e = .returned v ∧ Below W6.heap.size W6 w' ∧ Below W.heap.size W w' ∧ BsIs bc v w') := Lib.hid (fun W6 W hW => (cbytes_any c W).mono (by rintro e w' ⟨v, rfl, o, q⟩; exact ⟨_, rfl, hW.trans (q.mono hW.size), q, by rw [hbc]; exact BsIs.of_own o⟩))
  have F36 : Hid (∀ W6 W, Below W6.heap.size W6 W → Calls Try.prog 36 #[.agg (encC c).toArray] W fun e w' => ∃ v, e = .returned v ∧ Below W6.heap.size W6 w' ∧ Below W.heap.size W w' ∧ BsIs bc v w') := Lib.hid (fun W6 W hW => (rcbytes_any c W).mono (by rintro e w' ⟨v, rfl, o, q⟩; exact ⟨_, rfl, hW.trans (q.mono hW.size), q, by rw [hbc]; exact BsIs.of_own o⟩))
  have HCV : Hid (∀ xs v W W', BsIs xs v W → Below W.heap.size W W' → (convert 22 9 v).run Try.prog W' = .ok (.string (bstr xs)) W') := Lib.hid (fun xs v W W' h hb => conv_bs (BsIs.keep _ _ _ hb h))
  obtain ⟨M, hM⟩ : ∃ M, M = srtG (kC t) [] L := ⟨_, rfl⟩
  obtain ⟨N, hN⟩ : ∃ N, N = keepC (isC t) L := ⟨_, rfl⟩
  obtain ⟨ix, hix⟩ : ∃ i, i = idxP (isC t) L := ⟨_, rfl⟩
  obtain ⟨iy, hiy⟩ : ∃ i, i = idxP (isC (idC c)) L := ⟨_, rfl⟩
  have hMl : M.length ≤ 10000 := by rw [hM]; have := srtG_le0 t L; omega
  have hNl : N.length ≤ 10000 := by rw [hN]; have := keepC_le (isC t) L; omega
  have G38 : Hid (∀ W8 b8 A7, CTW w c t L b8 A7 W8 → ∀ W, Below W8.heap.size W8 W → Calls Try.prog 38 #[.agg (encID t).toArray, .slice Al L.length cl] W fun e w' => ∃ v, e = .returned v ∧ Below W8.heap.size W8 w' ∧ Below W.heap.size W w' ∧ ∃ A k, v = .slice A M.length k ∧ CAt w' w'.heap.size A M) := by
    refine Lib.hid (fun W8 b8 A7 r W hW => ?_)
    have r2 := r.bel hW
    refine (csort_any t Al cl L W hL ((hA.below r2.be).more r2.be.size) hA2).mono ?_
    rintro e w' ⟨A, k, rfl, _, hc, _, q⟩
    exact ⟨_, rfl, hW.trans (q.mono hW.size), q, A, k, by rw [hM], by rw [hM]; exact hc⟩
  have G39 : Hid (∀ W8 b8 A7 k7, CTW w c t L b8 A7 W8 → ∀ W, Below W8.heap.size W8 W → Calls Try.prog 39 #[.agg (encID t).toArray, .slice A7 L.length k7] W fun e w' => ∃ v, e = .returned v ∧ Below W8.heap.size W8 w' ∧ Below W.heap.size W w' ∧ ∃ A k, v = .slice A M.length k ∧ CAt w' w'.heap.size A M) := by
    refine Lib.hid (fun W8 b8 A7 k7 r W hW => ?_)
    have r2 := r.bel hW
    refine (rcsort_any t A7 k7 L W hL r2.hp).mono ?_
    rintro e w' ⟨v, rfl, ho, q⟩
    rw [← hM] at ho
    obtain ⟨A, k, rfl, _, hc, _⟩ := own_formE ho
    exact ⟨_, rfl, hW.trans (q.mono hW.size), q, A, k, rfl, hc⟩
  have G37 : Hid (∀ (W8 : World) (Z : List Con) (A1 : Option Addr) (c1 : Nat) (A3 : Option Addr) (c3 : Nat), Z.length ≤ 10000 → ∀ W, Below W8.heap.size W8 W → CAt W W.heap.size A1 Z → CAt W W.heap.size A3 Z → Calls Try.prog 37 #[.slice A1 Z.length c1, .slice A3 Z.length c3] W fun e w' => ∃ v, e = .returned v ∧ Below W8.heap.size W8 w' ∧ Below W.heap.size W w' ∧ v = .bool true) := by
    refine Lib.hid (fun W8 Z A1 c1 A3 c3 hZ W hW h1 h3 => (csame_at A1 A3 c1 c3 Z W hZ h1 h3).mono ?_)
    rintro e w' ⟨rfl, q⟩
    exact ⟨_, rfl, hW.trans (q.mono hW.size), q, rfl⟩
  have G40 : Hid (∀ W8 b8 A7, CTW w c t L b8 A7 W8 → ∀ W, Below W8.heap.size W8 W → Calls Try.prog 40 #[.slice Al L.length cl, .agg (encID t).toArray] W fun e w' => ∃ v, e = .returned v ∧ Below W8.heap.size W8 w' ∧ Below W.heap.size W w' ∧ v = .int .i64 ix) := by
    refine Lib.hid (fun W8 b8 A7 r W hW => ?_)
    have r2 := r.bel hW
    refine (cfind_any Al cl L t W hL ((hA.below r2.be).more r2.be.size)).mono ?_
    rintro e w' ⟨rfl, q⟩
    exact ⟨_, rfl, hW.trans (q.mono hW.size), q, by rw [hix]⟩
  have G41 : Hid (∀ W8 b8 A7 k7, CTW w c t L b8 A7 W8 → ∀ W, Below W8.heap.size W8 W → Calls Try.prog 41 #[.slice A7 L.length k7, .agg (encID t).toArray] W fun e w' => ∃ v, e = .returned v ∧ Below W8.heap.size W8 w' ∧ Below W.heap.size W w' ∧ v = .int .i64 ix) := by
    refine Lib.hid (fun W8 b8 A7 k7 r W hW => ?_)
    have r2 := r.bel hW
    refine (rfind_any A7 k7 L t W hL r2.hp).mono ?_
    rintro e w' ⟨rfl, q⟩
    exact ⟨_, rfl, hW.trans (q.mono hW.size), q, by rw [hix]⟩
  have G40c : Hid (∀ W8 b8 A7, CTW w c t L b8 A7 W8 → ∀ W, Below W8.heap.size W8 W → Calls Try.prog 40 #[.slice Al L.length cl, .agg (encID (idC c)).toArray] W fun e w' => ∃ v, e = .returned v ∧ Below W8.heap.size W8 w' ∧ Below W.heap.size W w' ∧ v = .int .i64 iy) := by
    refine Lib.hid (fun W8 b8 A7 r W hW => ?_)
    have r2 := r.bel hW
    refine (cfind_any Al cl L (idC c) W hL ((hA.below r2.be).more r2.be.size)).mono ?_
    rintro e w' ⟨rfl, q⟩
    exact ⟨_, rfl, hW.trans (q.mono hW.size), q, by rw [hiy]⟩
  have G41c : Hid (∀ W8 b8 A7 k7, CTW w c t L b8 A7 W8 → ∀ W, Below W8.heap.size W8 W → Calls Try.prog 41 #[.slice A7 L.length k7, .agg (encID (idC c)).toArray] W fun e w' => ∃ v, e = .returned v ∧ Below W8.heap.size W8 w' ∧ Below W.heap.size W w' ∧ v = .int .i64 iy) := by
    refine Lib.hid (fun W8 b8 A7 k7 r W hW => ?_)
    have r2 := r.bel hW
    refine (rfind_any A7 k7 L (idC c) W hL r2.hp).mono ?_
    rintro e w' ⟨rfl, q⟩
    exact ⟨_, rfl, hW.trans (q.mono hW.size), q, by rw [hiy]⟩
  have G42 : Hid (∀ W8 b8 A7, CTW w c t L b8 A7 W8 → ∀ W, Below W8.heap.size W8 W → Calls Try.prog 42 #[.slice Al L.length cl, .agg (encID t).toArray] W fun e w' => ∃ v, e = .returned v ∧ Below W8.heap.size W8 w' ∧ Below W.heap.size W w' ∧ ∃ A k, v = .slice A N.length k ∧ CAt w' w'.heap.size A N) := by
    refine Lib.hid (fun W8 b8 A7 r W hW => ?_)
    have r2 := r.bel hW
    refine (cwithout_any t Al cl L W hL ((hA.below r2.be).more r2.be.size) hA2).mono ?_
    rintro e w' ⟨A, k, rfl, hc, _, q⟩
    exact ⟨_, rfl, hW.trans (q.mono hW.size), q, A, k, by rw [hN], by rw [hN]; exact hc⟩
  have G43 : Hid (∀ W8 b8 A7 k7, CTW w c t L b8 A7 W8 → ∀ W, Below W8.heap.size W8 W → Calls Try.prog 43 #[.slice A7 L.length k7, .agg (encID t).toArray] W fun e w' => ∃ v, e = .returned v ∧ Below W8.heap.size W8 w' ∧ Below W.heap.size W w' ∧ ∃ A k, v = .slice A N.length k ∧ CAt w' w'.heap.size A N) := by
    refine Lib.hid (fun W8 b8 A7 k7 r W hW => ?_)
    have r2 := r.bel hW
    refine (rcwithout_any t A7 k7 L W hL r2.hp).mono ?_
    rintro e w' ⟨v, rfl, ho, q⟩
    rw [← hN] at ho
    obtain ⟨A, k, rfl, _, hc, _⟩ := own_formE ho
    exact ⟨_, rfl, hW.trans (q.mono hW.size), q, A, k, rfl, hc⟩
  have G28 : Hid (∀ W8 W, Below W8.heap.size W8 W → Calls Try.prog 28 #[] W fun e w' => ∃ v, e = .returned v ∧ Below W8.heap.size W8 w' ∧ Below W.heap.size W w' ∧ v = .bool true) := Lib.hid (fun W8 W hW => (clives_any W).mono (by rintro e w' ⟨rfl, q⟩; exact ⟨_, rfl, hW.trans (q.mono hW.size), q, rfl⟩))
  have HLD : Hid (∀ W8 b8 A7, CTW w c t L b8 A7 W8 → ∀ W, Below W8.heap.size W8 W → (loadVar 60 ⟨w.heap.size, 0, none⟩).run Try.prog W = .ok (.agg (encC c).toArray) W ∧ (loadVar 55 ⟨w.heap.size + 1, 0, none⟩).run Try.prog W = .ok (.agg (encID t).toArray) W ∧ (loadVar 64 ⟨b8, 0, none⟩).run Try.prog W = .ok (.agg (encID t).toArray) W ∧ (loadVar 55 ⟨w.heap.size, 0, none⟩).run Try.prog W = .ok (.agg (encID (idC c)).toArray) W) := Lib.hid (fun W8 b8 A7 r W hW => by
    have r2 := r.bel hW
    exact ⟨load60 (row_range r2.h3), range_load26 (row_range r2.h5), range_load42 (row_range r2.h8), range_load26 (range_idC (row_range r2.h3))⟩)
  have HB0 := Lib.hid hb0
  have HW := Lib.hid hW0
  have HALL : Hid ((Try.prog.info? 64).map (·.size) = some (encID t).toArray.size ∧ (encID t).toArray.all (·.oneCell') = true) := Lib.hid ⟨by rw [List.size_toArray, encID_length]; kernel_rfl, by
    rw [Array.all_eq_true_iff_forall_mem]
    intro v hv
    exact bcells_oneC _ v (by simpa [encID] using hv)⟩
  have HML := Lib.hid hMl
  have HNL := Lib.hid hNl
  generalize (encC c).toArray = X at *
  generalize (encID (idC c)).toArray = IC at *
  generalize (encID t).toArray = T at *
  obtain ⟨n, hn⟩ : ∃ n, n = L.length := ⟨_, rfl⟩
  rw [← hn] at F29 H30 H31 G38 G39 G40 G41 G40c G41c G42 G43 h80 ⊢
  clear hA hA2 hbig hL k1 k2 hb0 hW0 hl1 hl2 hlst he9 hgd hbc hM hN hix hiy hMl hNl hn
  go_enter Try.func7, Try.ntmps7
  go_upto_region 3 with fail
  rw [← HW.out]
  clear HW
  have hS0 : Below W0.heap.size W0 W0.drew := (Below.refl _ W0).drew
  refine wp_region_noPanic ?_
  refine wp_region_held_drew (S := fun w' => Below W0.heap.size W0 w') (by kernel_rfl) hS0 (fun hHeld => ?_)
  refine takeH_at 0 17 (v := ?_) rfl rfl (by kernel_rfl) (by kernel_rfl) (by kernel_rfl) (fun _ _ _ h => h) (Or.inl ⟨by rfl, ?_⟩) (by assumption) ?_
  rotate_left
  · (intro wx hSw; clear hSw; go_simp) <;> with_reducible rfl
  simp only [Act.put, List.setIfInBounds_toArray, List.set_cons_zero, List.set_cons_succ]
  refine takeH_at 2 19 (v := .agg T) rfl rfl (by kernel_rfl) (by kernel_rfl) (by kernel_rfl) (fun _ _ _ h => h) (yieldsIf_loadP (by rfl) 55 (.tmp 5) rfl ⟨w.heap.size + 1, 0, none⟩ rfl _ (fun w hw => HLD5.out w hw)) (by assumption) ?_
  simp only [Act.put, List.setIfInBounds_toArray, List.set_cons_zero, List.set_cons_succ]
  refine diamond 1 3 18 8 rfl rfl rfl rfl (by kernel_rfl) (by kernel_rfl) (by kernel_rfl) (by kernel_rfl) (by omega) (by kernel_rfl) (by kernel_rfl) (by rfl) (by rfl) (fun v W => ∃ A k, v = .slice A n k ∧ CAt W W.heap.size A L) (fun v W => ∃ b, v = .pointer (some ⟨b, 0, none⟩) ∧ W0.heap.size ≤ b ∧ W.heap[b]? = some (.cells (encID zID).toArray 64 (0, 0))) (fun v w w' hb h => by obtain ⟨A, k, e, h⟩ := h; exact ⟨A, k, e, (h.below hb).more hb.size⟩) (fun v w w' hb h => by obtain ⟨b, e, hB, h⟩ := h; exact ⟨b, e, hB, (hb.block b (Array.getElem?_eq_some_iff.1 h).1).trans h⟩) (fun W hW => looseR_call 29 rfl (enters_of Try.func29 (by kernel_rfl) rfl) _ (by simp only [List.map_toArray, List.map_cons, List.map_nil]; rfl) (F29.out W hW)) (loose_alloc64 rfl) hS0 ?_
  rintro v18 v8 w3 hS3 hb3 ⟨A7, k7, rfl, hc7⟩ ⟨b8, rfl, hB8, h8⟩
  simp only [Act.put, List.setIfInBounds_toArray, List.set_cons_zero, List.set_cons_succ]
  refine takeH_at 4 7 (v := ?_) rfl rfl (by kernel_rfl) (by kernel_rfl) (by kernel_rfl) (fun _ _ _ h => h) (Or.inl ⟨by rfl, ?_⟩) (by assumption) ?_
  rotate_left
  · (intro wx hSw; clear hSw; go_simp) <;> with_reducible rfl
  simp only [Act.put, List.setIfInBounds_toArray, List.set_cons_zero, List.set_cons_succ]
  obtain ⟨hth8, hS4, R4⟩ := HST.out _ _ _ hS3 hB8 h8 hc7
  refine wpAnyH_ready (rs := [5]) (by kernel_rfl) (by simp) (AllReadyH.cons rfl (fun K hK => ?_) AllReadyH.nil)
  rw [if_pos (by rfl)]
  refine wp_store_mid 64 (.tmp 8) (.tmp 19) rfl b8 0 T rfl rfl hth8 HALL.out.1 HALL.out.2 ?_
  refine hK.out _ _ hS4 (fun _ => ?_)
  clear hK K
  simp only [Act.put]
  refine wpAnyH_done (by kernel_rfl) ?_ _
  refine NoPanic.normal ?_
  generalize w3.setCells b8 0 T.toList = w4 at R4 ⊢
  clear hHeld hS0 hS3 hb3 hc7 hB8 h8 hth8 hS4 HST F29 HLD5 HALL
  go_wp2_with (first
    | (go_at_call 30; (with_reducible refine (H30.out _ _ _ R4).mono ?_); rintro e w5 ⟨v9, rfl, hv9, R5⟩)
    | (go_at_call 31; (with_reducible refine (H31.out _ _ _ _ _ R5 hv9).mono ?_); rintro e w6 ⟨v11, rfl, hv11, hv96, R6⟩))
  clear R4 R5 hv9 H30 H31
  have C9 : Hid (∀ W, Below w6.heap.size w6 W → (convert 22 9 v9).run Try.prog W = .ok (.string (bstr lst)) W) := Lib.hid (fun W hW => HCV.out _ _ _ _ hv96 hW)
  have C11 : Hid (∀ W, Below w6.heap.size w6 W → (convert 22 9 v11).run Try.prog W = .ok (.string (bstr lst)) W) := Lib.hid (fun W hW => HCV.out _ _ _ _ hv11 hW)
  have L60 : Hid (∀ W, Below w6.heap.size w6 W → (loadVar 60 ⟨w.heap.size, 0, none⟩).run Try.prog W = .ok (.agg X) W) := Lib.hid (fun W hW => (HLD.out _ _ _ R6 W hW).1)
  generalize bstr lst = str at C9 C11
  obtain ⟨strc, hstrc⟩ : ∃ s, s = bstr bc := ⟨_, rfl⟩
  have HCV2 : Hid (∀ v W W', BsIs bc v W → Below W.heap.size W W' → (convert 22 9 v).run Try.prog W' = .ok (.string strc) W') := Lib.hid (fun v W W' h hb => by rw [hstrc]; exact HCV.out _ _ _ _ h hb)
  have R6H := Lib.hid R6
  clear hv96 hv11 HCV hstrc R6
  have hgg : (gd == gd) = true := by simp
  have hS6 : Below w6.heap.size w6 w6.drew := (Below.refl _ w6).drew
  refine wp_region_noPanic ?_
  refine wp_region_held_drew (S := fun w' => Below w6.heap.size w6 w') (by kernel_rfl) hS6 (fun hHeld => ?_)
  refine takeH_at 0 30 (v := ?_) rfl rfl (by kernel_rfl) (by kernel_rfl) (by kernel_rfl) (fun _ _ _ h => h) (Or.inl ⟨by rfl, ?_⟩) (by assumption) ?_
  rotate_left
  · (intro wx hSw; clear hSw; go_simp) <;> with_reducible rfl
  simp only [Act.put, List.setIfInBounds_toArray, List.set_cons_zero, List.set_cons_succ]
  refine takeH_at 1 31 (v := .string str) rfl rfl (by kernel_rfl) (by kernel_rfl) (by kernel_rfl) (fun _ _ _ h => h) (Or.inl ⟨by rfl, fun w hw => exec_convB (.tmp 30) rfl v9 rfl str w (C9.out w hw)⟩) (by assumption) ?_
  simp only [Act.put, List.setIfInBounds_toArray, List.set_cons_zero, List.set_cons_succ]
  refine takeH_at 2 32 (v := ?_) rfl rfl (by kernel_rfl) (by kernel_rfl) (by kernel_rfl) (fun _ _ _ h => h) (Or.inl ⟨by rfl, ?_⟩) (by assumption) ?_
  rotate_left
  · (intro wx hSw; clear hSw; go_simp) <;> with_reducible rfl
  simp only [Act.put, List.setIfInBounds_toArray, List.set_cons_zero, List.set_cons_succ]
  refine takeH_at 3 33 (v := .string str) rfl rfl (by kernel_rfl) (by kernel_rfl) (by kernel_rfl) (fun _ _ _ h => h) (Or.inl ⟨by rfl, fun w hw => exec_convB (.tmp 32) rfl v11 rfl str w (C11.out w hw)⟩) (by assumption) ?_
  simp only [Act.put, List.setIfInBounds_toArray, List.set_cons_zero, List.set_cons_succ]
  refine takeH_at 4 34 (v := .bool false) rfl rfl (by kernel_rfl) (by kernel_rfl) (by kernel_rfl) (fun _ _ _ h => h) (Or.inl ⟨by rfl, ?_⟩) (by assumption) ?_
  · (intro wx hSw; clear hSw; go_simp) <;> (first | done | rfl | simp)
  simp only [Act.put, List.setIfInBounds_toArray, List.set_cons_zero, List.set_cons_succ]
  refine takeH_at 5 35 (v := ?_) rfl rfl (by kernel_rfl) (by kernel_rfl) (by kernel_rfl) (fun _ _ _ h => h) (Or.inl ⟨by rfl, ?_⟩) (by assumption) ?_
  rotate_left
  · (intro wx hSw; clear hSw; go_simp) <;> with_reducible rfl
  simp only [Act.put, List.setIfInBounds_toArray, List.set_cons_zero, List.set_cons_succ]
  refine takeH_at 6 36 (v := ?_) rfl rfl (by kernel_rfl) (by kernel_rfl) (by kernel_rfl) (fun _ _ _ h => h) (Or.inl ⟨by rfl, ?_⟩) (by assumption) ?_
  rotate_left
  · (intro wx hSw; clear hSw; go_simp) <;> with_reducible rfl
  simp only [Act.put, List.setIfInBounds_toArray, List.set_cons_zero, List.set_cons_succ]
  refine takeH_at 7 37 (v := ?_) rfl rfl (by kernel_rfl) (by kernel_rfl) (by kernel_rfl) (fun _ _ _ h => h) (Or.inl ⟨by rfl, ?_⟩) (by assumption) ?_
  rotate_left
  · (intro wx hSw; clear hSw; go_simp) <;> with_reducible rfl
  simp only [Act.put, List.setIfInBounds_toArray, List.set_cons_zero, List.set_cons_succ]
  refine takeH_at 8 38 (v := .bool false) rfl rfl (by kernel_rfl) (by kernel_rfl) (by kernel_rfl) (fun _ _ _ h => h) (Or.inl ⟨by rfl, ?_⟩) (by assumption) ?_
  · (intro wx hSw; clear hSw; go_simp) <;> (first | done | rfl | simp)
  simp only [Act.put, List.setIfInBounds_toArray, List.set_cons_zero, List.set_cons_succ]
  refine takeH_at 9 39 (v := .bool false) rfl rfl (by kernel_rfl) (by kernel_rfl) (by kernel_rfl) (fun _ _ _ h => h) (Or.inl ⟨by rfl, ?_⟩) (by assumption) ?_
  · (intro wx hSw; clear hSw; go_simp) <;> (first | done | rfl | simp)
  simp only [Act.put, List.setIfInBounds_toArray, List.set_cons_zero, List.set_cons_succ]
  refine takeH_at 10 40 (v := ?_) rfl rfl (by kernel_rfl) (by kernel_rfl) (by kernel_rfl) (fun _ _ _ h => h) (Or.inl ⟨by rfl, ?_⟩) (by assumption) ?_
  rotate_left
  · (intro wx hSw; clear hSw; go_simp) <;> with_reducible rfl
  simp only [Act.put, List.setIfInBounds_toArray, List.set_cons_zero, List.set_cons_succ]
  refine takeH_at 11 41 (v := .agg X) rfl rfl (by kernel_rfl) (by kernel_rfl) (by kernel_rfl) (fun _ _ _ h => h) (yieldsIf_loadP (by rfl) 60 (.tmp 3) rfl ⟨w.heap.size, 0, none⟩ rfl _ (fun w hw => L60.out w hw)) (by assumption) ?_
  simp only [Act.put, List.setIfInBounds_toArray, List.set_cons_zero, List.set_cons_succ]
  refine takeH_at 13 43 (v := .agg X) rfl rfl (by kernel_rfl) (by kernel_rfl) (by kernel_rfl) (fun _ _ _ h => h) (yieldsIf_loadP (by rfl) 60 (.tmp 3) rfl ⟨w.heap.size, 0, none⟩ rfl _ (fun w hw => L60.out w hw)) (by assumption) ?_
  simp only [Act.put, List.setIfInBounds_toArray, List.set_cons_zero, List.set_cons_succ]
  refine single 12 42 rfl rfl (by kernel_rfl) (by rfl) (fun v _ => v = .bool gd) (looseR_call 32 rfl (enters_of Try.func32 (by kernel_rfl) rfl) _ (by simp only [List.map_toArray, List.map_cons, List.map_nil]; rfl) (F32.out _ _ hHeld)) ?_
  intro u42 wa hSa hba hu
  subst hu
  simp only [Act.put, List.setIfInBounds_toArray, List.set_cons_zero, List.set_cons_succ]
  refine single 14 44 rfl rfl (by kernel_rfl) (by rfl) (fun v _ => v = .agg X) (looseR_call 34 rfl (enters_of Try.func34 (by kernel_rfl) rfl) _ (by simp only [List.map_toArray, List.map_cons, List.map_nil]; rfl) (F34.out _ _ hSa)) ?_
  intro u44 wb hSb hbb hu
  subst hu
  simp only [Act.put, List.setIfInBounds_toArray, List.set_cons_zero, List.set_cons_succ]
  refine single 15 45 rfl rfl (by kernel_rfl) (by rfl) (fun v _ => v = .bool gd) (looseR_call 33 rfl (enters_of Try.func33 (by kernel_rfl) rfl) _ (by simp only [List.map_toArray, List.map_cons, List.map_nil]; rfl) (F33.out _ _ hSb)) ?_
  intro u45 wc hSc hbc2 hu
  subst hu
  simp only [Act.put, List.setIfInBounds_toArray, List.set_cons_zero, List.set_cons_succ]
  refine takeH_at 16 46 (v := .bool false) rfl rfl (by kernel_rfl) (by kernel_rfl) (by kernel_rfl) (fun _ _ _ h => h) (Or.inl ⟨by rfl, ?_⟩) (by assumption) ?_
  · (intro wx hSw; clear hSw; go_simp) <;> (first | done | rfl | simp)
  simp only [Act.put, List.setIfInBounds_toArray, List.set_cons_zero, List.set_cons_succ]
  refine takeH_at 17 47 (v := .bool false) rfl rfl (by kernel_rfl) (by kernel_rfl) (by kernel_rfl) (fun _ _ _ h => h) (Or.inl ⟨by rfl, ?_⟩) (by assumption) ?_
  · (intro wx hSw; clear hSw; go_simp) <;> (first | done | rfl | simp)
  simp only [Act.put, List.setIfInBounds_toArray, List.set_cons_zero, List.set_cons_succ]
  refine takeH_at 18 48 (v := ?_) rfl rfl (by kernel_rfl) (by kernel_rfl) (by kernel_rfl) (fun _ _ _ h => h) (Or.inl ⟨by rfl, ?_⟩) (by assumption) ?_
  rotate_left
  · (intro wx hSw; clear hSw; go_simp) <;> with_reducible rfl
  simp only [Act.put, List.setIfInBounds_toArray, List.set_cons_zero, List.set_cons_succ]
  refine takeH_at 19 49 (v := .agg X) rfl rfl (by kernel_rfl) (by kernel_rfl) (by kernel_rfl) (fun _ _ _ h => h) (yieldsIf_loadP (by rfl) 60 (.tmp 3) rfl ⟨w.heap.size, 0, none⟩ rfl _ (fun w hw => L60.out w hw)) (by assumption) ?_
  simp only [Act.put, List.setIfInBounds_toArray, List.set_cons_zero, List.set_cons_succ]
  refine takeH_at 22 52 (v := .agg X) rfl rfl (by kernel_rfl) (by kernel_rfl) (by kernel_rfl) (fun _ _ _ h => h) (yieldsIf_loadP (by rfl) 60 (.tmp 3) rfl ⟨w.heap.size, 0, none⟩ rfl _ (fun w hw => L60.out w hw)) (by assumption) ?_
  simp only [Act.put, List.setIfInBounds_toArray, List.set_cons_zero, List.set_cons_succ]
  refine single 20 50 rfl rfl (by kernel_rfl) (by rfl) (fun v w' => BsIs bc v w') (looseR_call 35 rfl (enters_of Try.func35 (by kernel_rfl) rfl) _ (by simp only [List.map_toArray, List.map_cons, List.map_nil]; rfl) (F35.out _ _ hSc)) ?_
  intro v50 wd hSd hbd hv50
  simp only [Act.put, List.setIfInBounds_toArray, List.set_cons_zero, List.set_cons_succ]
  refine wpAnyH_mono (S' := fun W => Below wd.heap.size wd W) (fun W h => hSd.trans (h.mono hSd.size)) _ _ _ _ ?_
  have hself : Below wd.heap.size wd wd := Below.refl _ _
  refine takeH_at 21 51 (v := .string strc) rfl rfl (by kernel_rfl) (by kernel_rfl) (by kernel_rfl) (fun _ _ _ h => h) (Or.inl ⟨by rfl, fun w hw => exec_convB (.tmp 50) rfl v50 rfl strc w (HCV2.out _ _ _ hv50 hw)⟩) (by assumption) ?_
  simp only [Act.put, List.setIfInBounds_toArray, List.set_cons_zero, List.set_cons_succ]
  refine single 23 53 rfl rfl (by kernel_rfl) (by rfl) (fun v _ => v = .agg X) (looseR_call 34 rfl (enters_of Try.func34 (by kernel_rfl) rfl) _ (by simp only [List.map_toArray, List.map_cons, List.map_nil]; rfl) (F34.out _ _ hself)) ?_
  intro u53 we hSe hbe hu
  subst hu
  simp only [Act.put, List.setIfInBounds_toArray, List.set_cons_zero, List.set_cons_succ]
  refine single 24 54 rfl rfl (by kernel_rfl) (by rfl) (fun v w' => BsIs bc v w') (looseR_call 36 rfl (enters_of Try.func36 (by kernel_rfl) rfl) _ (by simp only [List.map_toArray, List.map_cons, List.map_nil]; rfl) (F36.out _ _ hSe)) ?_
  intro v54 wf hSf hbf hv54
  simp only [Act.put, List.setIfInBounds_toArray, List.set_cons_zero, List.set_cons_succ]
  refine wpAnyH_mono (S' := fun W => Below wf.heap.size wf W) (fun W h => hSf.trans (h.mono hSf.size)) _ _ _ _ ?_
  have hself2 : Below wf.heap.size wf wf := Below.refl _ _
  refine takeH_at 25 55 (v := .string strc) rfl rfl (by kernel_rfl) (by kernel_rfl) (by kernel_rfl) (fun _ _ _ h => h) (Or.inl ⟨by rfl, fun w hw => exec_convB (.tmp 54) rfl v54 rfl strc w (HCV2.out _ _ _ hv54 hw)⟩) (by assumption) ?_
  simp only [Act.put, List.setIfInBounds_toArray, List.set_cons_zero, List.set_cons_succ]
  refine takeH_at 26 56 (v := .bool false) rfl rfl (by kernel_rfl) (by kernel_rfl) (by kernel_rfl) (fun _ _ _ h => h) (Or.inl ⟨by rfl, ?_⟩) (by assumption) ?_
  · (intro wx hSw; clear hSw; go_simp) <;> (first | done | rfl | simp)
  simp only [Act.put, List.setIfInBounds_toArray, List.set_cons_zero, List.set_cons_succ]
  refine takeH_at 27 57 (v := .bool false) rfl rfl (by kernel_rfl) (by kernel_rfl) (by kernel_rfl) (fun _ _ _ h => h) (Or.inl ⟨by rfl, ?_⟩) (by assumption) ?_
  · (intro wx hSw; clear hSw; go_simp) <;> (first | done | rfl | simp)
  simp only [Act.put, List.setIfInBounds_toArray, List.set_cons_zero, List.set_cons_succ]
  refine wpAnyH_done (by kernel_rfl) ?_ _
  refine NoPanic.normal ?_
  have R8 := R6H.out.bel (hSd.trans (hSf.mono hSd.size))
  have R8H := Lib.hid R8
  have L55 : Hid (∀ W, Below wf.heap.size wf W → (loadVar 55 ⟨w.heap.size + 1, 0, none⟩).run Try.prog W = .ok (.agg T) W) := Lib.hid (fun W hW => (HLD.out _ _ _ R8 W hW).2.1)
  have L64 : Hid (∀ W, Below wf.heap.size wf W → (loadVar 64 ⟨b8, 0, none⟩).run Try.prog W = .ok (.agg T) W) := Lib.hid (fun W hW => (HLD.out _ _ _ R8 W hW).2.2.1)
  have L55c : Hid (∀ W, Below wf.heap.size wf W → (loadVar 55 ⟨w.heap.size, 0, none⟩).run Try.prog W = .ok (.agg IC) W) := Lib.hid (fun W hW => (HLD.out _ _ _ R8 W hW).2.2.2)
  clear R8 hself2 hself hv54 hv50 hbf hSf hbe hSe hbd hSd hbc2 hSc hbb hSb hba hSa hHeld hS6 L60 C9 C11 F32 F33 F34 F35 F36 HCV2 R6H HLD
  go_upto_region 8 with fail
  have hS8 : Below wf.heap.size wf wf.drew := (Below.refl _ wf).drew
  refine wp_region_noPanic ?_
  refine wp_region_held_drew (S := fun w' => Below wf.heap.size wf w') (by kernel_rfl) hS8 (fun hHeld => ?_)
  refine takeH_at 0 58 (v := .agg T) rfl rfl (by kernel_rfl) (by kernel_rfl) (by kernel_rfl) (fun _ _ _ h => h) (yieldsIf_loadP (by rfl) 55 (.tmp 5) rfl ⟨w.heap.size + 1, 0, none⟩ rfl _ (fun w hw => L55.out w hw)) (by assumption) ?_
  simp only [Act.put, List.setIfInBounds_toArray, List.set_cons_zero, List.set_cons_succ]
  refine takeH_at 1 59 (v := ?_) rfl rfl (by kernel_rfl) (by kernel_rfl) (by kernel_rfl) (fun _ _ _ h => h) (Or.inl ⟨by rfl, ?_⟩) (by assumption) ?_
  rotate_left
  · (intro wx hSw; clear hSw; go_simp) <;> with_reducible rfl
  simp only [Act.put, List.setIfInBounds_toArray, List.set_cons_zero, List.set_cons_succ]
  refine takeH_at 3 61 (v := .agg T) rfl rfl (by kernel_rfl) (by kernel_rfl) (by kernel_rfl) (fun _ _ _ h => h) (yieldsIf_loadP (by rfl) 64 (.tmp 8) rfl ⟨b8, 0, none⟩ rfl _ (fun w hw => L64.out w hw)) (by assumption) ?_
  simp only [Act.put, List.setIfInBounds_toArray, List.set_cons_zero, List.set_cons_succ]
  refine takeH_at 4 62 (v := ?_) rfl rfl (by kernel_rfl) (by kernel_rfl) (by kernel_rfl) (fun _ _ _ h => h) (Or.inl ⟨by rfl, ?_⟩) (by assumption) ?_
  rotate_left
  · (intro wx hSw; clear hSw; go_simp) <;> with_reducible rfl
  simp only [Act.put, List.setIfInBounds_toArray, List.set_cons_zero, List.set_cons_succ]
  refine single 2 60 rfl rfl (by kernel_rfl) (by rfl) (fun v w' => ∃ A k, v = .slice A M.length k ∧ CAt w' w'.heap.size A M) (looseR_call 38 rfl (enters_of Try.func38 (by kernel_rfl) rfl) _ (by simp only [List.map_toArray, List.map_cons, List.map_nil]; rfl) (G38.out _ _ _ R8H.out _ hHeld)) ?_
  rintro _ wa hSa hba ⟨Aa, ka, rfl, hca⟩
  simp only [Act.put, List.setIfInBounds_toArray, List.set_cons_zero, List.set_cons_succ]
  refine single 5 63 rfl rfl (by kernel_rfl) (by rfl) (fun v w' => ∃ A k, v = .slice A M.length k ∧ CAt w' w'.heap.size A M) (looseR_call 39 rfl (enters_of Try.func39 (by kernel_rfl) rfl) _ (by simp only [List.map_toArray, List.map_cons, List.map_nil]; rfl) (G39.out _ _ _ _ R8H.out _ hSa)) ?_
  rintro _ wb hSb hbb ⟨Ab, kb, rfl, hcb⟩
  simp only [Act.put, List.setIfInBounds_toArray, List.set_cons_zero, List.set_cons_succ]
  refine single 6 64 rfl rfl (by kernel_rfl) (by rfl) (fun v _ => v = .bool true) (looseR_call 37 rfl (enters_of Try.func37 (by kernel_rfl) rfl) _ (by simp only [List.map_toArray, List.map_cons, List.map_nil]; rfl) (G37.out _ _ _ _ _ _ HML.out _ hSb ((hca.below hbb).more hbb.size) hcb)) ?_
  intro u64 wc hSc hbc2 hu
  subst hu
  simp only [Act.put, List.setIfInBounds_toArray, List.set_cons_zero, List.set_cons_succ]
  refine takeH_at 7 65 (v := ?_) rfl rfl (by kernel_rfl) (by kernel_rfl) (by kernel_rfl) (fun _ _ _ h => h) (Or.inl ⟨by rfl, ?_⟩) (by assumption) ?_
  rotate_left
  · (intro wx hSw; clear hSw; go_simp) <;> with_reducible rfl
  simp only [Act.put, List.setIfInBounds_toArray, List.set_cons_zero, List.set_cons_succ]
  refine takeH_at 8 66 (v := ?_) rfl rfl (by kernel_rfl) (by kernel_rfl) (by kernel_rfl) (fun _ _ _ h => h) (Or.inl ⟨by rfl, ?_⟩) (by assumption) ?_
  rotate_left
  · (intro wx hSw; clear hSw; go_simp) <;> with_reducible rfl
  simp only [Act.put, List.setIfInBounds_toArray, List.set_cons_zero, List.set_cons_succ]
  refine takeH_at 9 67 (v := .agg T) rfl rfl (by kernel_rfl) (by kernel_rfl) (by kernel_rfl) (fun _ _ _ h => h) (yieldsIf_loadP (by rfl) 55 (.tmp 5) rfl ⟨w.heap.size + 1, 0, none⟩ rfl _ (fun w hw => L55.out w hw)) (by assumption) ?_
  simp only [Act.put, List.setIfInBounds_toArray, List.set_cons_zero, List.set_cons_succ]
  refine takeH_at 11 69 (v := ?_) rfl rfl (by kernel_rfl) (by kernel_rfl) (by kernel_rfl) (fun _ _ _ h => h) (Or.inl ⟨by rfl, ?_⟩) (by assumption) ?_
  rotate_left
  · (intro wx hSw; clear hSw; go_simp) <;> with_reducible rfl
  simp only [Act.put, List.setIfInBounds_toArray, List.set_cons_zero, List.set_cons_succ]
  refine takeH_at 12 70 (v := .agg T) rfl rfl (by kernel_rfl) (by kernel_rfl) (by kernel_rfl) (fun _ _ _ h => h) (yieldsIf_loadP (by rfl) 64 (.tmp 8) rfl ⟨b8, 0, none⟩ rfl _ (fun w hw => L64.out w hw)) (by assumption) ?_
  simp only [Act.put, List.setIfInBounds_toArray, List.set_cons_zero, List.set_cons_succ]
  refine single 10 68 rfl rfl (by kernel_rfl) (by rfl) (fun v _ => v = .int .i64 ix) (looseR_call 40 rfl (enters_of Try.func40 (by kernel_rfl) rfl) _ (by simp only [List.map_toArray, List.map_cons, List.map_nil]; rfl) (G40.out _ _ _ R8H.out _ hSc)) ?_
  intro u68 wd hSd hbd hu
  subst hu
  simp only [Act.put, List.setIfInBounds_toArray, List.set_cons_zero, List.set_cons_succ]
  refine single 13 71 rfl rfl (by kernel_rfl) (by rfl) (fun v _ => v = .int .i64 ix) (looseR_call 41 rfl (enters_of Try.func41 (by kernel_rfl) rfl) _ (by simp only [List.map_toArray, List.map_cons, List.map_nil]; rfl) (G41.out _ _ _ _ R8H.out _ hSd)) ?_
  intro u71 we hSe hbe hu
  subst hu
  simp only [Act.put, List.setIfInBounds_toArray, List.set_cons_zero, List.set_cons_succ]
  refine takeH_at 14 72 (v := .bool true) rfl rfl (by kernel_rfl) (by kernel_rfl) (by kernel_rfl) (fun _ _ _ h => h) (Or.inl ⟨by rfl, ?_⟩) (by assumption) ?_
  · (intro wx hSw; clear hSw; go_simp) <;> (first | done | rfl | simp)
  simp only [Act.put, List.setIfInBounds_toArray, List.set_cons_zero, List.set_cons_succ]
  refine takeH_at 15 73 (v := .bool true) rfl rfl (by kernel_rfl) (by kernel_rfl) (by kernel_rfl) (fun _ _ _ h => h) (Or.inl ⟨by rfl, ?_⟩) (by assumption) ?_
  · (intro wx hSw; clear hSw; go_simp) <;> (first | done | rfl | simp)
  simp only [Act.put, List.setIfInBounds_toArray, List.set_cons_zero, List.set_cons_succ]
  refine takeH_at 16 74 (v := ?_) rfl rfl (by kernel_rfl) (by kernel_rfl) (by kernel_rfl) (fun _ _ _ h => h) (Or.inl ⟨by rfl, ?_⟩) (by assumption) ?_
  rotate_left
  · (intro wx hSw; clear hSw; go_simp) <;> with_reducible rfl
  simp only [Act.put, List.setIfInBounds_toArray, List.set_cons_zero, List.set_cons_succ]
  refine takeH_at 17 75 (v := ?_) rfl rfl (by kernel_rfl) (by kernel_rfl) (by kernel_rfl) (fun _ _ _ h => h) (Or.inl ⟨by rfl, ?_⟩) (by assumption) ?_
  rotate_left
  · (intro wx hSw; clear hSw; go_simp) <;> with_reducible rfl
  simp only [Act.put, List.setIfInBounds_toArray, List.set_cons_zero, List.set_cons_succ]
  refine takeH_at 18 76 (v := .agg T) rfl rfl (by kernel_rfl) (by kernel_rfl) (by kernel_rfl) (fun _ _ _ h => h) (yieldsIf_loadP (by rfl) 55 (.tmp 5) rfl ⟨w.heap.size + 1, 0, none⟩ rfl _ (fun w hw => L55.out w hw)) (by assumption) ?_
  simp only [Act.put, List.setIfInBounds_toArray, List.set_cons_zero, List.set_cons_succ]
  refine takeH_at 20 78 (v := ?_) rfl rfl (by kernel_rfl) (by kernel_rfl) (by kernel_rfl) (fun _ _ _ h => h) (Or.inl ⟨by rfl, ?_⟩) (by assumption) ?_
  rotate_left
  · (intro wx hSw; clear hSw; go_simp) <;> with_reducible rfl
  simp only [Act.put, List.setIfInBounds_toArray, List.set_cons_zero, List.set_cons_succ]
  refine takeH_at 21 79 (v := .agg T) rfl rfl (by kernel_rfl) (by kernel_rfl) (by kernel_rfl) (fun _ _ _ h => h) (yieldsIf_loadP (by rfl) 64 (.tmp 8) rfl ⟨b8, 0, none⟩ rfl _ (fun w hw => L64.out w hw)) (by assumption) ?_
  simp only [Act.put, List.setIfInBounds_toArray, List.set_cons_zero, List.set_cons_succ]
  refine single 19 77 rfl rfl (by kernel_rfl) (by rfl) (fun v w' => ∃ A k, v = .slice A N.length k ∧ CAt w' w'.heap.size A N) (looseR_call 42 rfl (enters_of Try.func42 (by kernel_rfl) rfl) _ (by simp only [List.map_toArray, List.map_cons, List.map_nil]; rfl) (G42.out _ _ _ R8H.out _ hSe)) ?_
  rintro _ wg hSg hbg ⟨Ag, kg, rfl, hcg⟩
  simp only [Act.put, List.setIfInBounds_toArray, List.set_cons_zero, List.set_cons_succ]
  refine single 22 80 rfl rfl (by kernel_rfl) (by rfl) (fun v w' => ∃ A k, v = .slice A N.length k ∧ CAt w' w'.heap.size A N) (looseR_call 43 rfl (enters_of Try.func43 (by kernel_rfl) rfl) _ (by simp only [List.map_toArray, List.map_cons, List.map_nil]; rfl) (G43.out _ _ _ _ R8H.out _ hSg)) ?_
  rintro _ wh hSh hbh ⟨Ah, kh, rfl, hch⟩
  simp only [Act.put, List.setIfInBounds_toArray, List.set_cons_zero, List.set_cons_succ]
  refine single 23 81 rfl rfl (by kernel_rfl) (by rfl) (fun v _ => v = .bool true) (looseR_call 37 rfl (enters_of Try.func37 (by kernel_rfl) rfl) _ (by simp only [List.map_toArray, List.map_cons, List.map_nil]; rfl) (G37.out _ _ _ _ _ _ HNL.out _ hSh ((hcg.below hbh).more hbh.size) hch)) ?_
  intro u81 wi hSi hbi hu
  subst hu
  simp only [Act.put, List.setIfInBounds_toArray, List.set_cons_zero, List.set_cons_succ]
  refine takeH_at 24 82 (v := .bool true) rfl rfl (by kernel_rfl) (by kernel_rfl) (by kernel_rfl) (fun _ _ _ h => h) (Or.inl ⟨by rfl, ?_⟩) (by assumption) ?_
  · (intro wx hSw; clear hSw; go_simp) <;> (first | done | rfl | simp)
  simp only [Act.put, List.setIfInBounds_toArray, List.set_cons_zero, List.set_cons_succ]
  refine takeH_at 25 83 (v := ?_) rfl rfl (by kernel_rfl) (by kernel_rfl) (by kernel_rfl) (fun _ _ _ h => h) (Or.inl ⟨by rfl, ?_⟩) (by assumption) ?_
  rotate_left
  · (intro wx hSw; clear hSw; go_simp) <;> with_reducible rfl
  simp only [Act.put, List.setIfInBounds_toArray, List.set_cons_zero, List.set_cons_succ]
  refine takeH_at 26 84 (v := ?_) rfl rfl (by kernel_rfl) (by kernel_rfl) (by kernel_rfl) (fun _ _ _ h => h) (Or.inl ⟨by rfl, ?_⟩) (by assumption) ?_
  rotate_left
  · (intro wx hSw; clear hSw; go_simp) <;> with_reducible rfl
  simp only [Act.put, List.setIfInBounds_toArray, List.set_cons_zero, List.set_cons_succ]
  refine takeH_at 27 85 (v := ?_) rfl rfl (by kernel_rfl) (by kernel_rfl) (by kernel_rfl) (fun _ _ _ h => h) (Or.inl ⟨by rfl, ?_⟩) (by assumption) ?_
  rotate_left
  · (intro wx hSw; clear hSw; go_simp) <;> with_reducible rfl
  simp only [Act.put, List.setIfInBounds_toArray, List.set_cons_zero, List.set_cons_succ]
  refine takeH_at 28 86 (v := .agg IC) rfl rfl (by kernel_rfl) (by kernel_rfl) (by kernel_rfl) (fun _ _ _ h => h) (yieldsIf_loadP (by rfl) 55 (.tmp 85) rfl ⟨w.heap.size, 0, none⟩ rfl _ (fun w hw => L55c.out w hw)) (by assumption) ?_
  simp only [Act.put, List.setIfInBounds_toArray, List.set_cons_zero, List.set_cons_succ]
  refine takeH_at 30 88 (v := ?_) rfl rfl (by kernel_rfl) (by kernel_rfl) (by kernel_rfl) (fun _ _ _ h => h) (Or.inl ⟨by rfl, ?_⟩) (by assumption) ?_
  rotate_left
  · (intro wx hSw; clear hSw; go_simp) <;> with_reducible rfl
  simp only [Act.put, List.setIfInBounds_toArray, List.set_cons_zero, List.set_cons_succ]
  refine takeH_at 31 89 (v := ?_) rfl rfl (by kernel_rfl) (by kernel_rfl) (by kernel_rfl) (fun _ _ _ h => h) (Or.inl ⟨by rfl, ?_⟩) (by assumption) ?_
  rotate_left
  · (intro wx hSw; clear hSw; go_simp) <;> with_reducible rfl
  simp only [Act.put, List.setIfInBounds_toArray, List.set_cons_zero, List.set_cons_succ]
  refine takeH_at 32 90 (v := .agg IC) rfl rfl (by kernel_rfl) (by kernel_rfl) (by kernel_rfl) (fun _ _ _ h => h) (yieldsIf_loadP (by rfl) 55 (.tmp 89) rfl ⟨w.heap.size, 0, none⟩ rfl _ (fun w hw => L55c.out w hw)) (by assumption) ?_
  simp only [Act.put, List.setIfInBounds_toArray, List.set_cons_zero, List.set_cons_succ]
  refine single 29 87 rfl rfl (by kernel_rfl) (by rfl) (fun v _ => v = .int .i64 iy) (looseR_call 40 rfl (enters_of Try.func40 (by kernel_rfl) rfl) _ (by simp only [List.map_toArray, List.map_cons, List.map_nil]; rfl) (G40c.out _ _ _ R8H.out _ hSi)) ?_
  intro u87 wj hSj hbj hu
  subst hu
  simp only [Act.put, List.setIfInBounds_toArray, List.set_cons_zero, List.set_cons_succ]
  refine single 33 91 rfl rfl (by kernel_rfl) (by rfl) (fun v _ => v = .int .i64 iy) (looseR_call 41 rfl (enters_of Try.func41 (by kernel_rfl) rfl) _ (by simp only [List.map_toArray, List.map_cons, List.map_nil]; rfl) (G41c.out _ _ _ _ R8H.out _ hSj)) ?_
  intro u91 wk hSk hbk hu
  subst hu
  simp only [Act.put, List.setIfInBounds_toArray, List.set_cons_zero, List.set_cons_succ]
  refine takeH_at 34 92 (v := .bool true) rfl rfl (by kernel_rfl) (by kernel_rfl) (by kernel_rfl) (fun _ _ _ h => h) (Or.inl ⟨by rfl, ?_⟩) (by assumption) ?_
  · (intro wx hSw; clear hSw; go_simp) <;> (first | done | rfl | simp)
  simp only [Act.put, List.setIfInBounds_toArray, List.set_cons_zero, List.set_cons_succ]
  refine takeH_at 35 93 (v := .bool true) rfl rfl (by kernel_rfl) (by kernel_rfl) (by kernel_rfl) (fun _ _ _ h => h) (Or.inl ⟨by rfl, ?_⟩) (by assumption) ?_
  · (intro wx hSw; clear hSw; go_simp) <;> (first | done | rfl | simp)
  simp only [Act.put, List.setIfInBounds_toArray, List.set_cons_zero, List.set_cons_succ]
  refine takeH_at 36 94 (v := ?_) rfl rfl (by kernel_rfl) (by kernel_rfl) (by kernel_rfl) (fun _ _ _ h => h) (Or.inl ⟨by rfl, ?_⟩) (by assumption) ?_
  rotate_left
  · (intro wx hSw; clear hSw; go_simp) <;> with_reducible rfl
  simp only [Act.put, List.setIfInBounds_toArray, List.set_cons_zero, List.set_cons_succ]
  refine single 37 95 rfl rfl (by kernel_rfl) (by rfl) (fun v _ => v = .bool true) (looseR_call 28 rfl (enters_of Try.func28 (by kernel_rfl) rfl) _ (by simp only [List.map_toArray, List.map_nil]) (G28.out _ _ hSk)) ?_
  intro u95 wl hSl hbl hu
  subst hu
  simp only [Act.put, List.setIfInBounds_toArray, List.set_cons_zero, List.set_cons_succ]
  refine takeH_at 38 96 (v := .bool true) rfl rfl (by kernel_rfl) (by kernel_rfl) (by kernel_rfl) (fun _ _ _ h => h) (Or.inl ⟨by rfl, ?_⟩) (by assumption) ?_
  · (intro wx hSw; clear hSw; go_simp) <;> (first | done | rfl | simp)
  simp only [Act.put, List.setIfInBounds_toArray, List.set_cons_zero, List.set_cons_succ]
  refine takeH_at 39 6 (v := ?_) rfl rfl (by kernel_rfl) (by kernel_rfl) (by kernel_rfl) (fun _ _ _ h => h) (Or.inl ⟨by rfl, ?_⟩) (by assumption) ?_
  rotate_left
  · (intro wx hSw; clear hSw; go_simp) <;> with_reducible rfl
  simp only [Act.put, List.setIfInBounds_toArray, List.set_cons_zero, List.set_cons_succ]
  refine wpAnyH_done (by kernel_rfl) ?_ _
  refine NoPanic.normal ?_
  have HF := Lib.hid (R8H.out.be.trans (hSl.mono R8H.out.be.size))
  clear hSl
  go_wp2
  go_ret
  exact ⟨rfl, HF.out⟩
end Go.Proofs.Ytbfhfnbhfeedbaa
