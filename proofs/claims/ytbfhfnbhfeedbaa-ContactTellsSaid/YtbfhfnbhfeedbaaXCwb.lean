/- The walk of the statement ContactBack: it answers true. Conditions: the bytes ahead and behind are fewer than 2^47 each. -/
import Derived.Test.YtbfhfnbhfeedbaaXCli
namespace Go.Proofs.Ytbfhfnbhfeedbaa
open Go.Shelf Go.RowKit Go.Lib Go.Sort Go.Great
set_option maxRecDepth 100000
set_option maxHeartbeats 2000000
theorem wpList_noneB {ops : Array Oper} {rest : List Oper} {o : Oper} {a : Act} {w : World} {Q : Exit → Act → World → Prop} (hgd : o.guard = none) (d : Nat) (hd : o.dst = some d) (ho : o.op = .buildSlice 22 0 #[])
    (h : wpList Try.prog ops Q rest (a.put (some d) (.slice (some ⟨w.heap.size, 0, none⟩) 0 0)) (w.alloc (.cells #[] 5))) : wpList Try.prog ops Q (o :: rest) a w :=
  wpList_plain hgd fun _ hK => by
    unfold Oper.wp execOp
    simp only [ho, List.map_toArray, List.map_nil, Sem.run_bind, run_build_noneB, Result.andThen_ok, Sem.run_pure]
    rw [← hd] at h
    exact hK _ _ h
theorem quiet_valV {P : Program} {B : Nat} {W0 : World} {o : Oper} {a : Act} {K : Act → Prop} (v : Value) (hl : ∀ n : Kept B W0, (execOp a.eval o).run P n.val = .ok (.value v) n.val)
    (hk : K (a.put o.dst v)) : o.quiet P a (fun w' => ∃ n : Kept B W0, w' = n.val) K :=
  ⟨v, fun w ⟨n, hn⟩ => by
    subst hn
    unfold Oper.quietAt
    rw [hl n]
    exact ⟨rfl, rfl⟩, hk⟩
theorem quiet_convV {P : Program} {B : Nat} {W0 : World} {o : Oper} {a : Act} {K : Act → Prop} (s d : TypeId) (x : Operand) (ho : o.op = .convert s d x) (u v : Value) (hx : a.eval x = u) (hl : ∀ n : Kept B W0, (convert s d u).run P n.val = .ok v n.val)
    (hk : K (a.put o.dst v)) : o.quiet P a (fun w' => ∃ n : Kept B W0, w' = n.val) K :=
  quiet_valV v (fun n => by
    unfold execOp
    simp only [ho, hx, Sem.run_bind, hl n, Result.andThen_ok, Sem.run_pure]) hk
theorem quiet_headV {B : Nat} {W0 : World} {o : Oper} {a : Act} {K : Act → Prop} (x y : Operand) (ho : o.op = .slice 22 x none (some y) none) (A : Option Addr) (n c k : Nat) (hx : a.eval x = .slice A n c) (hy : a.eval y = .int .i64 (k : Int)) (hkc : k ≤ c)
    (hk : K (a.put o.dst (.slice (headA A c) k c))) : o.quiet Try.prog a (fun w' => ∃ n : Kept B W0, w' = n.val) K :=
  quiet_valV (.slice (headA A c) k c) (fun m => by
    have := run_head A n c k hkc m.val
    unfold execOp
    simp only [ho, hx, hy, Sem.run_bind, Option.map_some, Option.map_none, run_sliceAt_slice m.val 22 _ _ _ _ under22, this, Result.andThen_ok, Sem.run_pure]) hk
theorem own_formE {e : TypeId} {w : World} {base n : Nat} {v : Value} {L : List Con} (h : w.ownsRow base e 22 v n (flatE encC L)) : ∃ A c, v = .slice A n c ∧ n = L.length ∧ CAt w w.heap.size A L ∧ (A = none ∨ ∃ g off, A = some ⟨g, off, none⟩) := by
  have hl := h.1
  rw [flatE_length encC_length] at hl
  have hn : n = L.length := by omega
  rcases h.2 with ⟨rfl, h0⟩ | ⟨g, cap, cur, rfl, hb, hg, hc, hm, hs, ht⟩
  · exact ⟨none, 0, by rw [h0], hn, .inl (List.eq_nil_of_length_eq_zero (by omega)), .inl rfl⟩
  · refine ⟨some ⟨g, 0, none⟩, cap, rfl, hn, .inr ⟨g, 0, rfl, (Array.getElem?_eq_some_iff.1 hg).1, fun j u hu => ?_⟩, .inr ⟨g, 0, rfl⟩⟩
    rw [Nat.zero_add, cell_of_row w g j _ e (0, 0) hg]
    rw [← ht, List.getElem?_take] at hu
    split at hu
    · simpa using hu
    · cases hu
/-- A reader of its own, and all that came in as it was. -/
structure RdB (w : World) (g : Nat) (s : St) (W : World) : Prop where
  rd : RdrS W g s
  gw : w.heap.size ≤ g
  be : Below w.heap.size w W
section
variable {w W W' : World} {g : Nat} {s s' : St}
theorem RdB.bel (r : RdB w g s W) (hb : Below W.heap.size W W') : RdB w g s W' := ⟨r.rd.below hb (Nat.le_refl _), r.gw, r.be.trans (hb.mono r.be.size)⟩
theorem RdB.read (r : RdB w g s W) (h : RdrS W' g s') (hg : W.grownBy W' (some g)) : RdB w g s' W' := ⟨h, r.gw, below_ownB r.be r.be.size hg (fun k hk => by injection hk with hk; have := r.gw; omega)⟩
end
theorem cback_big (Al Aa Ab : Option Addr) (cl ca cb n na nb : Nat) (w : World) (hna : na ≤ 140737488355328) (hnb : nb ≤ 140737488355328) (h : 80 < n ∨ 3000 < na + nb) :
    Calls Try.prog 9 #[.slice Al n cl, .slice Aa na ca, .slice Ab nb cb] w fun e w' => e = .returned (.bool true) ∧ Below w.heap.size w w' := by
  have H28 := Lib.hid (clives_any w)
  by_cases h80 : 80 < n
  · have h80' : (80 : Int) < (n : Int) := by omega
    clear h
    go_enter Try.func9, Try.ntmps9
    go_wp2_with (first | (go_at_call 28; (with_reducible refine H28.out.mono ?_); rintro e w1 ⟨rfl, hb1⟩))
    go_ret
    exact ⟨rfl, hb1⟩
  · have h80' : ¬ (80 : Int) < (n : Int) := by omega
    have hs : 3000 < na + nb := by omega
    have hs' : (3000 : Int) < (na : Int) + (nb : Int) := by omega
    have hwr : IntKind.i64.wrap ((na : Int) + (nb : Int)) = (na : Int) + (nb : Int) := by rw [IntKind.wrap_i64]; omega
    clear h
    go_enter Try.func9, Try.ntmps9
    go_wp2_with (first | (go_at_call 28; (with_reducible refine H28.out.mono ?_); rintro e w1 ⟨rfl, hb1⟩))
    go_ret
    exact ⟨rfl, hb1⟩
theorem cback_bad (Al Aa Ab : Option Addr) (cl ca cb na nb : Nat) (L : List Con) (w : World) (hL : L.length ≤ 80) (hs : na + nb ≤ 3000) (hA : CAt w w.heap.size Al L) (hA2 : Al = none ∨ ∃ g off, Al = some ⟨g, off, none⟩) (hg : goodC (ctsC L) = false) :
    Calls Try.prog 9 #[.slice Al L.length cl, .slice Aa na ca, .slice Ab nb cb] w fun e w' => e = .returned (.bool true) ∧ Below w.heap.size w w' := by
  have H28 := Lib.hid (fun W => clives_any W)
  have H30 : Hid (Calls Try.prog 30 #[.slice Al L.length cl] w fun e w1 => ∃ A k, e = .returned (.tuple #[.slice A 0 k, .int .i64 2]) ∧ Below w.heap.size w w1) := by
    refine Lib.hid ((clist_any Al cl L w (by omega) hA hA2).mono ?_)
    rintro e w1 ⟨v, rfl, ho, hb⟩
    rw [hg] at ho
    obtain ⟨A, k, rfl, _, _⟩ := own_bat ho
    exact ⟨A, k, by rw [hg]; rfl, hb⟩
  have H29 : Hid (∀ W, Below w.heap.size w W → Calls Try.prog 29 #[.slice Al L.length cl] W fun e w' => ∃ A c, e = .returned (.slice A L.length c) ∧ CAt w' w'.heap.size A L ∧ Below w.heap.size w w') := by
    refine Lib.hid (fun W hW => (plain_any Al cl L W (by omega) ((hA.below hW).more hW.size)).mono ?_)
    rintro e w' ⟨v, rfl, ho, hb⟩
    obtain ⟨A, c, rfl, _, hc, _⟩ := own_formE ho
    exact ⟨A, c, rfl, hc, hW.trans (hb.mono hW.size)⟩
  have H54 : Hid (∀ W A c, CAt W W.heap.size A L → Below w.heap.size w W → Calls Try.prog 54 #[.slice A L.length c] W fun e w' => e = .returned (.bool false) ∧ Below w.heap.size w w') := by
    refine Lib.hid (fun W A c hc hW => (rgoodlist_any A c L W (by omega) hc).mono ?_)
    rintro e w' ⟨rfl, hb⟩
    rw [hg]
    exact ⟨rfl, hW.trans (hb.mono hW.size)⟩
  obtain ⟨n, hn⟩ : ∃ n, n = L.length := ⟨_, rfl⟩
  rw [← hn] at H30 H29 H54 hL ⊢
  have h80' : ¬ (80 : Int) < (n : Int) := by omega
  have hs' : ¬ (3000 : Int) < (na : Int) + (nb : Int) := by omega
  have hwr : IntKind.i64.wrap ((na : Int) + (nb : Int)) = (na : Int) + (nb : Int) := by rw [IntKind.wrap_i64]; omega
  clear hA hA2 hn hg
  go_enter Try.func9, Try.ntmps9
  go_wp2_with (first
    | (go_at_call 30; (with_reducible refine H30.out.mono ?_); rintro e w1 ⟨A1, k1, rfl, hb1⟩)
    | (go_at_call 29; (with_reducible refine (H29.out _ hb1).mono ?_); rintro e w2 ⟨A2, c2, rfl, hc2, hb2⟩)
    | (go_at_call 54; (with_reducible refine (H54.out _ _ _ hc2 hb2).mono ?_); rintro e w3 ⟨rfl, hb3⟩)
    | (go_at_call 28; (with_reducible refine (H28.out _).mono ?_); rintro e w4 ⟨rfl, hb4⟩))
  go_ret
  exact ⟨rfl, hb3.trans (hb4.mono hb3.size)⟩
theorem cback_good (Al Aa Ab : Option Addr) (cl ca cb : Nat) (L : List Con) (xa xb : List UInt8) (w : World) (hL : L.length ≤ 80) (hs : xa.length + xb.length ≤ 3000) (hA : CAt w w.heap.size Al L) (hA2 : Al = none ∨ ∃ g off, Al = some ⟨g, off, none⟩) (ha : BAt w w.heap.size Aa xa) (hb : BAt w w.heap.size Ab xb) (hcb : xb.length ≤ cb) (hg : goodC (ctsC L) = true) :
    Calls Try.prog 9 #[.slice Al L.length cl, .slice Aa xa.length ca, .slice Ab xb.length cb] w fun e w' => e = .returned (.bool true) ∧ Below w.heap.size w w' := by
  have hgl := goodC_len hg
  have h64 : L.length ≤ 64 := by unfold ctsC at hgl; simpa using hgl
  have hlen : (listC (ctsC L)).length = 1 + L.length * 26 := by unfold listC; rw [List.length_cons, flatC_len]; omega
  obtain ⟨r1, r2⟩ := rl_list hg xb
  obtain ⟨lst, hlst⟩ : ∃ l, l = listC (ctsC L) := ⟨_, rfl⟩
  rw [← hlst] at r1 r2 hlen
  have H30 : Hid (Calls Try.prog 30 #[.slice Al L.length cl] w fun e w1 => ∃ v, e = .returned (.tuple #[v, .int .i64 0]) ∧ BsIs lst v w1 ∧ Below w.heap.size w w1) := by
    refine Lib.hid ((clist_any Al cl L w (by omega) hA hA2).mono ?_)
    rintro e w1 ⟨v, rfl, ho, hb⟩
    rw [hg] at ho
    exact ⟨v, by rw [hg]; rfl, by rw [hlst]; exact BsIs.of_own ho, hb⟩
  have HSA : Hid (∀ W, Below w.heap.size w W → Src Try.prog 1 22 (.slice Aa xa.length ca) xa.length (bcells xa) W) := Lib.hid (fun W hW => ((ha.below hW).srcB ca))
  have HSB : Hid (∀ W, Below w.heap.size w W → Src Try.prog 1 22 (.slice Ab xb.length cb) xb.length (bcells xb) W) := Lib.hid (fun W hW => ((hb.below hW).srcB cb))
  have HSL : Hid (∀ W v, BsIs lst v W → Src Try.prog 1 22 v lst.length (bcells lst) W) := Lib.hid (fun W v hv => by obtain ⟨A, c, rfl, _, h⟩ := hv; exact h.srcB c)
  have H46 : Hid (∀ W v, Below w.heap.size w W → W.ownsRow w.heap.size 5 1 v ([] ++ xa ++ lst ++ xb).length (bcells ([] ++ xa ++ lst ++ xb)) → Calls Try.prog 46 #[v] W fun e w' => ∃ g, e = .returned (.pointer (some ⟨g, 0, none⟩)) ∧ RdB w g ⟨[] ++ xa ++ lst ++ xb, false⟩ w') := by
    refine Lib.hid (fun W v hW ho => ?_)
    obtain ⟨A, c, rfl, hbat, _⟩ := own_bat ho
    refine (open_any A c _ W hbat (by simp only [List.length_append, List.length_nil]; omega)).mono ?_
    rintro e w' ⟨g, rfl, hgw, hr, hb'⟩
    exact ⟨g, rfl, hr, Nat.le_trans hW.size hgw, hW.trans (hb'.mono hW.size)⟩
  have H47 : Hid (∀ W g, RdB w g ⟨[] ++ xa ++ lst ++ xb, false⟩ W → Calls Try.prog 47 #[.pointer (some ⟨g, 0, none⟩), .int .i64 (xa.length : Int)] W fun e w' => ∃ v, e = .returned v ∧ RdB w g ⟨lst ++ xb, false⟩ w') := by
    refine Lib.hid (fun W g r => (take_any r.rd (xa.length : Int) (by omega)).mono ?_)
    rintro e w' ⟨v, rfl, _, hr, hg'⟩
    have e1 : takeS ⟨[] ++ xa ++ lst ++ xb, false⟩ (xa.length : Int) = ⟨lst ++ xb, false⟩ := by
      unfold takeS
      rw [if_pos ⟨rfl, by omega, by show (xa.length : Int) ≤ (([] ++ xa ++ lst ++ xb).length : Int); simp only [List.length_append, List.length_nil]; omega⟩, Int.toNat_natCast, List.nil_append, List.append_assoc, List.drop_append_of_le_length (by omega), List.drop_length, List.nil_append]
    rw [e1] at hr
    exact ⟨v, rfl, r.read hr hg'⟩
  have H49 : Hid (∀ W g, RdB w g ⟨lst ++ xb, false⟩ W → Calls Try.prog 49 #[.pointer (some ⟨g, 0, none⟩)] W fun e w' => ∃ A c, e = .returned (.slice A L.length c) ∧ CAt w' w'.heap.size A L ∧ RdB w g ⟨xb, false⟩ w') := by
    refine Lib.hid (fun W g r => (readlist_any r.rd).mono ?_)
    rintro e w' ⟨A, c, rfl, hc, _, hr, hg'⟩
    rw [r1] at hc ⊢
    rw [r2] at hr
    exact ⟨A, c, rfl, hc, r.read hr hg'⟩
  have H29 : Hid (∀ W g A1, RdB w g ⟨xb, false⟩ W → CAt W W.heap.size A1 L → Calls Try.prog 29 #[.slice Al L.length cl] W fun e w' => ∃ A c, e = .returned (.slice A L.length c) ∧ CAt w' w'.heap.size A L ∧ CAt w' w'.heap.size A1 L ∧ RdB w g ⟨xb, false⟩ w') := by
    refine Lib.hid (fun W g A1 r hc1 => (plain_any Al cl L W (by omega) ((hA.below r.be).more r.be.size)).mono ?_)
    rintro e w' ⟨v, rfl, ho, hb'⟩
    obtain ⟨A, c, rfl, _, hc, _⟩ := own_formE ho
    exact ⟨A, c, rfl, hc, (hc1.below hb').more hb'.size, r.bel hb'⟩
  have H37 : Hid (∀ W g A1 c1 A3 c3, RdB w g ⟨xb, false⟩ W → CAt W W.heap.size A1 L → CAt W W.heap.size A3 L → Calls Try.prog 37 #[.slice A1 L.length c1, .slice A3 L.length c3] W fun e w' => e = .returned (.bool true) ∧ RdB w g ⟨xb, false⟩ w') := by
    refine Lib.hid (fun W g A1 c1 A3 c3 r k1 k3 => (csame_at A1 A3 c1 c3 L W (by omega) k1 k3).mono ?_)
    rintro e w' ⟨rfl, hb'⟩
    exact ⟨rfl, r.bel hb'⟩
  have H51 : Hid (∀ W g, RdB w g ⟨xb, false⟩ W → Calls Try.prog 51 #[.pointer (some ⟨g, 0, none⟩)] W fun e w' => e = .returned (.int .i64 (xb.length : Int)) ∧ W = w') := Lib.hid (fun W g r => left_any r.rd)
  have H46b : Hid (∀ W g, RdB w g ⟨xb, false⟩ W → Calls Try.prog 46 #[.slice Ab xb.length cb] W fun e w' => ∃ g2, e = .returned (.pointer (some ⟨g2, 0, none⟩)) ∧ RdB w g2 ⟨xb, false⟩ w') := by
    refine Lib.hid (fun W g r => (open_any Ab cb xb W ((hb.below r.be).more r.be.size) (by omega)).mono ?_)
    rintro e w' ⟨g2, rfl, hgw, hr, hb'⟩
    exact ⟨g2, rfl, hr, Nat.le_trans r.be.size hgw, r.be.trans (hb'.mono r.be.size)⟩
  obtain ⟨M, hM⟩ : ∃ M, M = rlL ⟨xb, false⟩ := ⟨_, rfl⟩
  obtain ⟨s2, hs2⟩ : ∃ s, s = rlS ⟨xb, false⟩ := ⟨_, rfl⟩
  have H49b : Hid (∀ W g, RdB w g ⟨xb, false⟩ W → Calls Try.prog 49 #[.pointer (some ⟨g, 0, none⟩)] W fun e w' => ∃ A c, e = .returned (.slice A M.length c) ∧ CAt w' w'.heap.size A M ∧ (A = none ∨ ∃ g off, A = some ⟨g, off, none⟩) ∧ RdB w g s2 w') := by
    refine Lib.hid (fun W g r => (readlist_any r.rd).mono ?_)
    rintro e w' ⟨A, c, rfl, hc, hf, hr, hg'⟩
    rw [← hM] at hc ⊢
    rw [← hs2] at hr
    exact ⟨A, c, rfl, hc, hf, r.read hr hg'⟩
  have H53 : Hid (∀ W g, RdB w g s2 W → Calls Try.prog 53 #[.pointer (some ⟨g, 0, none⟩)] W fun e w' => e = .returned (.bool s2.bad) ∧ W = w') := Lib.hid (fun W g r => bad_any r.rd)
  have H28 := Lib.hid (fun W => clives_any W)
  have hcase := rl_cases xb
  rw [← hM, ← hs2] at hcase
  have HLE : Hid (([] : List UInt8).length + xa.length ≤ 10000000 ∧ ([] ++ xa).length + lst.length ≤ 10000000 ∧ ([] ++ xa ++ lst).length + xb.length ≤ 10000000) := Lib.hid (by simp only [List.length_append, List.length_nil]; omega)
  have h80' : ¬ (80 : Int) < (L.length : Int) := by omega
  have hs' : ¬ (3000 : Int) < (xa.length : Int) + (xb.length : Int) := by omega
  have hwr : IntKind.i64.wrap ((xa.length : Int) + (xb.length : Int)) = (xa.length : Int) + (xb.length : Int) := by rw [IntKind.wrap_i64]; omega
  have hxb : xb.length ≤ 3000 := by omega
  obtain ⟨n, hn⟩ : ∃ n, n = L.length := ⟨_, rfl⟩
  obtain ⟨na, hna⟩ : ∃ n, n = xa.length := ⟨_, rfl⟩
  obtain ⟨nb, hnb⟩ : ∃ n, n = xb.length := ⟨_, rfl⟩
  have HNA : Hid (na = xa.length) := Lib.hid hna
  have HNB : Hid (nb = xb.length) := Lib.hid hnb
  have HON : Hid (∀ w1, Below w.heap.size w w1 → (w1.alloc (.cells #[] 5)).ownsRow w1.heap.size 5 1 (.slice (some ⟨w1.heap.size, 0, none⟩) 0 0) ([] : List UInt8).length (bcells [])) := Lib.hid (fun w1 _ => ownNone 5 1 (Nat.le_refl _))
  have HBW : Hid (∀ w1 W, Below w.heap.size w w1 → Below w1.heap.size w1 W → Below w.heap.size w W) := Lib.hid (fun w1 W h1 h2 => h1.trans (h2.mono h1.size))
  have HBV : Hid (∀ w1 W v, Below w1.heap.size w1 W → BsIs lst v w1 → BsIs lst v W) := Lib.hid (fun w1 W v h1 h2 => BsIs.keep _ _ _ h1 h2)
  have HGB : Hid (∀ (w1 W W' : World) (v : Value) (xs : List UInt8), Below w1.heap.size w1 W → W.ownsRow w1.heap.size 5 1 v xs.length (bcells xs) → W.grownBy W' v.ownBlock → Below w1.heap.size w1 W') := Lib.hid (fun w1 W W' v xs h1 h2 h3 => below_ownB h1 h1.size h3 (fun k hk => (h2.lt k hk).1))
  have HOB : Hid (∀ (w1 W : World) (v : Value), Below w.heap.size w w1 → W.ownsRow w1.heap.size 5 1 v ([] ++ xa ++ lst ++ xb).length (bcells ([] ++ xa ++ lst ++ xb)) → W.ownsRow w.heap.size 5 1 v ([] ++ xa ++ lst ++ xb).length (bcells ([] ++ xa ++ lst ++ xb))) := Lib.hid (fun w1 W v h1 h2 => own_baseC h2 h1.size)
  rcases hcase with ⟨hM0, hsb⟩ | ⟨hMg, hsg, hys⟩
  · subst hM0
    have hbad : s2.bad = true := by rw [hsb]
    rw [hbad] at H53
    simp only [List.length_nil] at H49b
    rw [← hn] at H30 H49 H29 H37 h80' ⊢
    rw [← hna] at H47 hwr hs' ⊢
    rw [← hnb] at H51 H46b hwr hs' ⊢
    have HSA' : Hid (∀ W, Below w.heap.size w W → Src Try.prog 1 22 (.slice Aa na ca) xa.length (bcells xa) W) := Lib.hid (fun W hW => by have := HSA.out W hW; rw [hna]; exact this)
    have HSB' : Hid (∀ W, Below w.heap.size w W → Src Try.prog 1 22 (.slice Ab nb cb) xb.length (bcells xb) W) := Lib.hid (fun W hW => by have := HSB.out W hW; rw [hnb]; exact this)
    clear HSA HSB hA hA2 ha hb hg hgl h64 hlen r1 r2 hlst hM hs2 hn hna hnb hsb hbad
    go_enter Try.func9, Try.ntmps9
    go_wp2_with (first
      | (go_at_call 30; (with_reducible refine H30.out.mono ?_); rintro e w1 ⟨v1, rfl, hv1, hb1⟩; have hbk := (Below.refl w1.heap.size w1).alloc (Nat.le_refl _) (.cells #[] 5))
      | ((with_reducible refine wpList_noneB (o := ⟨some 45, _, _, _, _, _⟩) rfl 45 rfl rfl ?_); have ho45 := HON.out w1 hb1; have hbw := HBW.out w1 _ hb1 hbk; have hvv := HBV.out w1 _ _ hbk hv1)
      | ((refine wpList_append_bytes rfl (.tmp 45) (.tmp 46) rfl w1.heap.size _ [] rfl ho45 _ xa rfl (HSA'.out _ hbw) HLE.out.1 hbk.size ?_); intro v47 w47 ho47 hg47; replace hbk := HGB.out w1 _ _ _ _ hbk ho45 hg47; replace hbw := HBW.out w1 _ hb1 hbk; have hv47 := HBV.out w1 _ _ hbk hv1)
      | ((refine wpList_append_bytes rfl (.tmp 47) (.tmp 48) rfl w1.heap.size _ ([] ++ xa) rfl ho47 _ lst rfl (HSL.out _ _ hv47) HLE.out.2.1 hbk.size ?_); intro v49 w49 ho49 hg49; replace hbk := HGB.out w1 _ _ _ _ hbk ho47 hg49; replace hbw := HBW.out w1 _ hb1 hbk)
      | ((refine wpList_append_bytes rfl (.tmp 49) (.tmp 50) rfl w1.heap.size _ ([] ++ xa ++ lst) rfl ho49 _ xb rfl (HSB'.out _ hbw) HLE.out.2.2 hbk.size ?_); intro v51 w51 ho51 hg51; replace hbk := HGB.out w1 _ _ _ _ hbk ho49 hg51; replace hbw := HBW.out w1 _ hb1 hbk)
      | (go_at_call 46; (with_reducible refine (H46.out _ _ hbw (HOB.out w1 _ _ hb1 ho51)).mono ?_); rintro e w6 ⟨g6, rfl, R6⟩)
      | (go_at_call 47; (with_reducible refine (H47.out _ _ R6).mono ?_); rintro e w7 ⟨v7, rfl, R7⟩)
      | (go_at_call 49; (with_reducible refine (H49.out _ _ R7).mono ?_); rintro e w8 ⟨A8, c8, rfl, hc8, R8⟩)
      | (go_at_call 29; (with_reducible refine (H29.out _ _ _ R8 hc8).mono ?_); rintro e w9 ⟨A9, c9, rfl, hc9, hc89, R9⟩)
      | (go_at_call 37; (with_reducible refine (H37.out _ _ _ _ _ _ R9 hc89 hc9).mono ?_); rintro e w10 ⟨rfl, R10⟩)
      | (go_at_call 51; (with_reducible refine (H51.out _ _ R10).mono ?_); rintro e w11 ⟨rfl, rfl⟩)
      | (go_at_call 46; (with_reducible refine (H46b.out _ _ R10).mono ?_); rintro e w12 ⟨g12, rfl, R12⟩)
      | (go_at_call 49; (with_reducible refine (H49b.out _ _ R12).mono ?_); rintro e w13 ⟨A13, c13, rfl, hc13, hf13, R13⟩)
      | (go_at_call 53; (with_reducible refine (H53.out _ _ R13).mono ?_); rintro e w14 ⟨rfl, rfl⟩)
      | (go_at_call 28; (with_reducible refine (H28.out _).mono ?_); rintro e w15 ⟨rfl, hb15⟩))
    go_ret
    exact ⟨rfl, R13.be.trans (hb15.mono R13.be.size)⟩
  · have hMl := goodC_len hMg
    have hM64 : M.length ≤ 64 := by unfold ctsC at hMl; simpa using hMl
    have hMlen : (listC (ctsC M)).length = 1 + M.length * 26 := by unfold listC; rw [List.length_cons, flatC_len]; omega
    obtain ⟨ml, hml⟩ : ∃ l, l = listC (ctsC M) := ⟨_, rfl⟩
    rw [← hml] at hys hMlen
    rw [hsg] at H53
    have hsum : ml.length + s2.ys.length = xb.length := by
      have := congrArg List.length hys
      rw [List.length_append] at this
      exact this.symm
    have htk : xb.take ml.length = ml := by
      rw [hys, List.take_append_of_le_length (Nat.le_refl _), List.take_length]
    have H30m : Hid (∀ W g A c, RdB w g s2 W → CAt W W.heap.size A M → (A = none ∨ ∃ g off, A = some ⟨g, off, none⟩) → Calls Try.prog 30 #[.slice A M.length c] W fun e w' => ∃ A2 c2, e = .returned (.tuple #[.slice A2 ml.length c2, .int .i64 0]) ∧ BAt w' w'.heap.size A2 ml ∧ RdB w g s2 w') := by
      refine Lib.hid (fun W g A c r hc hf => (clist_any A c M W (by omega) hc hf).mono ?_)
      rintro e w' ⟨v, rfl, ho, hb'⟩
      rw [hMg] at ho
      simp only [if_true] at ho
      rw [← hml] at ho
      obtain ⟨A2, c2, rfl, hbat, _⟩ := own_bat ho
      exact ⟨A2, c2, by rw [hMg]; rfl, hbat, r.bel hb'⟩
    obtain ⟨lo, hlo⟩ : ∃ n, n = s2.ys.length := ⟨_, rfl⟩
    have H51c : Hid (∀ W g, RdB w g s2 W → Calls Try.prog 51 #[.pointer (some ⟨g, 0, none⟩)] W fun e w' => e = .returned (.int .i64 (lo : Int)) ∧ Below W.heap.size W w') := Lib.hid (fun W g r => (left_any r.rd).mono (by rintro e w' ⟨rfl, rfl⟩; exact ⟨by rw [hlo], Below.refl _ _⟩))
    obtain ⟨str, hstr⟩ : ∃ u, u = bstr ml := ⟨_, rfl⟩
    have HC1 : Hid (∀ W A c, BAt W W.heap.size A ml → ∀ k : Kept W.heap.size W, (convert 22 9 (.slice A ml.length c)).run Try.prog k.val = .ok (.string str) k.val) := Lib.hid (fun W A c h k => by
      rw [hstr]
      exact run_convert_bat 22 9 5 c Try.underlying22 Try.underlying5 Try.underlying9 (h.below k.property))
    have HC2 : Hid (∀ W g, RdB w g s2 W → ∀ k : Kept W.heap.size W, (convert 22 9 (.slice (headA Ab cb) ml.length cb)).run Try.prog k.val = .ok (.string str) k.val) := Lib.hid (fun W g r k => by
      have h1 := (hb.below (r.be.trans (k.property.mono r.be.size))).head (k := ml.length) hcb
      have h2 := run_convert_bat (P := Try.prog) 22 9 5 cb Try.underlying22 Try.underlying5 Try.underlying9 h1
      rw [htk] at h2
      rw [hstr]
      exact h2)
    have hkc : ml.length ≤ cb := by omega
    have hsum' : ml.length + lo = xb.length := by omega
    have hmb : ml.length ≤ 3000 := by omega
    have hE1 : ((ml.length : Int) + (lo : Int) == (xb.length : Int)) = true := by simp; omega
    have hwr2 : IntKind.i64.wrap ((ml.length : Int) + (lo : Int)) = (ml.length : Int) + (lo : Int) := by rw [IntKind.wrap_i64]; omega
    rw [← hn] at H30 H49 H29 H37 h80' ⊢
    rw [← hna] at H47 hwr hs' ⊢
    rw [← hnb] at H51 H46b hwr hs' hE1 hsum' ⊢
    have HSA' : Hid (∀ W, Below w.heap.size w W → Src Try.prog 1 22 (.slice Aa na ca) xa.length (bcells xa) W) := Lib.hid (fun W hW => by have := HSA.out W hW; rw [hna]; exact this)
    have HSB' : Hid (∀ W, Below w.heap.size w W → Src Try.prog 1 22 (.slice Ab nb cb) xb.length (bcells xb) W) := Lib.hid (fun W hW => by have := HSB.out W hW; rw [hnb]; exact this)
    obtain ⟨m, hm⟩ : ∃ m, m = M.length := ⟨_, rfl⟩
    rw [← hm] at H49b H30m
    obtain ⟨lc, hlc⟩ : ∃ m, m = ml.length := ⟨_, rfl⟩
    rw [← hlc] at H30m HC1 HC2 hkc hsum' hmb hE1 hwr2
    clear HSA HSB hA hA2 ha hb hg hgl h64 hlen r1 r2 hlst hM hs2 hn hna hnb hMl hM64 hMlen hml hys hsum htk hlo hstr hm hlc hMg hsg
    go_enter Try.func9, Try.ntmps9
    go_wp2_with (first
      | (go_at_call 30; (with_reducible refine H30.out.mono ?_); rintro e w1 ⟨v1, rfl, hv1, hb1⟩; have hbk := (Below.refl w1.heap.size w1).alloc (Nat.le_refl _) (.cells #[] 5))
      | ((with_reducible refine wpList_noneB (o := ⟨some 45, _, _, _, _, _⟩) rfl 45 rfl rfl ?_); have ho45 := HON.out w1 hb1; have hbw := HBW.out w1 _ hb1 hbk; have hvv := HBV.out w1 _ _ hbk hv1)
      | ((refine wpList_append_bytes rfl (.tmp 45) (.tmp 46) rfl w1.heap.size _ [] rfl ho45 _ xa rfl (HSA'.out _ hbw) HLE.out.1 hbk.size ?_); intro v47 w47 ho47 hg47; replace hbk := HGB.out w1 _ _ _ _ hbk ho45 hg47; replace hbw := HBW.out w1 _ hb1 hbk; have hv47 := HBV.out w1 _ _ hbk hv1)
      | ((refine wpList_append_bytes rfl (.tmp 47) (.tmp 48) rfl w1.heap.size _ ([] ++ xa) rfl ho47 _ lst rfl (HSL.out _ _ hv47) HLE.out.2.1 hbk.size ?_); intro v49 w49 ho49 hg49; replace hbk := HGB.out w1 _ _ _ _ hbk ho47 hg49; replace hbw := HBW.out w1 _ hb1 hbk)
      | ((refine wpList_append_bytes rfl (.tmp 49) (.tmp 50) rfl w1.heap.size _ ([] ++ xa ++ lst) rfl ho49 _ xb rfl (HSB'.out _ hbw) HLE.out.2.2 hbk.size ?_); intro v51 w51 ho51 hg51; replace hbk := HGB.out w1 _ _ _ _ hbk ho49 hg51; replace hbw := HBW.out w1 _ hb1 hbk)
      | (go_at_call 46; (with_reducible refine (H46.out _ _ hbw (HOB.out w1 _ _ hb1 ho51)).mono ?_); rintro e w6 ⟨g6, rfl, R6⟩)
      | (go_at_call 47; (with_reducible refine (H47.out _ _ R6).mono ?_); rintro e w7 ⟨v7, rfl, R7⟩)
      | (go_at_call 49; (with_reducible refine (H49.out _ _ R7).mono ?_); rintro e w8 ⟨A8, c8, rfl, hc8, R8⟩)
      | (go_at_call 29; (with_reducible refine (H29.out _ _ _ R8 hc8).mono ?_); rintro e w9 ⟨A9, c9, rfl, hc9, hc89, R9⟩)
      | (go_at_call 37; (with_reducible refine (H37.out _ _ _ _ _ _ R9 hc89 hc9).mono ?_); rintro e w10 ⟨rfl, R10⟩)
      | (go_at_call 51; (with_reducible refine (H51.out _ _ R10).mono ?_); rintro e w11 ⟨rfl, rfl⟩)
      | (go_at_call 46; (with_reducible refine (H46b.out _ _ R10).mono ?_); rintro e w12 ⟨g12, rfl, R12⟩)
      | (go_at_call 49; (with_reducible refine (H49b.out _ _ R12).mono ?_); rintro e w13 ⟨A13, c13, rfl, hc13, hf13, R13⟩)
      | (go_at_call 53; (with_reducible refine (H53.out _ _ R13).mono ?_); rintro e w14 ⟨rfl, rfl⟩)
      | (go_at_call 30; (with_reducible refine (H30m.out _ _ _ _ R13 hc13 hf13).mono ?_); rintro e w16 ⟨A16, c16, rfl, hb16, R16⟩))
    have HC1' := Lib.hid (HC1.out _ _ c16 hb16)
    have HC2' := Lib.hid (HC2.out _ _ R16)
    have HL' : Hid (∀ k : Kept w16.heap.size w16, Calls Try.prog 51 #[.pointer (some ⟨g12, 0, none⟩)] k.val fun e w' => e = .returned (.int .i64 (lo : Int)) ∧ Below k.val.heap.size k.val w') := Lib.hid (fun k => H51c.out _ _ (R16.bel k.property))
    have HBE := Lib.hid R16.be
    have HKC := Lib.hid hkc
    clear hb16 R16 R13 hc13 hf13 R12 R10 R9 R8 hc8 hc9 hc89 R7 R6 ho51 hg51 ho49 hg49 ho47 hg47 ho45 hbk hbw hvv hv47 hv1 hb1 H30 H46 H47 H49 H29 H37 H51 H46b H49b H53 HON HBW HBV HGB HOB HC1 HC2 H51c H30m HSA' HSB' HSL HLE
    refine wp_region_kept w16.heap.size w16 (Below.refl _ _) (by kernel_rfl) (by kernel_rfl) ?_
    repeat (first
      | (go_big_quiet_want; (with_reducible refine quiet_convV (o := ⟨some 111, _, _, _, _, _⟩) 22 9 (.tmp 110) rfl _ _ ?_ HC1'.out ?_); rfl; simp only [Act.put, List.setIfInBounds_toArray, List.set_cons_zero, List.set_cons_succ]; go_big_quiet_on)
      | (go_big_quiet_want; (with_reducible refine quiet_convV (o := ⟨some 116, _, _, _, _, _⟩) 22 9 (.tmp 115) rfl _ _ ?_ HC2'.out ?_); rfl; simp only [Act.put, List.setIfInBounds_toArray, List.set_cons_zero, List.set_cons_succ]; go_big_quiet_on)
      | (go_big_quiet_want; (with_reducible refine quiet_headV (o := ⟨some 115, _, _, _, _, _⟩) (.tmp 112) (.tmp 114) rfl Ab nb cb lc ?_ ?_ HKC.out ?_); rfl; rfl; simp only [Act.put, List.setIfInBounds_toArray, List.set_cons_zero, List.set_cons_succ]; go_big_quiet_on)
      | go_big_quiet_step (first | (go_at_call 51; with_reducible exact kept_ofS (Nat.le_refl _) HL'.out _) | (go_at_call 28; with_reducible exact kept_of (Nat.le_refl _) H28.out _)))
    refine wpQuiet_nil ?_
    rintro wk ⟨⟨_, hwk⟩, rfl⟩
    go_wp2
    go_ret
    exact ⟨rfl, HBE.out.trans (hwk.mono HBE.out.size)⟩
theorem cback_walk (Al Aa Ab : Option Addr) (cl ca cb : Nat) (L : List Con) (xa xb : List UInt8) (w : World) (hA : CAt w w.heap.size Al L) (hA2 : Al = none ∨ ∃ g off, Al = some ⟨g, off, none⟩) (ha : BAt w w.heap.size Aa xa) (hb : BAt w w.heap.size Ab xb) (hna : xa.length ≤ 140737488355328) (hnb : xb.length ≤ 140737488355328) (hcb : xb.length ≤ cb) :
    Calls Try.prog 9 #[.slice Al L.length cl, .slice Aa xa.length ca, .slice Ab xb.length cb] w fun e w' => e = .returned (.bool true) ∧ Below w.heap.size w w' := by
  by_cases h : 80 < L.length ∨ 3000 < xa.length + xb.length
  · exact cback_big Al Aa Ab cl ca cb L.length xa.length xb.length w hna hnb h
  · cases hg : goodC (ctsC L) with
    | false => exact cback_bad Al Aa Ab cl ca cb xa.length xb.length L w (by omega) (by omega) hA hA2 hg
    | true => exact cback_good Al Aa Ab cl ca cb L xa xb w (by omega) (by omega) hA hA2 ha hb hcb hg
end Go.Proofs.Ytbfhfnbhfeedbaa
