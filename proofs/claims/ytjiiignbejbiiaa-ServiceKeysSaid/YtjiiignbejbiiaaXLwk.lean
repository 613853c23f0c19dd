/- Walk of LabelBack. Conditions: what comes in fits 2^47 bytes. -/
import Derived.Test.YtjiiignbejbiiaaXLla
import Derived.BigQuiet
namespace Go.Proofs.Ytjiiignbejbiiaa
open Go.Shelf Go.RowKit Go.Lib Go.Great
set_option maxRecDepth 100000
set_option maxHeartbeats 2000000
structure KeptL (B : Nat) (W0 : World) where
  val : World
  property : Below B W0 val
instance (B : Nat) (W0 : World) : Nonempty (KeptL B W0) := ⟨⟨W0, Below.refl _ _⟩⟩
theorem wp_region_keptL {P : Program} {id : Nat} {Q : Exit → Act → World → Prop} {a : Act} {w : World} {l : List Oper} (B : Nat) (W0 : World) (hW : Below B W0 w) (hm : P.follows .mixedOrders = true) (hB : Region.lexB .any l.toArray = true)
    (h : wpQuiet P l.toArray (fun w' => ∃ n : KeptL B W0, w' = n.val) (fun a' => ∀ w', (∃ n : KeptL B W0, w' = n.val) → Q .normal a' w') l a) : (Code.region id l.toArray true).wp P Q a w :=
  wp_region_quiet (C := fun w' => ∃ n : KeptL B W0, w' = n.val) hm hB ⟨⟨{ w with drawn := w.drawn + 1 }, ⟨hW.os, hW.tape, hW.output, hW.size, hW.block⟩⟩, rfl⟩ (by simpa using h)
theorem keptL_of {P : Program} {f : FuncId} {args : Array Value} {v : Value} {B : Nat} {W0 : World} (hB : B ≤ W0.heap.size) (h : ∀ W, Calls P f args W fun e w' => e = .returned v ∧ Below W.heap.size W w') (n : KeptL B W0) :
    Calls P f args n.val fun e w' => e = .returned v ∧ ∃ m : KeptL B W0, w' = m.val :=
  (h n.val).mono (by rintro e w' ⟨rfl, hb⟩; exact ⟨rfl, ⟨w', n.property.trans (hb.mono (Nat.le_trans hB n.property.size))⟩, rfl⟩)
theorem quietL_val {P : Program} {B : Nat} {W0 : World} {o : Oper} {a : Act} {K : Act → Prop} (v : Value) (hl : ∀ n : KeptL B W0, (execOp a.eval o).run P n.val = .ok (.value v) n.val)
    (hk : K (a.put o.dst v)) : o.quiet P a (fun w' => ∃ n : KeptL B W0, w' = n.val) K :=
  ⟨v, fun w ⟨n, hn⟩ => by
    subst hn
    unfold Oper.quietAt
    rw [hl n]
    exact ⟨rfl, rfl⟩, hk⟩
theorem quietL_conv {P : Program} {B : Nat} {W0 : World} {o : Oper} {a : Act} {K : Act → Prop} (s d : TypeId) (x : Operand) (ho : o.op = .convert s d x) (u v : Value) (hx : a.eval x = u) (hl : ∀ n : KeptL B W0, (convert s d u).run P n.val = .ok v n.val)
    (hk : K (a.put o.dst v)) : o.quiet P a (fun w' => ∃ n : KeptL B W0, w' = n.val) K :=
  quietL_val v (fun n => by
    unfold execOp
    simp only [ho, hx, Sem.run_bind, hl n, Result.andThen_ok, Sem.run_pure]) hk
theorem quietL_head {B : Nat} {W0 : World} {o : Oper} {a : Act} {K : Act → Prop} (x y : Operand) (ho : o.op = .slice 29 x none (some y) none) (A : Option Addr) (n c k : Nat) (hx : a.eval x = .slice A n c) (hy : a.eval y = .int .i64 (k : Int)) (hkc : k ≤ c)
    (hk : K (a.put o.dst (.slice (headA A c) k c))) : o.quiet Try.prog a (fun w' => ∃ n : KeptL B W0, w' = n.val) K :=
  quietL_val (.slice (headA A c) k c) (fun m => by
    have := run_head A n c k hkc m.val
    unfold execOp
    simp only [ho, hx, hy, Sem.run_bind, Option.map_some, Option.map_none, run_sliceAt_slice m.val 29 _ _ _ _ under22, this, Result.andThen_ok, Sem.run_pure]) hk
theorem none_run (w : World) : (Instr.buildSlice 29 0 #[]).run Try.prog w = .ok (.slice (some ⟨w.heap.size, 0, none⟩) 0 0) (w.alloc (.cells #[] 5)) := by kernel_rfl
theorem wpList_noneL {ops : Array Oper} {rest : List Oper} {o : Oper} {a : Act} {w : World} {Q : Exit → Act → World → Prop} (hgd : o.guard = none) (d : Nat) (hd : o.dst = some d) (ho : o.op = .buildSlice 29 0 #[])
    (h : wpList Try.prog ops Q rest (a.put (some d) (.slice (some ⟨w.heap.size, 0, none⟩) 0 0)) (w.alloc (.cells #[] 5))) : wpList Try.prog ops Q (o :: rest) a w :=
  wpList_plain hgd fun _ hK => by
    unfold Oper.wp execOp
    simp only [ho, List.map_toArray, List.map_nil, Sem.run_bind, none_run, Result.andThen_ok, Sem.run_pure]
    rw [← hd] at h
    exact hK _ _ h
theorem none_own (w : World) : (w.alloc (.cells #[] 5)).ownsRow w.heap.size 5 1 (.slice (some ⟨w.heap.size, 0, none⟩) 0 0) 0 [] :=
  ⟨rfl, .inr ⟨w.heap.size, 0, #[], rfl, Nat.le_refl _, World.alloc_heap_new w _, Nat.le_refl _, Nat.zero_le _, rfl, rfl⟩⟩
theorem app_next {W w1 : World} {n₀ : Nat} {v : Value} {k : Nat} {xs : List Value} (hrow : W.ownsRow n₀ 5 1 v k xs) (hn₀ : n₀ ≤ W.heap.size) (hgrow : W.grownBy w1 v.ownBlock) : Below n₀ W w1 := app_below0 hrow hn₀ hgrow
theorem joined_is {W : World} {base : Nat} {v : Value} {a x b : List UInt8} {n : Nat} (h : W.ownsRow base 5 1 v n (([] ++ bcells a) ++ bcells x ++ bcells b)) : IsB v (a ++ x ++ b) W := by
  have hl := h.1
  have e : ([] ++ bcells a) ++ bcells x ++ bcells b = bcells (a ++ x ++ b) := by simp [bcells]
  rw [e] at h hl
  have hn : n = (a ++ x ++ b).length := by rw [bcells_length] at hl; omega
  subst hn
  exact IsB.of_own h
theorem lback_big (s : List UInt8) (A A2 : Option Addr) (c c2 na nb : Nat) (ha : na ≤ 140737488355328) (hb : nb ≤ 140737488355328) (hbig : 600 < s.length ∨ 2000 < na + nb) (w : World) :
    Calls Try.prog 5 #[.string (bstr s), .slice A na c, .slice A2 nb c2] w fun e w' => e = .returned (.bool true) ∧ Below w.heap.size w w' := by
  have hss := bstr_size s
  have HLI := Lib.hid (lives_any w)
  have hn : (600 : Int) < (s.length : Int) ∨ ¬ (600 : Int) < (s.length : Int) ∧ (2000 : Int) < (na : Int) + (nb : Int) := by omega
  clear hbig
  generalize bstr s = SB at *
  generalize s.length = ls at *
  rcases hn with hn | ⟨hn, hn2⟩
  · go_enter Try.func5, Try.ntmps5
    go_wp2_with (go_at_call 10; (with_reducible refine HLI.out.mono ?_); rintro e w1 ⟨rfl, hb1⟩)
    go_ret
    exact ⟨rfl, by assumption⟩
  · go_enter Try.func5, Try.ntmps5
    go_wp2_with (go_at_call 10; (with_reducible refine HLI.out.mono ?_); rintro e w1 ⟨rfl, hb1⟩)
    go_ret
    exact ⟨rfl, by assumption⟩
theorem lback_good (s : List UInt8) (A A2 : Option Addr) (c c2 : Nat) (xa xb : List UInt8) (hs : s.length ≤ 600) (hl : xa.length + xb.length ≤ 2000) (hc : xa.length ≤ c) (hc2 : xb.length ≤ c2) (w : World) (hA : BAt w w.heap.size A xa) (hA2 : BAt w w.heap.size A2 xb) (hg : goodL s = true) :
    Calls Try.prog 5 #[.string (bstr s), .slice A xa.length c, .slice A2 xb.length c2] w fun e w' => e = .returned (.bool true) ∧ Below w.heap.size w w' := by
  have hss := bstr_size s
  have h1' : ¬ (600 : Int) < (s.length : Int) := by omega
  have h2' : ¬ (2000 : Int) < (xa.length : Int) + (xb.length : Int) := by omega
  have HLI : Hid (∀ W, Calls Try.prog 10 #[] W fun e w' => e = .returned (.bool true) ∧ Below W.heap.size W w') := Lib.hid lives_any
  have HU : Hid (∀ W, Below w.heap.size w W → Calls Try.prog 25 #[.slice A2 xb.length c2, .int .i64 0] W fun e w' => e = .returned (tellsU (unwireL xb 0)) ∧ Below w.heap.size w w') := Lib.hid (fun W hW => (unwire_any A2 c2 xb 0 (by omega) hc2 W ((hA2.below hW).more hW.size)).mono (by
    rintro e w' ⟨rfl, h4⟩
    exact ⟨rfl, hW.trans (h4.mono hW.size)⟩))
  have HBK := Lib.hid (unwire_back xb)
  have HER := Lib.hid (unwire_err xb 0)
  have HC2 : Hid (∀ k : Nat, ∀ W, Below w.heap.size w W → (convert 29 9 (.slice (headA A2 c2) (xb.take k).length c2)).run Try.prog W = .ok (.string (bstr (xb.take k))) W) := Lib.hid (fun k W hW => by
    have := (((hA2.below hW).more hW.size).head hc2 (k := k))
    exact run_convert_bat (P := Try.prog) 29 9 5 c2 Try.underlying29 Try.underlying5 Try.underlying9 this)
  have HW : Hid (∀ W, Below w.heap.size w W → Calls Try.prog 23 #[.string (bstr s)] W fun e w' => ∃ AX cX, e = .returned (.tuple #[.slice AX (wireL s).length cX, .int .i64 0]) ∧ BAt w' w'.heap.size AX (wireL s) ∧ Below w.heap.size w w') := Lib.hid (fun W hW => (wire_any s W).mono (by
    rintro e w' ⟨v, rfl, ⟨AX, cX, rfl, h4, h5⟩, h6⟩
    have ew : wireT s = (wireL s, 0) := by rw [wireT, hg]; rfl
    rw [ew] at h5 ⊢
    exact ⟨AX, cX, rfl, h5, hW.trans (h6.mono hW.size)⟩))
  have hwl := wireL_length s
  have hsl := ((goodL_iff s).1 hg).2
  have hw255 : ¬ (255 : Int) < ((wireL s).length : Int) := by omega
  have HUA : Hid (∀ W base v n, W.ownsRow base 5 1 v n (([] ++ bcells xa) ++ bcells (wireL s) ++ bcells xb) → Below w.heap.size w W → Calls Try.prog 25 #[v, .int .i64 (xa.length : Int)] W fun e w' => e = .returned (.tuple #[.string (bstr s), .int .i64 ((xa.length : Int) + ((wireL s).length : Int)), .int .i64 0]) ∧ Below w.heap.size w w') := Lib.hid (fun W base v n hv hW => by
    obtain ⟨AX, cX, rfl, h4, h5⟩ := joined_is hv
    refine (unwire_any AX cX _ (xa.length : Int) (by simp only [List.length_append]; omega) h4 W h5).mono ?_
    rintro e w' ⟨rfl, h6⟩
    rw [unwire_wire s xa xb hg]
    exact ⟨rfl, hW.trans (h6.mono hW.size)⟩)
  have HSA : Hid (∀ W, Below w.heap.size w W → Src Try.prog 1 29 (.slice A xa.length c) xa.length (bcells xa) W) := Lib.hid (fun W hW => ((hA.below hW).more hW.size).src Try.underlying29 c)
  have HSB : Hid (∀ W, Below w.heap.size w W → Src Try.prog 1 29 (.slice A2 xb.length c2) xb.length (bcells xb) W) := Lib.hid (fun W hW => ((hA2.below hW).more hW.size).src Try.underlying29 c2)
  have HSX : Hid (∀ W0 W AX cX, BAt W0 W0.heap.size AX (wireL s) → Below W0.heap.size W0 W → Src Try.prog 1 29 (.slice AX (wireL s).length cX) (wireL s).length (bcells (wireL s)) W) := Lib.hid (fun W0 W AX cX h hb => ((h.below hb).more hb.size).src Try.underlying29 cX)
  have hnr := none_run
  obtain ⟨i0, hi, hz0, hz1, hz2⟩ := info_parts info5
  have hbl := bstr_list
  have HB0 := Below.refl w.heap.size w
  generalize wireL s = X at *
  have HLS : Hid (X.length ≤ 255 ∧ xa.length ≤ 2000 ∧ xb.length ≤ 2000) := Lib.hid ⟨by omega, by omega, by omega⟩
  generalize X.length = lx at *
  generalize xa.length = la at *
  obtain ⟨hlx, hla, hlb⟩ := HLS.out
  clear hA hA2 hg hl hsl hwl hs HLS
  generalize bstr s = SB at *
  go_enter Try.func5, Try.ntmps5
  go_upto_region 5 with (go_at_call 23; (with_reducible refine (HW.out _ HB0).mono ?_); rintro e w1 ⟨AX, cX, rfl, hBX, hb1⟩)
  have hO0 := none_own w1
  have k0 : Below w1.heap.size w1 (w1.alloc (.cells #[] 5)) := (Below.refl _ w1).alloc (Nat.le_refl _) _
  have HB1 : Hid (∀ W, Below w1.heap.size w1 W → Below w.heap.size w W) := Lib.hid (fun W hW => hb1.trans (hW.mono hb1.size))
  have HSZ : Hid (∀ W, Below w1.heap.size w1 W → w1.heap.size ≤ W.heap.size) := Lib.hid (fun W hW => hW.size)
  have hbb := HB1.out _ k0
  go_upto_region 6 with (first
    | ((with_reducible refine wpList_noneL (o := ⟨some 37, _, _, _, _, _⟩) rfl 37 rfl rfl ?_))
    | (at_builtin; refine wpList_append_src _ rfl (.tmp 37) (.tmp 38) 29 29 rfl w1.heap.size 5 i0 _ 1 Try.underlying29 hi hz0 hz1 hz2 rfl _ 0 [] rfl hO0 _ la (bcells xa) rfl (HSA.out _ hbb) (by simp only [maxLen]; omega) (by omega) (HSZ.out _ k0) ?_; intro v2 w2 ho2 hg2 _; have k2 := k0.trans (app_next hO0 (HSZ.out _ k0) hg2))
    | (at_builtin; refine wpList_append_src _ rfl (.tmp 39) (.tmp 40) 29 29 rfl w1.heap.size 5 i0 _ 1 Try.underlying29 hi hz0 hz1 hz2 rfl _ _ _ rfl ho2 _ lx (bcells X) rfl (HSX.out w1 _ AX cX hBX k2) (by simp only [maxLen]; omega) (by omega) (HSZ.out _ k2) ?_; intro v3 w3 ho3 hg3 _; have k3 := k2.trans (app_next ho2 (HSZ.out _ k2) hg3))
    | (at_builtin; refine wpList_append_src _ rfl (.tmp 41) (.tmp 42) 29 29 rfl w1.heap.size 5 i0 _ 1 Try.underlying29 hi hz0 hz1 hz2 rfl _ _ _ rfl ho3 _ xb.length (bcells xb) rfl (HSB.out _ (HB1.out _ k3)) (by simp only [maxLen]; omega) (by omega) (HSZ.out _ k3) ?_; intro v4 w4 ho4 hg4 _; have k4 := k3.trans (app_next ho3 (HSZ.out _ k3) hg4))
    | (go_at_call 25; (with_reducible refine (HUA.out _ _ _ _ ho4 (HB1.out _ k4)).mono ?_); rintro e w5 ⟨rfl, hb5⟩))
  go_upto_region 8 with fail
  have HB5 := hb5
  clear ho2 ho3 ho4 hg2 hg3 hg4 k2 k3 k4 hO0 k0 hbb hBX HUA HSA HSB HSX HW HB1 HSZ hb1
  obtain ⟨⟨n, T, f⟩, hu⟩ : ∃ u, u = unwireL xb 0 := ⟨_, rfl⟩
  rw [← hu] at HU
  unfold tellsU at HU
  simp only at HU
  by_cases hf : f = 0
  · subst hf
    obtain ⟨hgn, hT, hTl, htk⟩ := HBK.out n T hu.symm
    have HW2 : Hid (∀ W, Below w.heap.size w W → Calls Try.prog 23 #[.string (bstr n)] W fun e w' => ∃ AX cX, e = .returned (.tuple #[.slice AX (wireL n).length cX, .int .i64 0]) ∧ BAt w' w'.heap.size AX (wireL n) ∧ Below w.heap.size w w') := Lib.hid (fun W hW => (wire_any n W).mono (by
      rintro e w' ⟨v, rfl, ⟨AX, cX, rfl, h4, h5⟩, h6⟩
      have ew : wireT n = (wireL n, 0) := by rw [wireT, hgn]; rfl
      rw [ew] at h5 ⊢
      exact ⟨AX, cX, rfl, h5, hW.trans (h6.mono hW.size)⟩))
    have HCB := Lib.hid (HC2.out (wireL n).length)
    rw [htk] at HCB
    have HCX : Hid (∀ W AX cX, BAt W W.heap.size AX (wireL n) → (convert 29 9 (.slice AX (wireL n).length cX)).run Try.prog W = .ok (.string (bstr (wireL n))) W) := Lib.hid (fun W AX cX h => run_convert_bat (P := Try.prog) 29 9 5 cX Try.underlying29 Try.underlying5 Try.underlying9 h)
    have hll : (wireL n).length ≤ c2 := by omega
    have hT2 : ((wireL n).length : Int) ≤ (xb.length : Int) := by omega
    subst hT
    clear hu HBK HER hgn htk hTl HC2
    generalize wireL n = Y at *
    generalize bstr Y = YB at *
    generalize bstr n = NB at *
    have hYY : (YB.toList == YB.toList) = true := by simp
    have HYL := Lib.hid hll
    generalize Y.length = ly at *
    go_upto_region 12 with (first
      | (go_at_call 25; (with_reducible refine (HU.out _ (by assumption)).mono ?_); rintro e w6 ⟨rfl, hb6⟩)
      | (go_at_call 23; (with_reducible refine (HW2.out _ hb6).mono ?_); rintro e w7 ⟨AY, cY, rfl, hBY, hb7⟩))
    have HC1' : Hid (∀ k : KeptL w7.heap.size w7, (convert 29 9 (.slice AY ly cY)).run Try.prog k.val = .ok (.string YB) k.val) := Lib.hid (fun k => HCX.out k.val AY cY ((hBY.below k.property).more k.property.size))
    have HC2' : Hid (∀ k : KeptL w7.heap.size w7, (convert 29 9 (.slice (headA A2 c2) ly c2)).run Try.prog k.val = .ok (.string YB) k.val) := Lib.hid (fun k => HCB.out k.val (hb7.trans (k.property.mono hb7.size)))
    have HBE := Lib.hid hb7
    clear hBY hb6 hb7 HCX HCB HU HW2
    refine wp_region_keptL w7.heap.size w7 (Below.refl _ _) (by kernel_rfl) (by kernel_rfl) ?_
    repeat (first
      | (go_big_quiet_want; (with_reducible refine quietL_conv (o := ⟨some 109, _, _, _, _, _⟩) 29 9 (.tmp 108) rfl _ _ ?_ HC1'.out ?_); rfl; simp only [Act.put, List.setIfInBounds_toArray, List.set_cons_zero, List.set_cons_succ]; go_big_quiet_on)
      | (go_big_quiet_want; (with_reducible refine quietL_conv (o := ⟨some 113, _, _, _, _, _⟩) 29 9 (.tmp 112) rfl _ _ ?_ HC2'.out ?_); rfl; simp only [Act.put, List.setIfInBounds_toArray, List.set_cons_zero, List.set_cons_succ]; go_big_quiet_on)
      | (go_big_quiet_want; (with_reducible refine quietL_head (o := ⟨some 112, _, _, _, _, _⟩) (.tmp 110) (.tmp 111) rfl A2 xb.length c2 ly ?_ ?_ HYL.out ?_); rfl; rfl; simp only [Act.put, List.setIfInBounds_toArray, List.set_cons_zero, List.set_cons_succ]; go_big_quiet_on)
      | go_big_quiet_step (first | (go_at_call 10; with_reducible exact keptL_of (Nat.le_refl _) HLI.out _)))
    refine wpQuiet_nil ?_
    rintro wk ⟨⟨_, hwk⟩, rfl⟩
    go_wp2
    go_ret
    exact ⟨rfl, HBE.out.trans (hwk.mono HBE.out.size)⟩
  · obtain ⟨rfl, rfl⟩ := HER.out n T f hu.symm hf
    rw [show bstr [] = (⟨#[]⟩ : ByteArray) from rfl] at HU
    clear hu HBK HER HC2
    have HLI2 : Hid (∀ W, Below w.heap.size w W → Calls Try.prog 10 #[] W fun e w' => e = .returned (.bool true) ∧ Below w.heap.size w w') := Lib.hid (fun W hW => (HLI.out W).mono (by rintro e w' ⟨rfl, h⟩; exact ⟨rfl, hW.trans (h.mono hW.size)⟩))
    have hfb : (f == 0) = false := by simpa using hf
    go_wp2_with (first
      | (go_at_call 25; (with_reducible refine (HU.out _ (by assumption)).mono ?_); rintro e w6 ⟨rfl, hb6⟩)
      | (go_at_call 10; (with_reducible refine (HLI2.out _ hb6).mono ?_); rintro e w7 ⟨rfl, hb7⟩))
    go_ret
    exact ⟨rfl, hb7⟩
theorem lback_bad (s : List UInt8) (A A2 : Option Addr) (c c2 : Nat) (xa xb : List UInt8) (hs : s.length ≤ 600) (hl : xa.length + xb.length ≤ 2000) (hc : xa.length ≤ c) (hc2 : xb.length ≤ c2) (w : World) (hA : BAt w w.heap.size A xa) (hA2 : BAt w w.heap.size A2 xb) (hg : goodL s = false) :
    Calls Try.prog 5 #[.string (bstr s), .slice A xa.length c, .slice A2 xb.length c2] w fun e w' => e = .returned (.bool true) ∧ Below w.heap.size w w' := by
  have hss := bstr_size s
  have h1' : ¬ (600 : Int) < (s.length : Int) := by omega
  have h2' : ¬ (2000 : Int) < (xa.length : Int) + (xb.length : Int) := by omega
  have HLI : Hid (∀ W, Calls Try.prog 10 #[] W fun e w' => e = .returned (.bool true) ∧ Below W.heap.size W w') := Lib.hid lives_any
  have HU : Hid (∀ W, Below w.heap.size w W → Calls Try.prog 25 #[.slice A2 xb.length c2, .int .i64 0] W fun e w' => e = .returned (tellsU (unwireL xb 0)) ∧ Below w.heap.size w w') := Lib.hid (fun W hW => (unwire_any A2 c2 xb 0 (by omega) hc2 W ((hA2.below hW).more hW.size)).mono (by
    rintro e w' ⟨rfl, h4⟩
    exact ⟨rfl, hW.trans (h4.mono hW.size)⟩))
  have HBK := Lib.hid (unwire_back xb)
  have HER := Lib.hid (unwire_err xb 0)
  have HC2 : Hid (∀ k : Nat, ∀ W, Below w.heap.size w W → (convert 29 9 (.slice (headA A2 c2) (xb.take k).length c2)).run Try.prog W = .ok (.string (bstr (xb.take k))) W) := Lib.hid (fun k W hW => by
    have := (((hA2.below hW).more hW.size).head hc2 (k := k))
    exact run_convert_bat (P := Try.prog) 29 9 5 c2 Try.underlying29 Try.underlying5 Try.underlying9 this)
  have HW : Hid (∀ W, Below w.heap.size w W → Calls Try.prog 23 #[.string (bstr s)] W fun e w' => ∃ v, e = .returned (.tuple #[v, .int .i64 40]) ∧ Below w.heap.size w w') := Lib.hid (fun W hW => (wire_any s W).mono (by
    rintro e w' ⟨v, rfl, h4, h6⟩
    have ew : wireT s = ([], 40) := by rw [wireT, hg]; rfl
    rw [ew]
    exact ⟨v, rfl, hW.trans (h6.mono hW.size)⟩))
  have HB0 := Below.refl w.heap.size w
  clear hA hA2 hg
  generalize bstr s = SB at *
  go_enter Try.func5, Try.ntmps5
  go_upto_region 8 with (go_at_call 23; (with_reducible refine (HW.out _ HB0).mono ?_); rintro e w1 ⟨v1, rfl, hb1⟩)
  obtain ⟨⟨n, T, f⟩, hu⟩ : ∃ u, u = unwireL xb 0 := ⟨_, rfl⟩
  rw [← hu] at HU
  unfold tellsU at HU
  simp only at HU
  by_cases hf : f = 0
  · subst hf
    obtain ⟨hgn, hT, hTl, htk⟩ := HBK.out n T hu.symm
    have HW2 : Hid (∀ W, Below w.heap.size w W → Calls Try.prog 23 #[.string (bstr n)] W fun e w' => ∃ AX cX, e = .returned (.tuple #[.slice AX (wireL n).length cX, .int .i64 0]) ∧ BAt w' w'.heap.size AX (wireL n) ∧ Below w.heap.size w w') := Lib.hid (fun W hW => (wire_any n W).mono (by
      rintro e w' ⟨v, rfl, ⟨AX, cX, rfl, h4, h5⟩, h6⟩
      have ew : wireT n = (wireL n, 0) := by rw [wireT, hgn]; rfl
      rw [ew] at h5 ⊢
      exact ⟨AX, cX, rfl, h5, hW.trans (h6.mono hW.size)⟩))
    have HCB := Lib.hid (HC2.out (wireL n).length)
    rw [htk] at HCB
    have HCX : Hid (∀ W AX cX, BAt W W.heap.size AX (wireL n) → (convert 29 9 (.slice AX (wireL n).length cX)).run Try.prog W = .ok (.string (bstr (wireL n))) W) := Lib.hid (fun W AX cX h => run_convert_bat (P := Try.prog) 29 9 5 cX Try.underlying29 Try.underlying5 Try.underlying9 h)
    have hll : (wireL n).length ≤ c2 := by omega
    have hT2 : ((wireL n).length : Int) ≤ (xb.length : Int) := by omega
    subst hT
    clear hu HBK HER hgn htk hTl HC2
    generalize wireL n = Y at *
    generalize bstr Y = YB at *
    generalize bstr n = NB at *
    have hYY : (YB.toList == YB.toList) = true := by simp
    have HYL := Lib.hid hll
    generalize Y.length = ly at *
    go_upto_region 12 with (first
      | (go_at_call 25; (with_reducible refine (HU.out _ (by assumption)).mono ?_); rintro e w6 ⟨rfl, hb6⟩)
      | (go_at_call 23; (with_reducible refine (HW2.out _ hb6).mono ?_); rintro e w7 ⟨AY, cY, rfl, hBY, hb7⟩))
    have HC1' : Hid (∀ k : KeptL w7.heap.size w7, (convert 29 9 (.slice AY ly cY)).run Try.prog k.val = .ok (.string YB) k.val) := Lib.hid (fun k => HCX.out k.val AY cY ((hBY.below k.property).more k.property.size))
    have HC2' : Hid (∀ k : KeptL w7.heap.size w7, (convert 29 9 (.slice (headA A2 c2) ly c2)).run Try.prog k.val = .ok (.string YB) k.val) := Lib.hid (fun k => HCB.out k.val (hb7.trans (k.property.mono hb7.size)))
    have HBE := Lib.hid hb7
    clear hBY hb6 hb7 HCX HCB HU HW2
    refine wp_region_keptL w7.heap.size w7 (Below.refl _ _) (by kernel_rfl) (by kernel_rfl) ?_
    repeat (first
      | (go_big_quiet_want; (with_reducible refine quietL_conv (o := ⟨some 109, _, _, _, _, _⟩) 29 9 (.tmp 108) rfl _ _ ?_ HC1'.out ?_); rfl; simp only [Act.put, List.setIfInBounds_toArray, List.set_cons_zero, List.set_cons_succ]; go_big_quiet_on)
      | (go_big_quiet_want; (with_reducible refine quietL_conv (o := ⟨some 113, _, _, _, _, _⟩) 29 9 (.tmp 112) rfl _ _ ?_ HC2'.out ?_); rfl; simp only [Act.put, List.setIfInBounds_toArray, List.set_cons_zero, List.set_cons_succ]; go_big_quiet_on)
      | (go_big_quiet_want; (with_reducible refine quietL_head (o := ⟨some 112, _, _, _, _, _⟩) (.tmp 110) (.tmp 111) rfl A2 xb.length c2 ly ?_ ?_ HYL.out ?_); rfl; rfl; simp only [Act.put, List.setIfInBounds_toArray, List.set_cons_zero, List.set_cons_succ]; go_big_quiet_on)
      | go_big_quiet_step (first | (go_at_call 10; with_reducible exact keptL_of (Nat.le_refl _) HLI.out _)))
    refine wpQuiet_nil ?_
    rintro wk ⟨⟨_, hwk⟩, rfl⟩
    go_wp2
    go_ret
    exact ⟨rfl, HBE.out.trans (hwk.mono HBE.out.size)⟩
  · obtain ⟨rfl, rfl⟩ := HER.out n T f hu.symm hf
    rw [show bstr [] = (⟨#[]⟩ : ByteArray) from rfl] at HU
    clear hu HBK HER HC2
    have HLI2 : Hid (∀ W, Below w.heap.size w W → Calls Try.prog 10 #[] W fun e w' => e = .returned (.bool true) ∧ Below w.heap.size w w') := Lib.hid (fun W hW => (HLI.out W).mono (by rintro e w' ⟨rfl, h⟩; exact ⟨rfl, hW.trans (h.mono hW.size)⟩))
    have hfb : (f == 0) = false := by simpa using hf
    go_wp2_with (first
      | (go_at_call 25; (with_reducible refine (HU.out _ (by assumption)).mono ?_); rintro e w6 ⟨rfl, hb6⟩)
      | (go_at_call 10; (with_reducible refine (HLI2.out _ hb6).mono ?_); rintro e w7 ⟨rfl, hb7⟩))
    go_ret
    exact ⟨rfl, hb7⟩
theorem lback_walk (s : List UInt8) (A A2 : Option Addr) (c c2 : Nat) (xa xb : List UInt8) (ha : xa.length ≤ 140737488355328) (hb : xb.length ≤ 140737488355328) (hc : xa.length ≤ c) (hc2 : xb.length ≤ c2) (w : World) (hA : BAt w w.heap.size A xa) (hA2 : BAt w w.heap.size A2 xb) :
    Calls Try.prog 5 #[.string (bstr s), .slice A xa.length c, .slice A2 xb.length c2] w fun e w' => e = .returned (.bool true) ∧ Below w.heap.size w w' := by
  by_cases h : 600 < s.length ∨ 2000 < xa.length + xb.length
  · exact lback_big s A A2 c c2 xa.length xb.length ha hb h w
  · cases hg : goodL s with
    | false => exact lback_bad s A A2 c c2 xa xb (by omega) (by omega) hc hc2 w hA hA2 hg
    | true => exact lback_good s A A2 c c2 xa xb (by omega) (by omega) hc hc2 w hA hA2 hg
end Go.Proofs.Ytjiiignbejbiiaa
