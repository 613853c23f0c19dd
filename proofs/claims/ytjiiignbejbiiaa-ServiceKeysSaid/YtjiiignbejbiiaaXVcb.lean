/- Contract of Split of package service. Conditions: at most 100,000 bytes. -/
import Derived.Test.YtjiiignbejbiiaaXVca
import Derived.Test.YtjiiignbejbiiaaXLwk
namespace Go.Proofs.Ytjiiignbejbiiaa
open Go.Shelf Go.RowKit Go.Lib Go.Great
set_option maxRecDepth 100000
set_option maxHeartbeats 1000000
theorem ld_str {W : World} {p : Addr} {x : ByteArray} (h : W.cell? p = some (.string x)) : (loadVar 9 p).run Try.prog W = .ok (.string x) W := by
  have h9 := Try.isAgg9
  simp [loadVar, go_sem, h, h9]
theorem quietL_load {P : Program} {B : Nat} {W0 : World} {o : Oper} {a : Act} {K : Act → Prop} (ty : TypeId) (x : Operand) (ho : o.op = .load ty x) (p : Addr) (hx : a.eval x = .pointer (some p)) (v : Value) (hl : ∀ n : KeptL B W0, (loadVar ty p).run P n.val = .ok v n.val)
    (hk : K (a.put o.dst v)) : o.quiet P a (fun w' => ∃ n : KeptL B W0, w' = n.val) K :=
  ⟨v, fun w ⟨n, hn⟩ => by
    subst hn
    unfold Oper.quietAt execOp
    simp only [ho, hx, Instr.loadAt, Instr.sureAddr, Sem.run_bind, Sem.run_pure, Result.andThen_ok, hl n]
    exact ⟨rfl, rfl⟩, hk⟩
theorem keptL_ofS {P : Program} {f : FuncId} {args : Array Value} {v : Value} {B : Nat} {W0 : World} (hB : B ≤ W0.heap.size) (h : ∀ n : KeptL B W0, Calls P f args n.val fun e w' => e = .returned v ∧ Below n.val.heap.size n.val w') (n : KeptL B W0) :
    Calls P f args n.val fun e w' => e = .returned v ∧ ∃ m : KeptL B W0, w' = m.val :=
  (h n).mono (by rintro e w' ⟨rfl, hb⟩; exact ⟨rfl, ⟨w', n.property.trans (hb.mono (Nat.le_trans hB n.property.size))⟩, rfl⟩)
theorem results_4 {fn : Func} {p q r s : Tmp} (h : fn.results = #[.tmp p, .tmp q, .tmp r, .tmp s]) {P : Program} (tmps : Array Value) (w : World) (u v x y : Value) (hp : tmps.getD p undef = u) (hq : tmps.getD q undef = v) (hr : tmps.getD r undef = x) (hs : tmps.getD s undef = y) : (results fn tmps).run P w = .ok (.tuple #[u, v, x, y]) w := by
  have hp' : tmps[p]?.getD undef = u := by simpa using hp
  have hq' : tmps[q]?.getD undef = v := by simpa using hq
  have hr' : tmps[r]?.getD undef = x := by simpa using hr
  have hs' : tmps[s]?.getD undef = y := by simpa using hs
  simp [results, h, hp', hq', hr', hs']
theorem quietL_cut2 {B : Nat} {W0 : World} {o : Oper} {a : Act} {K : Act → Prop} (x y : Operand) (ho : o.op = .slice 25 x (some y) none none) (A : Option Addr) (n c : Nat) (hx : a.eval x = .slice A n c) (hy : a.eval y = .int .i64 ((2 : Nat) : Int)) (hkn : 2 ≤ n) (AC : Option Addr) (hAC : cutA A c 2 = AC)
    (hk : K (a.put o.dst (.slice AC (n - 2) (c - 2)))) : o.quiet Try.prog a (fun w' => ∃ n : KeptL B W0, w' = n.val) K :=
  quietL_val (.slice AC (n - 2) (c - 2)) (fun m => by
    subst hAC
    have := run_cut25 A n c 2 hkn m.val
    unfold execOp
    simp only [ho, hx, hy, Sem.run_bind, Option.map_some, Option.map_none, run_sliceAt_slice m.val 25 _ _ _ _ under25, this, Result.andThen_ok, Sem.run_pure]) hk
theorem cut2_at {W : World} {base : Nat} {A : Option Addr} {c : Nat} {L : List (List UInt8)} (h : SAt W base A L) (hn : 3 ≤ L.length) (hc : L.length ≤ c) : SAt W base (cutA A c 2) (L.drop 2) := by
  rcases h with h0 | ⟨g, o, rfl, hg, hr⟩
  · rw [h0] at hn
    simp at hn
  · refine .inr ⟨g, o + 2, by unfold cutA; rw [if_neg (by omega), Option.map_some, addr_add], hg, fun j hj => ?_⟩
    have hj' : 2 + j < L.length := by rw [List.length_drop] at hj; omega
    have h1 := hr (2 + j) hj'
    rw [← Nat.add_assoc] at h1
    rw [h1]
    simp
/-- What Split tells, as a value. -/
def tellsS (x : List UInt8 × List UInt8 × List UInt8 × Int) : Value := .tuple #[.string (bstr x.1), .string (bstr x.2.1), .string (bstr x.2.2.1), .int .i64 x.2.2.2]
theorem ssplit_any (s : List UInt8) (w : World) : Calls Try.prog 28 #[.string (bstr s)] w fun e w' => e = .returned (tellsS (splitS s)) ∧ Below w.heap.size w w' := by
  have HP := Lib.hid (sparts_any s w)
  unfold PartsP at HP
  cases hs : svcL s with
  | false =>
    have HP2 : Hid (Calls Try.prog 46 #[.string (bstr s)] w fun e w' => e = .returned (.tuple #[.slice none 0 0, .bool false]) ∧ Below w.heap.size w w') := Lib.hid (HP.out.mono (by
      rintro e w' ⟨hb, ⟨h, _⟩ | ⟨_, rfl⟩⟩
      · rw [hs] at h; cases h
      · exact ⟨rfl, hb⟩))
    have he : tellsS (splitS s) = .tuple #[.string ⟨#[]⟩, .string ⟨#[]⟩, .string ⟨#[]⟩, .int .i64 40] := by rw [splitS, hs]; rfl
    rw [he]
    clear HP hs he
    generalize bstr s = S at *
    go_enter Try.func28, Try.ntmps28
    go_wp2_with (go_at_call 46; (with_reducible refine HP2.out.mono ?_); rintro e w1 ⟨rfl, hb1⟩)
    refine bodyPost_ret (v := .tuple #[.string ⟨#[]⟩, .string ⟨#[]⟩, .string ⟨#[]⟩, .int .i64 40]) (results_4 (p := 2) (q := 3) (r := 4) (s := 5) rfl _ _ _ _ _ _ rfl rfl rfl rfl) rfl ?_
    exact ⟨rfl, hb1⟩
  | true =>
    have HP2 : Hid (Calls Try.prog 46 #[.string (bstr s)] w fun e w' => ∃ A c, e = .returned (.tuple #[.slice A (splitD s).length c, .bool true]) ∧ (splitD s).length ≤ c ∧ SAt w' w'.heap.size A (splitD s) ∧ Below w.heap.size w w') := Lib.hid (HP.out.mono (by
      rintro e w' ⟨hb, ⟨_, A, c, rfl, h1, h2⟩ | ⟨h, _⟩⟩
      · exact ⟨A, c, rfl, h1, h2, hb⟩
      · rw [hs] at h; cases h))
    obtain ⟨hg, h3, ⟨h4, h5⟩, h6⟩ := (svc_iff s).1 hs
    have he : tellsS (splitS s) = .tuple #[.string (bstr ((splitD s)[0]!.drop 1)), .string (bstr ((splitD s)[1]!.drop 1)), .string (bstr (joinD ((splitD s).drop 2))), .int .i64 0] := by rw [splitS, hs]; rfl
    have h1len : 4 ≤ (splitD s)[1]!.length := by
      rcases h6 with h6 | h6
      · have := congrArg List.length h6; rw [foldL_length] at this; have e : tcpL.length = 4 := rfl; omega
      · have := congrArg List.length h6; rw [foldL_length] at this; have e : udpL.length = 4 := rfl; omega
    have hsz : sizeD ((splitD s).drop 2) ≤ 1000 := by
      have h7 := sizeD_split s
      have h8 := ((goodL_iff s).1 hg).2
      have h9 : sizeD (splitD s) = sizeD ((splitD s).take 2) + sizeD ((splitD s).drop 2) := by rw [← sizeD_append, List.take_append_drop]
      omega
    rw [he]
    have HX0 := Lib.hid (bstr_cut (splitD s)[0]!)
    have HX1 := Lib.hid (bstr_cut (splitD s)[1]!)
    have hs0 := bstr_size (splitD s)[0]!
    have hs1 := bstr_size (splitD s)[1]!
    clear HP hs he h5 h6 hg
    generalize splitD s = L at *
    have HE0 : Hid ((bstr L[0]!).extract 1 L[0]!.length = bstr (L[0]!.drop 1)) := Lib.hid (by rw [HX0.out, List.take_length])
    have HE1 : Hid ((bstr L[1]!).extract 1 L[1]!.length = bstr (L[1]!.drop 1)) := Lib.hid (by rw [HX1.out, List.take_length])
    have HNJ : Hid (∀ A c W, SAt W W.heap.size A (L.drop 2) → L.length - 2 ≤ c → Calls Try.prog 47 #[.slice A (L.length - 2) c] W fun e w' => e = .returned (.string (bstr (joinD (L.drop 2)))) ∧ Below W.heap.size W w') := Lib.hid (fun A c W h1 h2 => by
      have h := name_any A c (L.drop 2) W h1 (by rw [List.length_drop]; omega) (by omega)
      rw [List.length_drop] at h
      exact h)
    clear HX0 HX1 hsz
    generalize bstr (joinD (L.drop 2)) = J at *
    generalize bstr (L[0]!.drop 1) = X0 at *
    generalize bstr (L[1]!.drop 1) = X1 at *
    generalize bstr s = S at *
    go_enter Try.func28, Try.ntmps28
    go_upto_region 4 with (go_at_call 46; (with_reducible refine HP2.out.mono ?_); rintro e w1 ⟨A, c, rfl, hc1, hA1, hb1⟩)
    have hA2 := Lib.hid hA1
    rcases hA1 with h0 | ⟨g1, o1, rfl, hg1, hr⟩
    · rw [h0] at h3
      simp at h3
    have k0 : 0 < L.length := by omega
    have k1 : 1 < L.length := by omega
    have hc0 := hr 0 k0
    have hc1' := hr 1 k1
    rw [← getElem!_pos L 0 k0] at hc0
    rw [← getElem!_pos L 1 k1] at hc1'
    have e1g : g1 < w1.heap.size := hg1
    have HL0 : Hid (∀ k : KeptL w1.heap.size w1, (loadVar 9 ⟨g1, o1, none⟩).run Try.prog k.val = .ok (.string (bstr L[0]!)) k.val) := Lib.hid (fun k => ld_str (by rw [k.property.cell e1g]; exact hc0))
    have HL1 : Hid (∀ k : KeptL w1.heap.size w1, (loadVar 9 ⟨g1, o1 + 1, none⟩).run Try.prog k.val = .ok (.string (bstr L[1]!)) k.val) := Lib.hid (fun k => ld_str (by rw [k.property.cell e1g]; exact hc1'))
    have HNM : Hid (∀ k : KeptL w1.heap.size w1, Calls Try.prog 47 #[.slice (cutA (some ⟨g1, o1, none⟩) c 2) (L.length - 2) (c - 2)] k.val fun e w' => e = .returned (.string J) ∧ Below k.val.heap.size k.val w') := Lib.hid (fun k => HNJ.out _ _ k.val ((cut2_at hA2.out h3 hc1).below k.property |>.more k.property.size) (by omega))
    obtain ⟨AC, hAC⟩ : ∃ AC, cutA (some ⟨g1, o1, none⟩) c 2 = AC := ⟨_, rfl⟩
    rw [hAC] at HNM
    have HAC := Lib.hid hAC
    clear hAC
    have he0 := HE0.out
    have he1 := HE1.out
    have i0 : (0 : Int) < (L.length : Int) := by omega
    have i1 : (1 : Int) < (L.length : Int) := by omega
    have j0 : (1 : Int) ≤ (L[0]!.length : Int) := by omega
    have j1 : (1 : Int) ≤ (L[1]!.length : Int) := by omega
    have HN2 : Hid (2 ≤ L.length) := Lib.hid (by omega)
    have HB1 := Lib.hid hb1
    clear hr hc0 hc1' HE0 HE1 HNJ hg1 e1g hA2 hb1 k0 k1 h3 hc1 HP2
    generalize bstr L[0]! = P0 at *
    generalize bstr L[1]! = P1 at *
    generalize L[0]!.length = l0 at *
    generalize L[1]!.length = l1 at *
    generalize L.length = n at *
    refine wp_region_keptL w1.heap.size w1 (Below.refl _ _) (by kernel_rfl) (by kernel_rfl) ?_
    repeat (first
      | (go_big_quiet_want; (with_reducible refine quietL_load (o := ⟨some 17, _, _, _, _, _⟩) 9 (.tmp 16) rfl _ ?_ _ HL0.out ?_); rfl; simp only [Act.put, List.setIfInBounds_toArray, List.set_cons_zero, List.set_cons_succ]; go_big_quiet_on)
      | (go_big_quiet_want; (with_reducible refine quietL_load (o := ⟨some 21, _, _, _, _, _⟩) 9 (.tmp 20) rfl _ ?_ _ HL1.out ?_); rfl; simp only [Act.put, List.setIfInBounds_toArray, List.set_cons_zero, List.set_cons_succ]; go_big_quiet_on)
      | (go_big_quiet_want; (with_reducible refine quietL_cut2 (o := ⟨some 24, _, _, _, _, _⟩) (.tmp 23) _ rfl _ _ _ ?_ ?_ HN2.out AC HAC.out ?_); rfl; rfl; simp only [Act.put, List.setIfInBounds_toArray, List.set_cons_zero, List.set_cons_succ]; go_big_quiet_on)
      | go_big_quiet_step (first | (go_at_call 47; with_reducible exact keptL_ofS (Nat.le_refl _) HNM.out _)))
    refine wpQuiet_nil ?_
    rintro wk ⟨⟨_, hwk⟩, rfl⟩
    go_wp2
    refine bodyPost_ret (v := .tuple #[.string X0, .string X1, .string J, .int .i64 0]) (results_4 (p := 2) (q := 3) (r := 4) (s := 5) rfl _ _ _ _ _ _ rfl rfl rfl rfl) rfl ?_
    exact ⟨rfl, HB1.out.trans (hwk.mono HB1.out.size)⟩
end Go.Proofs.Ytjiiignbejbiiaa
