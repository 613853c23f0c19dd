/- What the statements of label lean on: contracts in one form, and the chapter's examples. Conditions: at most 50,000 bytes. Walk of ServiceTells. No condition. Over, Alive, Left, bare, Stone of the program. No condition. bare, isTarget, Good of the program. Conditions: targets of at most 100,000 bytes. Good of the program. Conditions: targets of at most 100,000 bytes. -/
import Derived.Test.YtkceipkgebgigaaGreatProg
import Derived.Maps.AppendAt
import Derived.RangeFuncBox
import Derived.Lib.AppendStr
import Derived.Test.YtkceipkgebgigaaGreatXJLcc
import Derived.Test.YtkceipkgebgigaaGreatXJLci
import Derived.Test.YtkceipkgebgigaaGreatXKPPPMed
import Derived.Deep.Cut
import Derived.Deep.QuietTactic
import Derived.BigQuiet
import Derived.Shelf.Abstract
import Derived.Test.YtkceipkgebgigaaGreatXJPWords
import Derived.Sort.Grow
import Derived.Lib.SlBytesConst
import Derived.LoopTactic
import Derived.Stop.BytesEq
import Derived.Deep.AppendSrc
import Derived.Lib.ConvBytes
import Derived.Laws.ResultCell
import Derived.StillTailTactics
import Derived.Shelf.SlicesE.Clone
import Derived.Test.YtkceipkgebgigaaGreatXEOctc
section
namespace Go.Proofs.YtkceipkgebgigaaGreat
open Go.Shelf Go.RowKit Go.Lib Go.Great
set_option maxRecDepth 100000
set_option maxHeartbeats 1000000
/-- A slice of bytes. -/
def IsB (v : Value) (xs : List UInt8) (w : World) : Prop := ∃ A c, v = .slice A xs.length c ∧ xs.length ≤ c ∧ BAt w w.heap.size A xs
theorem IsB.of_own {base : Nat} {v : Value} {xs : List UInt8} {w : World} (h : w.ownsRow base 5 1 v xs.length (bcells xs)) : IsB v xs w := by
  have h2 := h
  rcases h.2 with ⟨hv, hn⟩ | ⟨g, cap, cur, hv, hb, hg, hn, _⟩
  · subst hv
    exact ⟨none, 0, by rw [hn], by omega, .inl (List.eq_nil_of_length_eq_zero hn)⟩
  · subst hv
    exact ⟨_, cap, rfl, hn, BAt.of_own h2 (Nat.le_refl _)⟩
theorem IsB.below {v : Value} {xs : List UInt8} {w w' : World} (h : IsB v xs w) (hb : Below w.heap.size w w') : IsB v xs w' := by
  obtain ⟨A, c, h1, h2, h3⟩ := h
  exact ⟨A, c, h1, h2, (h3.below hb).more hb.size⟩
theorem IsB.conv {v : Value} {xs : List UInt8} {w : World} (h : IsB v xs w) : (convert 34 9 v).run Tryz.prog w = .ok (.string (bstr xs)) w := by
  obtain ⟨A, c, rfl, _, h3⟩ := h
  exact run_convert_bat (P := Tryz.prog) 34 9 5 c Tryz.underlying34 Tryz.underlying5 Tryz.underlying9 h3
end Go.Proofs.YtkceipkgebgigaaGreat
end
section
namespace Go.Proofs.YtkceipkgebgigaaGreat
open Go.Shelf Go.RowKit Go.Lib Go.Great
set_option maxRecDepth 100000
set_option maxHeartbeats 2000000
theorem upB {f : FuncId} {args : Array Value} {v : Value} (w : World) (h : ∀ W, Calls Tryz.prog f args W fun e w' => e = .returned v ∧ Below W.heap.size W w') : Hid (∀ W, Below w.heap.size w W → Calls Tryz.prog f args W fun e w' => e = .returned v ∧ Below w.heap.size w w') :=
  Lib.hid (fun W hW => (h W).mono (by rintro e w' ⟨rfl, hb⟩; exact ⟨rfl, hW.trans (hb.mono hW.size)⟩))
theorem wpList_loadG {P : Program} {ops : Array Oper} {rest : List Oper} {o : Oper} {a : Act} {w : World} {Q : Exit → Act → World → Prop} (hw : Region.wanted o (yielded ops a.tmps) = true) (ty : TypeId) (x : Operand) (ho : o.op = .load ty x) (p : Addr) (hx : a.eval x = .pointer (some p)) (v : Value) (hl : (loadVar ty p).run P w = .ok v w)
    (h : wpList P ops Q rest (a.put o.dst v) w) : wpList P ops Q (o :: rest) a w :=
  BigFrame.wpList_want hw fun _ hK => wp_loadV ty x ho p hx v hl (hK _ _ h)
end Go.Proofs.YtkceipkgebgigaaGreat
end
section
namespace Go.Proofs.YtkceipkgebgigaaGreat
open Go.Shelf Go.RowKit Go.Lib Go.Great
set_option maxRecDepth 100000
set_option maxHeartbeats 1000000
theorem over_any (i : Ins) (n : Nat) (w : World) : Calls Tryz.prog 45 #[.agg (encI i).toArray, .int .u64 (n : Int)] w fun e w' => e = .returned (.bool (overI i n)) ∧ Below w.heap.size w w' := by
  have hb : Below w.heap.size w (w.alloc (.cells (encI i).toArray 29)) := (Below.refl _ w).alloc (Nat.le_refl _) _
  have HF := fldB (heap_alloc_new w (.cells (encI i).toArray 29))
  have HK := Lib.hid HF.all
  have HC := Lib.hid (end_any i)
  have HE : Hid (((endI i : Nat) : Int) ≤ (n : Int) ↔ overI i n = true) := Lib.hid (by unfold overI; rw [decide_eq_true_eq]; omega)
  have HB := Lib.hid (fun W (h : W = (w.alloc (.cells (encI i).toArray 29)).alloc (.cells (encI i).toArray 29)) => show Below w.heap.size w W by rw [h]; exact hb.alloc hb.size _)
  generalize (encI i).toArray = X at *
  generalize endI i = E at *
  generalize overI i n = k at *
  clear hb HF
  go_enter Tryz.func45, Tryz.ntmps45
  go_wp2_with (first
    | ((with_reducible refine wpList_loadV (op := ⟨some 5, _, _, _, _, _⟩) rfl 29 (.tmp 2) rfl _ ?_ _ HK.out ?_); rfl)
    | (go_at_call 50; (with_reducible refine (HC.out _).mono ?_); rintro e w1 ⟨rfl, hw1⟩))
  go_ret
  refine ⟨?_, HB.out _ rfl⟩
  have := HE.out
  cases k
  · simp only [Bool.false_eq_true, iff_false] at this
    simp
    omega
  · simp only [iff_true] at this
    simp
    omega
theorem alive_any (i : Ins) (n : Nat) (w : World) : Calls Tryz.prog 42 #[.agg (encI i).toArray, .int .u64 (n : Int)] w fun e w' => e = .returned (.bool (aliveI i n)) ∧ Below w.heap.size w w' := by
  have hb : Below w.heap.size w (w.alloc (.cells (encI i).toArray 29)) := (Below.refl _ w).alloc (Nat.le_refl _) _
  have HF := fldB (heap_alloc_new w (.cells (encI i).toArray 29))
  have HK := Lib.hid HF.all
  have c1 := HF.born
  have HC := upB w (over_any i n)
  have HE : Hid (aliveI i n = (decide (i.born ≤ n) && !overI i n)) := Lib.hid rfl
  have HB := Lib.hid hb
  generalize (encI i).toArray = X at *
  generalize overI i n = k at *
  generalize aliveI i n = r at *
  generalize i.born = b at *
  clear hb HF
  by_cases h : (b : Int) ≤ (n : Int)
  · have hr : r = !k := by rw [HE.out, decide_eq_true (show b ≤ n by omega), Bool.true_and]
    subst hr
    clear HE
    go_enter Tryz.func42, Tryz.ntmps42
    go_wp2_with (first
      | ((with_reducible refine wpList_loadG (o := ⟨some 10, _, _, _, _, _⟩) rfl 29 (.tmp 2) rfl _ ?_ _ HK.out ?_); rfl)
      | (go_at_call 45; (with_reducible refine (HC.out _ HB.out).mono ?_); rintro e w1 ⟨rfl, hb1⟩))
    go_ret
    exact ⟨rfl, hb1⟩
  · have hr : r = false := by rw [HE.out, decide_eq_false (show ¬ b ≤ n by omega), Bool.false_and]
    subst hr
    clear HE
    go_enter Tryz.func42, Tryz.ntmps42
    go_wp2
    go_ret
    exact ⟨rfl, HB.out⟩
end Go.Proofs.YtkceipkgebgigaaGreat
end
section
namespace Go.Proofs.YtkceipkgebgigaaGreat
open Go.Shelf Go.RowKit Go.Lib Go.Great
set_option maxRecDepth 100000
set_option maxHeartbeats 1000000
theorem zV28 (W : World) : (zeroValue 29).run Tryz.prog W = .ok (.agg (encI zeroI).toArray) W := by kernel_rfl
/-- The parts of a publisher, one by one. -/
theorem run_build28 (xs : List UInt8) (hx : xs.length = 20) (s b l : Nat) (k : Bool) (W : World) : (Instr.build 29 #[(0, .agg (bcells xs).toArray), (1, .int .u64 (s : Int)), (2, .int .u64 (b : Int)), (3, .int .u32 (l : Int)), (4, .bool k)]).run Tryz.prog W =
    .ok (.agg (bcells xs ++ ([.int .u64 (s : Int), .int .u64 (b : Int), .int .u32 (l : Int), .bool k, .int .u16 0, .int .u16 0, .int .u16 0, .string ⟨#[]⟩] : List Value)).toArray) W := by
  obtain ⟨x0, xs, rfl⟩ := List.exists_cons_of_length_eq_add_one (show xs.length = 19 + 1 by simpa using hx)
  obtain ⟨x1, xs, rfl⟩ := List.exists_cons_of_length_eq_add_one (show xs.length = 18 + 1 by simpa using hx)
  obtain ⟨x2, xs, rfl⟩ := List.exists_cons_of_length_eq_add_one (show xs.length = 17 + 1 by simpa using hx)
  obtain ⟨x3, xs, rfl⟩ := List.exists_cons_of_length_eq_add_one (show xs.length = 16 + 1 by simpa using hx)
  obtain ⟨x4, xs, rfl⟩ := List.exists_cons_of_length_eq_add_one (show xs.length = 15 + 1 by simpa using hx)
  obtain ⟨x5, xs, rfl⟩ := List.exists_cons_of_length_eq_add_one (show xs.length = 14 + 1 by simpa using hx)
  obtain ⟨x6, xs, rfl⟩ := List.exists_cons_of_length_eq_add_one (show xs.length = 13 + 1 by simpa using hx)
  obtain ⟨x7, xs, rfl⟩ := List.exists_cons_of_length_eq_add_one (show xs.length = 12 + 1 by simpa using hx)
  obtain ⟨x8, xs, rfl⟩ := List.exists_cons_of_length_eq_add_one (show xs.length = 11 + 1 by simpa using hx)
  obtain ⟨x9, xs, rfl⟩ := List.exists_cons_of_length_eq_add_one (show xs.length = 10 + 1 by simpa using hx)
  obtain ⟨x10, xs, rfl⟩ := List.exists_cons_of_length_eq_add_one (show xs.length = 9 + 1 by simpa using hx)
  obtain ⟨x11, xs, rfl⟩ := List.exists_cons_of_length_eq_add_one (show xs.length = 8 + 1 by simpa using hx)
  obtain ⟨x12, xs, rfl⟩ := List.exists_cons_of_length_eq_add_one (show xs.length = 7 + 1 by simpa using hx)
  obtain ⟨x13, xs, rfl⟩ := List.exists_cons_of_length_eq_add_one (show xs.length = 6 + 1 by simpa using hx)
  obtain ⟨x14, xs, rfl⟩ := List.exists_cons_of_length_eq_add_one (show xs.length = 5 + 1 by simpa using hx)
  obtain ⟨x15, xs, rfl⟩ := List.exists_cons_of_length_eq_add_one (show xs.length = 4 + 1 by simpa using hx)
  obtain ⟨x16, xs, rfl⟩ := List.exists_cons_of_length_eq_add_one (show xs.length = 3 + 1 by simpa using hx)
  obtain ⟨x17, xs, rfl⟩ := List.exists_cons_of_length_eq_add_one (show xs.length = 2 + 1 by simpa using hx)
  obtain ⟨x18, xs, rfl⟩ := List.exists_cons_of_length_eq_add_one (show xs.length = 1 + 1 by simpa using hx)
  obtain ⟨x19, xs, rfl⟩ := List.exists_cons_of_length_eq_add_one (show xs.length = 0 + 1 by simpa using hx)
  obtain rfl := List.eq_nil_of_length_eq_zero (show xs.length = 0 by simpa using hx)
  kernel_rfl
theorem run_build28i (i : Ins) (W : World) : (Instr.build 29 #[(0, .agg (bcells i.pub).toArray), (1, .int .u64 (i.seq : Int)), (2, .int .u64 (i.born : Int)), (3, .int .u32 (i.life : Int)), (4, .bool true)]).run Tryz.prog W = .ok (.agg (encI (bareI i)).toArray) W :=
  run_build28 i.pub i.hp i.seq i.born i.life true W
theorem wpList_alloc28 {w : World} {ops : Array Oper} {rest : List Oper} {o : Oper} {a : Act} {Q : Exit → Act → World → Prop} (n : Nat) (hn : w.heap.size = n) (hgd : o.guard = none) (d : Nat) (hd : o.dst = some d) (ho : o.op = .alloc 29)
    (h : wpList Tryz.prog ops Q rest (a.put (some d) (.pointer (some ⟨n, 0, none⟩))) (w.alloc (.cells (encI zeroI).toArray 29))) : wpList Tryz.prog ops Q (o :: rest) a w :=
  wpList_plain hgd fun _ hK => by
    subst hn
    have hz := fun W => zV28 W
    generalize (encI zeroI).toArray = Z at hz h
    unfold Oper.wp execOp
    simp only [ho, Instr.alloc, Sem.run_bind, hz, Result.andThen_ok, Value.cells]
    simp [Oper.upon, hd]
    exact hK _ _ h
theorem encI_all (c : Ins) : (encI c).toArray.all (·.oneCell') = true := by
  rw [Array.all_eq_true_iff_forall_mem]
  intro v hv
  exact encI_one c v (by simpa using hv)
theorem wpList_store28 {w : World} {ops : Array Oper} {rest : List Oper} {o : Oper} {a : Act} {Q : Exit → Act → World → Prop} (hgd : o.guard = none) (x y : Operand) (ho : o.op = .store 29 x y) (g : Nat) (c : Ins) (hx : a.eval x = .pointer (some ⟨g, 0, none⟩)) (hy : a.eval y = .agg (encI c).toArray)
    (ht : w.there g 0 28) (h : wpList Tryz.prog ops Q rest (a.put o.dst undef) (w.setCells g 0 (encI c))) : wpList Tryz.prog ops Q (o :: rest) a w := by
  have hsz : (encI c).toArray.size = 28 := by rw [List.size_toArray, encI_length]
  refine wpList_store_mid (P := Tryz.prog) hgd 29 x y ho g 0 (encI c).toArray hx hy (by rw [hsz]; exact ht) (by rw [hsz]; exact size28i) (encI_all c) ?_
  rw [show (encI c).toArray.toList = encI c from rfl]
  exact h
/-- A store into the block made last. -/
theorem wpList_store28n {w : World} {ops : Array Oper} {rest : List Oper} {o : Oper} {a : Act} {Q : Exit → Act → World → Prop} (hgd : o.guard = none) (x y : Operand) (ho : o.op = .store 29 x y) (n : Nat) (hn : w.heap.size = n) (z c : Ins) (hx : a.eval x = .pointer (some ⟨n, 0, none⟩)) (hy : a.eval y = .agg (encI c).toArray)
    (h : wpList Tryz.prog ops Q rest (a.put o.dst undef) (w.alloc (.cells (encI c).toArray 29))) : wpList Tryz.prog ops Q (o :: rest) a (w.alloc (.cells (encI z).toArray 29)) := by
  subst hn
  refine wpList_store28 hgd x y ho w.heap.size c hx hy ?_ ?_
  · have := there_new w 29 (encI z)
    rwa [encI_length] at this
  · rw [setCells_all w 29 (encI z) (encI c) (by rw [encI_length, encI_length])]
    exact h
theorem bare_any (i : Ins) (w : World) : Calls Tryz.prog 47 #[.agg (encI i).toArray] w fun e w' => e = .returned (.agg (encI (bareI i)).toArray) ∧ Below w.heap.size w w' := by
  obtain ⟨h1, h2, hb⟩ := heap2 w (.cells (encI i).toArray 29) (.cells (encI zeroI).toArray 29)
  have HF := fldB h1
  have HK := Lib.hid HF.pub
  have c1 := HF.seq
  have c2 := HF.born
  have c3 := HF.life
  have HBU := Lib.hid (fun W => run_build28i i W)
  obtain ⟨_, k2, kb⟩ := heap2 w (.cells (encI i).toArray 29) (.cells (encI (bareI i)).toArray 29)
  have HR := Lib.hid (row_range k2)
  have HB := Lib.hid kb
  have hl := encI_length (bareI i)
  generalize bareI i = j at *
  obtain ⟨J, hJ⟩ : ∃ J, J = (encI j).toArray := ⟨_, rfl⟩
  have HX := Lib.hid hJ
  rw [← hJ] at HBU HB ⊢
  generalize (encI i).toArray = X at *
  generalize (bcells i.pub).toArray = IX at *
  generalize i.seq = s at *
  generalize i.born = b at *
  generalize i.life = l at *
  clear h1 h2 hb k2 kb hJ HF
  go_enter Tryz.func47, Tryz.ntmps47
  go_wp2_with (first
    | (with_reducible refine wpList_alloc28 (o := ⟨some 2, _, _, _, _, _⟩) (w.heap.size + 1) (by simp) rfl 2 rfl rfl ?_)
    | ((with_reducible refine wpList_loadV (op := ⟨some 4, _, _, _, _, _⟩) rfl 24 (.tmp 3) rfl _ ?_ _ HK.out ?_); rfl)
    | ((with_reducible refine wpList_buildV (o := ⟨some 11, _, _, _, _, _⟩) rfl 29 _ rfl _ ?_ _ (HBU.out _) ?_); (simp only [List.map_toArray, List.map_cons, List.map_nil]; rfl))
    | ((with_reducible refine wpList_store28n (o := ⟨none, _, _, _, _, _⟩) rfl (.tmp 2) (.tmp 11) rfl (w.heap.size + 1) ?_ zeroI j ?_ ?_ ?_); (simp); rfl; (rw [← HX.out]; rfl)))
  have hB := HB.out
  rw [HX.out] at hB ⊢
  refine bodyPost_ret (v := .agg (encI j).toArray) ?_ rfl ?_
  · exact results_cell1 (p := 2) (ty := 29) rfl _ _ (w.heap.size + 1) 0 (encI j) _ rfl HR.out Tryz.underlying29 rfl (by rw [hl]; exact size28i)
  · exact ⟨rfl, hB⟩
/-- A name of small letters. -/
def tgtL (s : List UInt8) : Bool := goodL s && (foldL s == s)
theorem istarget_any (s : List UInt8) (hs : s.length ≤ 100000) (w : World) : Calls Tryz.prog 48 #[.string (bstr s)] w fun e w' => e = .returned (.bool (tgtL s)) ∧ Below w.heap.size w w' := by
  have HG := upB w (goodp_any s)
  have HFo := upB w (fold_any s hs)
  have HE : Hid (tgtL s = (goodL s && (foldL s == s))) := Lib.hid rfl
  have HS : Hid ((((bstr (foldL s)).toList) == ((bstr s).toList)) = (foldL s == s)) := Lib.hid (by rw [bstr_list, bstr_list])
  have HB0 := Lib.hid (Below.refl w.heap.size w)
  generalize tgtL s = r at *
  generalize goodL s = g at *
  generalize (foldL s == s) = f at *
  generalize bstr (foldL s) = F at *
  generalize bstr s = S at *
  cases g
  · have hr : r = false := by rw [HE.out]; rfl
    subst hr
    clear HE HS
    go_enter Tryz.func48, Tryz.ntmps48
    go_wp2_with (go_at_call 75; (with_reducible refine (HG.out _ HB0.out).mono ?_); rintro e w1 ⟨rfl, hb1⟩)
    go_ret
    exact ⟨rfl, hb1⟩
  · have hr : r = f := by rw [HE.out, Bool.true_and]
    subst hr
    have hs2 := HS.out
    clear HE HS
    go_enter Tryz.func48, Tryz.ntmps48
    go_wp2_with (first
      | (go_at_call 75; (with_reducible refine (HG.out _ HB0.out).mono ?_); rintro e w1 ⟨rfl, hb1⟩)
      | (go_at_call 76; (with_reducible refine (HFo.out _ hb1).mono ?_); rintro e w2 ⟨rfl, hb2⟩))
    go_ret
    exact ⟨by simp [hs2], hb2⟩
end Go.Proofs.YtkceipkgebgigaaGreat
end
section
namespace Go.Proofs.YtkceipkgebgigaaGreat
open Go.Shelf Go.RowKit Go.Lib Go.Great
set_option maxRecDepth 100000
set_option maxHeartbeats 1000000
/-- A good instance. -/
def goodI (i : Ins) : Bool := decide (1 ≤ i.life ∧ i.life ≤ 2147483647) && (if i.gone then eqI i (bareI i) else decide (i.port ≠ 0) && tgtL i.tgt)
theorem igood_any (i : Ins) (hi : i.tgt.length ≤ 100000) (w : World) : Calls Tryz.prog 23 #[.agg (encI i).toArray] w fun e w' => e = .returned (.bool (goodI i)) ∧ Below w.heap.size w w' := by
  have hb : Below w.heap.size w (w.alloc (.cells (encI i).toArray 29)) := (Below.refl _ w).alloc (Nat.le_refl _) _
  have hn := heap_alloc_new w (.cells (encI i).toArray 29)
  have HF := fldB hn
  have c1 := HF.life
  have c2 := HF.gone
  have c3 := HF.port
  have c4 := HF.tgt
  have HT := upB w (istarget_any i.tgt hi)
  have HBa : Hid (∀ W, Calls Tryz.prog 47 #[.agg (encI i).toArray] W fun e w' => e = .returned (.agg (encI (bareI i)).toArray) ∧ Below W.heap.size W w') := Lib.hid (bare_any i)
  have HQ : Hid (∀ n : Kept (w.heap.size + 1) (w.alloc (.cells (encI i).toArray 29)), (loadVar 29 ⟨w.heap.size, 0, none⟩).run Tryz.prog n.val = .ok (.agg (encI i).toArray) n.val) :=
    Lib.hid (fun n => (fld_below hn n.property (by omega)).all)
  have he := fun W => eqIns i (bareI i) W
  have HG : Hid (goodI i = (decide (1 ≤ i.life ∧ i.life ≤ 2147483647) && (if i.gone then eqI i (bareI i) else decide (i.port ≠ 0) && tgtL i.tgt))) := Lib.hid rfl
  have HB := Lib.hid hb
  have hl := i.hl
  generalize goodI i = r at *
  generalize eqI i (bareI i) = eqb at *
  generalize tgtL i.tgt = tg at *
  generalize (encI (bareI i)).toArray = Y at *
  generalize (encI i).toArray = X at *
  generalize bstr i.tgt = S at *
  generalize i.life = l at *
  generalize i.gone = gn at *
  generalize i.port = p at *
  clear HF hb hn hi
  by_cases h0 : l = 0
  · have hr : r = false := by rw [HG.out, decide_eq_false (by omega), Bool.false_and]
    subst hr h0
    clear HG
    go_enter Tryz.func23, Tryz.ntmps23
    go_wp2
    go_ret
    exact ⟨rfl, HB.out⟩
  have q0 : ((l : Int) == 0) = false := by rw [beq_eq_false_iff_ne]; omega
  have q0' : ¬ (l : Int) = 0 := by omega
  by_cases h1 : 2147483647 < l
  · have hr : r = false := by rw [HG.out, decide_eq_false (by omega), Bool.false_and]
    have q1 : (2147483647 : Int) < (l : Int) := by omega
    subst hr
    clear HG
    go_enter Tryz.func23, Tryz.ntmps23
    go_wp2
    go_ret
    exact ⟨rfl, HB.out⟩
  have q1 : ¬ (2147483647 : Int) < (l : Int) := by omega
  rw [decide_eq_true (show 1 ≤ l ∧ l ≤ 2147483647 by omega), Bool.true_and] at HG
  cases gn
  · by_cases hp : p = 0
    · have hr : r = false := by rw [HG.out]; simp [hp]
      subst hr hp
      clear HG
      go_enter Tryz.func23, Tryz.ntmps23
      go_wp2
      go_ret
      exact ⟨rfl, HB.out⟩
    · have hr : r = tg := by rw [HG.out]; simp [hp]
      have q2 : ((p : Int) == 0) = false := by rw [beq_eq_false_iff_ne]; omega
      have q2' : ¬ (p : Int) = 0 := by omega
      subst hr
      clear HG
      go_enter Tryz.func23, Tryz.ntmps23
      go_wp2_with (go_at_call 48; (with_reducible refine (HT.out _ HB.out).mono ?_); rintro e w1 ⟨rfl, hb1⟩)
      go_ret
      exact ⟨by simp [bne, q2], hb1⟩
  · have hr : r = eqb := by rw [HG.out]; rfl
    subst hr
    clear HG
    go_enter Tryz.func23, Tryz.ntmps23
    go_upto_region 4 with fail
    refine wp_region_kept (w.heap.size + 1) (w.alloc (.cells X 29)) (Below.refl _ _) (by kernel_rfl) (by kernel_rfl) ?_
    repeat (first
      | (go_big_quiet_want; (with_reducible refine quiet_loadV (o := ⟨some 13, _, _, _, _, _⟩) 29 (.tmp 1) rfl _ ?_ _ HQ.out ?_); rfl; simp only [Act.put, List.setIfInBounds_toArray, List.set_cons_zero, List.set_cons_succ]; go_big_quiet_on)
      | (go_big_quiet_want; (with_reducible refine quiet_loadV (o := ⟨some 14, _, _, _, _, _⟩) 29 (.tmp 1) rfl _ ?_ _ HQ.out ?_); rfl; simp only [Act.put, List.setIfInBounds_toArray, List.set_cons_zero, List.set_cons_succ]; go_big_quiet_on)
      | go_big_quiet_step (first | (go_at_call 47; with_reducible exact kept_of (by simp) HBa.out _)))
    refine wpQuiet_nil ?_
    rintro wk ⟨⟨_, hwk⟩, rfl⟩
    go_wp2
    go_ret
    exact ⟨rfl, HB.out.trans (hwk.mono (by simp))⟩
end Go.Proofs.YtkceipkgebgigaaGreat
end
