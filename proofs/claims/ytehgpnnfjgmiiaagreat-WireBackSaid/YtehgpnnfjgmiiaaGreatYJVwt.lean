/- Walk of ServiceTells. No condition. bare, isTarget, Good of the program. Conditions: targets of at most 100,000 bytes. Good of the program. Conditions: targets of at most 100,000 bytes. Comparisons of numbers and of texts, cmp.Or, of the library, at this program. Conditions: at most 1,000,000 numbers. Cmp of the program. No condition. Good of the reference; instances in raw cells, field by field. Conditions: targets of at most 100,000 bytes. Contract of next of package contact. Conditions: at most 900,000 bytes. Instances in raw cells, field by field; what is read, plain. No condition. Contract of slices.DeleteFunc at contacts. Conditions: at most 10,000 contacts. Bytes, List and Without of the reference. Conditions: at most 10,000 contacts. While an instance is read: the worlds; the copy of the publisher. Conditions: at most 900,000 bytes. The walk of the statement ContactBack: it answers true. Conditions: the bytes ahead and behind are fewer than 2^47 each. -/
import Derived.Test.YtehgpnnfjgmiiaaGreatProg
import Derived.Test.YtehgpnnfjgmiiaaGreatYJLcd
import Derived.Test.YtehgpnnfjgmiiaaGreatYKCdi
import Derived.BigQuiet
import Derived.Shelf.Abstract
import Derived.Test.YtehgpnnfjgmiiaaGreatYJPWords
import Derived.Sort.Grow
import Derived.Lib.SlBytesConst
import Derived.LoopTactic
import Derived.Stop.BytesEq
import Derived.Deep.AppendSrc
import Derived.Lib.ConvBytes
import Derived.Laws.ResultCell
import Derived.Deep.Cut
import Derived.Deep.QuietTactic
import Derived.StillTailTactics
import Derived.Shelf.SlicesE.Clone
import Derived.Test.YtehgpnnfjgmiiaaGreatYIia
import Derived.Lib.Bytealg
import Derived.Great.BuildSlice
import Derived.RegionTactic
import Derived.RegionCalls
import Derived.WalkKit
import Derived.Deep.RegionHeld3
section
namespace Go.Proofs.YtehgpnnfjgmiiaaGreat
open Go.Shelf Go.RowKit Go.Lib Go.Great
set_option maxRecDepth 100000
set_option maxHeartbeats 2000000
theorem upB {f : FuncId} {args : Array Value} {v : Value} (w : World) (h : ∀ W, Calls Tryz.prog f args W fun e w' => e = .returned v ∧ Below W.heap.size W w') : Hid (∀ W, Below w.heap.size w W → Calls Tryz.prog f args W fun e w' => e = .returned v ∧ Below w.heap.size w w') :=
  Lib.hid (fun W hW => (h W).mono (by rintro e w' ⟨rfl, hb⟩; exact ⟨rfl, hW.trans (hb.mono hW.size)⟩))
theorem wpList_loadG {P : Program} {ops : Array Oper} {rest : List Oper} {o : Oper} {a : Act} {w : World} {Q : Exit → Act → World → Prop} (hw : Region.wanted o (yielded ops a.tmps) = true) (ty : TypeId) (x : Operand) (ho : o.op = .load ty x) (p : Addr) (hx : a.eval x = .pointer (some p)) (v : Value) (hl : (loadVar ty p).run P w = .ok v w)
    (h : wpList P ops Q rest (a.put o.dst v) w) : wpList P ops Q (o :: rest) a w :=
  BigFrame.wpList_want hw fun _ hK => wp_loadV ty x ho p hx v hl (hK _ _ h)
end Go.Proofs.YtehgpnnfjgmiiaaGreat
end
section
namespace Go.Proofs.YtehgpnnfjgmiiaaGreat
open Go.Shelf Go.RowKit Go.Lib Go.Great
set_option maxRecDepth 100000
set_option maxHeartbeats 1000000
theorem zV28 (W : World) : (zeroValue 79).run Tryz.prog W = .ok (.agg (encI zeroI).toArray) W := by kernel_rfl
/-- The parts of a publisher, one by one. -/
theorem run_build28 (xs : List UInt8) (hx : xs.length = 20) (s b l : Nat) (k : Bool) (W : World) : (Instr.build 79 #[(0, .agg (bcells xs).toArray), (1, .int .u64 (s : Int)), (2, .int .u64 (b : Int)), (3, .int .u32 (l : Int)), (4, .bool k)]).run Tryz.prog W =
    .ok (.agg (bcells xs ++ ([.int .u64 (s : Int), .int .u64 (b : Int), .int .u32 (l : Int), .bool k, .int .u16 0, .int .u16 0, .int .u16 0, .string ⟨#[]⟩] : List Value)).toArray) W := by
  obtain ⟨x0, xs, rfl⟩ := List.exists_cons_of_length_eq_add_one (show xs.length = 19 + 1 by simpa using hx)
  obtain ⟨x1, xs, rfl⟩ := List.exists_cons_of_length_eq_add_one (show xs.length = 18 + 1 by simpa using hx)
  obtain ⟨x2, xs, rfl⟩ := List.exists_cons_of_length_eq_add_one (show xs.length = 17 + 1 by simpa using hx)
  obtain ⟨x3, xs, rfl⟩ := List.exists_cons_of_length_eq_add_one (show xs.length = 16 + 1 by simpa using hx)
  obtain ⟨x4, xs, rfl⟩ := List.exists_cons_of_length_eq_add_one (show xs.length = 15 + 1 by simpa using hx)
  obtain ⟨x5, xs, rfl⟩ := List.exists_cons_of_length_eq_add_one (show xs.length = 14 + 1 by simpa using hx)
  obtain ⟨x6, xs, rfl⟩ := List.exists_cons_of_length_eq_add_one (show xs.length = 13 + 1 by simpa using hx)
  obtain ⟨x7, xs, rfl⟩ := List.exists_cons_of_length_eq_add_one (show xs.length = 12 + 1 by simpa using hx)
  obtain ⟨x8, xs, rfl⟩ := List.exists_cons_of_length_eq_add_one (show xs.length = 11 + 1 by simpa using hx)
  obtain ⟨x9, xs, rfl⟩ := List.exists_cons_of_length_eq_add_one (show xs.length = 10 + 1 by simpa using hx)
  obtain ⟨x10, xs, rfl⟩ := List.exists_cons_of_length_eq_add_one (show xs.length = 9 + 1 by simpa using hx)
  obtain ⟨x11, xs, rfl⟩ := List.exists_cons_of_length_eq_add_one (show xs.length = 8 + 1 by simpa using hx)
  obtain ⟨x12, xs, rfl⟩ := List.exists_cons_of_length_eq_add_one (show xs.length = 7 + 1 by simpa using hx)
  obtain ⟨x13, xs, rfl⟩ := List.exists_cons_of_length_eq_add_one (show xs.length = 6 + 1 by simpa using hx)
  obtain ⟨x14, xs, rfl⟩ := List.exists_cons_of_length_eq_add_one (show xs.length = 5 + 1 by simpa using hx)
  obtain ⟨x15, xs, rfl⟩ := List.exists_cons_of_length_eq_add_one (show xs.length = 4 + 1 by simpa using hx)
  obtain ⟨x16, xs, rfl⟩ := List.exists_cons_of_length_eq_add_one (show xs.length = 3 + 1 by simpa using hx)
  obtain ⟨x17, xs, rfl⟩ := List.exists_cons_of_length_eq_add_one (show xs.length = 2 + 1 by simpa using hx)
  obtain ⟨x18, xs, rfl⟩ := List.exists_cons_of_length_eq_add_one (show xs.length = 1 + 1 by simpa using hx)
  obtain ⟨x19, xs, rfl⟩ := List.exists_cons_of_length_eq_add_one (show xs.length = 0 + 1 by simpa using hx)
  obtain rfl := List.eq_nil_of_length_eq_zero (show xs.length = 0 by simpa using hx)
  kernel_rfl
theorem run_build28i (i : Ins) (W : World) : (Instr.build 79 #[(0, .agg (bcells i.pub).toArray), (1, .int .u64 (i.seq : Int)), (2, .int .u64 (i.born : Int)), (3, .int .u32 (i.life : Int)), (4, .bool true)]).run Tryz.prog W = .ok (.agg (encI (bareI i)).toArray) W :=
  run_build28 i.pub i.hp i.seq i.born i.life true W
theorem wpList_alloc28 {w : World} {ops : Array Oper} {rest : List Oper} {o : Oper} {a : Act} {Q : Exit → Act → World → Prop} (n : Nat) (hn : w.heap.size = n) (hgd : o.guard = none) (d : Nat) (hd : o.dst = some d) (ho : o.op = .alloc 79)
    (h : wpList Tryz.prog ops Q rest (a.put (some d) (.pointer (some ⟨n, 0, none⟩))) (w.alloc (.cells (encI zeroI).toArray 79))) : wpList Tryz.prog ops Q (o :: rest) a w :=
  wpList_plain hgd fun _ hK => by
    subst hn
    have hz := fun W => zV28 W
    generalize (encI zeroI).toArray = Z at hz h
    unfold Oper.wp execOp
    simp only [ho, Instr.alloc, Sem.run_bind, hz, Result.andThen_ok, Value.cells]
    simp [Oper.upon, hd]
    exact hK _ _ h
theorem encI_all (c : Ins) : (encI c).toArray.all (·.oneCell') = true := by
  rw [Array.all_eq_true_iff_forall_mem]
  intro v hv
  exact encI_one c v (by simpa using hv)
theorem wpList_store28 {w : World} {ops : Array Oper} {rest : List Oper} {o : Oper} {a : Act} {Q : Exit → Act → World → Prop} (hgd : o.guard = none) (x y : Operand) (ho : o.op = .store 79 x y) (g : Nat) (c : Ins) (hx : a.eval x = .pointer (some ⟨g, 0, none⟩)) (hy : a.eval y = .agg (encI c).toArray)
    (ht : w.there g 0 28) (h : wpList Tryz.prog ops Q rest (a.put o.dst undef) (w.setCells g 0 (encI c))) : wpList Tryz.prog ops Q (o :: rest) a w := by
  have hsz : (encI c).toArray.size = 28 := by rw [List.size_toArray, encI_length]
  refine wpList_store_mid (P := Tryz.prog) hgd 79 x y ho g 0 (encI c).toArray hx hy (by rw [hsz]; exact ht) (by rw [hsz]; exact size28i) (encI_all c) ?_
  rw [show (encI c).toArray.toList = encI c from rfl]
  exact h
/-- A store into the block made last. -/
theorem wpList_store28n {w : World} {ops : Array Oper} {rest : List Oper} {o : Oper} {a : Act} {Q : Exit → Act → World → Prop} (hgd : o.guard = none) (x y : Operand) (ho : o.op = .store 79 x y) (n : Nat) (hn : w.heap.size = n) (z c : Ins) (hx : a.eval x = .pointer (some ⟨n, 0, none⟩)) (hy : a.eval y = .agg (encI c).toArray)
    (h : wpList Tryz.prog ops Q rest (a.put o.dst undef) (w.alloc (.cells (encI c).toArray 79))) : wpList Tryz.prog ops Q (o :: rest) a (w.alloc (.cells (encI z).toArray 79)) := by
  subst hn
  refine wpList_store28 hgd x y ho w.heap.size c hx hy ?_ ?_
  · have := there_new w 79 (encI z)
    rwa [encI_length] at this
  · rw [setCells_all w 79 (encI z) (encI c) (by rw [encI_length, encI_length])]
    exact h
theorem bare_any (i : Ins) (w : World) : Calls Tryz.prog 83 #[.agg (encI i).toArray] w fun e w' => e = .returned (.agg (encI (bareI i)).toArray) ∧ Below w.heap.size w w' := by
  obtain ⟨h1, h2, hb⟩ := heap2 w (.cells (encI i).toArray 79) (.cells (encI zeroI).toArray 79)
  have HF := fldB h1
  have HK := Lib.hid HF.pub
  have c1 := HF.seq
  have c2 := HF.born
  have c3 := HF.life
  have HBU := Lib.hid (fun W => run_build28i i W)
  obtain ⟨_, k2, kb⟩ := heap2 w (.cells (encI i).toArray 79) (.cells (encI (bareI i)).toArray 79)
  have HR := Lib.hid (row_range k2)
  have HB := Lib.hid kb
  have hl := encI_length (bareI i)
  generalize bareI i = j at *
  obtain ⟨J, hJ⟩ : ∃ J, J = (encI j).toArray := ⟨_, rfl⟩
  have HX := Lib.hid hJ
  rw [← hJ] at HBU HB ⊢
  generalize (encI i).toArray = X at *
  generalize (bcells i.pub).toArray = IX at *
  generalize i.seq = s at *
  generalize i.born = b at *
  generalize i.life = l at *
  clear h1 h2 hb k2 kb hJ HF
  go_enter Tryz.func83, Tryz.ntmps83
  go_wp2_with (first
    | (with_reducible refine wpList_alloc28 (o := ⟨some 2, _, _, _, _, _⟩) (w.heap.size + 1) (by simp) rfl 2 rfl rfl ?_)
    | ((with_reducible refine wpList_loadV (op := ⟨some 4, _, _, _, _, _⟩) rfl 24 (.tmp 3) rfl _ ?_ _ HK.out ?_); rfl)
    | ((with_reducible refine wpList_buildV (o := ⟨some 11, _, _, _, _, _⟩) rfl 79 _ rfl _ ?_ _ (HBU.out _) ?_); (simp only [List.map_toArray, List.map_cons, List.map_nil]; rfl))
    | ((with_reducible refine wpList_store28n (o := ⟨none, _, _, _, _, _⟩) rfl (.tmp 2) (.tmp 11) rfl (w.heap.size + 1) ?_ zeroI j ?_ ?_ ?_); (simp); rfl; (rw [← HX.out]; rfl)))
  have hB := HB.out
  rw [HX.out] at hB ⊢
  refine bodyPost_ret (v := .agg (encI j).toArray) ?_ rfl ?_
  · exact results_cell1 (p := 2) (ty := 79) rfl _ _ (w.heap.size + 1) 0 (encI j) _ rfl HR.out Tryz.underlying79 rfl (by rw [hl]; exact size28i)
  · exact ⟨rfl, hB⟩
/-- A name of small letters. -/
def tgtL (s : List UInt8) : Bool := goodL s && (foldL s == s)
theorem istarget_any (s : List UInt8) (hs : s.length ≤ 100000) (w : World) : Calls Tryz.prog 84 #[.string (bstr s)] w fun e w' => e = .returned (.bool (tgtL s)) ∧ Below w.heap.size w w' := by
  have HG := upB w (goodp_any s)
  have HFo := upB w (fold_any s hs)
  have HE : Hid (tgtL s = (goodL s && (foldL s == s))) := Lib.hid rfl
  have HS : Hid ((((bstr (foldL s)).toList) == ((bstr s).toList)) = (foldL s == s)) := Lib.hid (by rw [bstr_list, bstr_list])
  have HB0 := Lib.hid (Below.refl w.heap.size w)
  generalize tgtL s = r at *
  generalize goodL s = g at *
  generalize (foldL s == s) = f at *
  generalize bstr (foldL s) = F at *
  generalize bstr s = S at *
  cases g
  · have hr : r = false := by rw [HE.out]; rfl
    subst hr
    clear HE HS
    go_enter Tryz.func84, Tryz.ntmps84
    go_wp2_with (go_at_call 103; (with_reducible refine (HG.out _ HB0.out).mono ?_); rintro e w1 ⟨rfl, hb1⟩)
    go_ret
    exact ⟨rfl, hb1⟩
  · have hr : r = f := by rw [HE.out, Bool.true_and]
    subst hr
    have hs2 := HS.out
    clear HE HS
    go_enter Tryz.func84, Tryz.ntmps84
    go_wp2_with (first
      | (go_at_call 103; (with_reducible refine (HG.out _ HB0.out).mono ?_); rintro e w1 ⟨rfl, hb1⟩)
      | (go_at_call 104; (with_reducible refine (HFo.out _ hb1).mono ?_); rintro e w2 ⟨rfl, hb2⟩))
    go_ret
    exact ⟨by simp [hs2], hb2⟩
end Go.Proofs.YtehgpnnfjgmiiaaGreat
end
section
namespace Go.Proofs.YtehgpnnfjgmiiaaGreat
open Go.Shelf Go.RowKit Go.Lib Go.Great
set_option maxRecDepth 100000
set_option maxHeartbeats 1000000
/-- A good instance. -/
def goodI (i : Ins) : Bool := decide (1 ≤ i.life ∧ i.life ≤ 2147483647) && (if i.gone then eqI i (bareI i) else decide (i.port ≠ 0) && tgtL i.tgt)
theorem igood_any (i : Ins) (hi : i.tgt.length ≤ 100000) (w : World) : Calls Tryz.prog 57 #[.agg (encI i).toArray] w fun e w' => e = .returned (.bool (goodI i)) ∧ Below w.heap.size w w' := by
  have hb : Below w.heap.size w (w.alloc (.cells (encI i).toArray 79)) := (Below.refl _ w).alloc (Nat.le_refl _) _
  have hn := heap_alloc_new w (.cells (encI i).toArray 79)
  have HF := fldB hn
  have c1 := HF.life
  have c2 := HF.gone
  have c3 := HF.port
  have c4 := HF.tgt
  have HT := upB w (istarget_any i.tgt hi)
  have HBa : Hid (∀ W, Calls Tryz.prog 83 #[.agg (encI i).toArray] W fun e w' => e = .returned (.agg (encI (bareI i)).toArray) ∧ Below W.heap.size W w') := Lib.hid (bare_any i)
  have HQ : Hid (∀ n : Kept (w.heap.size + 1) (w.alloc (.cells (encI i).toArray 79)), (loadVar 79 ⟨w.heap.size, 0, none⟩).run Tryz.prog n.val = .ok (.agg (encI i).toArray) n.val) :=
    Lib.hid (fun n => (fld_below hn n.property (by omega)).all)
  have he := fun W => eqIns i (bareI i) W
  have HG : Hid (goodI i = (decide (1 ≤ i.life ∧ i.life ≤ 2147483647) && (if i.gone then eqI i (bareI i) else decide (i.port ≠ 0) && tgtL i.tgt))) := Lib.hid rfl
  have HB := Lib.hid hb
  have hl := i.hl
  generalize goodI i = r at *
  generalize eqI i (bareI i) = eqb at *
  generalize tgtL i.tgt = tg at *
  generalize (encI (bareI i)).toArray = Y at *
  generalize (encI i).toArray = X at *
  generalize bstr i.tgt = S at *
  generalize i.life = l at *
  generalize i.gone = gn at *
  generalize i.port = p at *
  clear HF hb hn hi
  by_cases h0 : l = 0
  · have hr : r = false := by rw [HG.out, decide_eq_false (by omega), Bool.false_and]
    subst hr h0
    clear HG
    go_enter Tryz.func57, Tryz.ntmps57
    go_wp2
    go_ret
    exact ⟨rfl, HB.out⟩
  have q0 : ((l : Int) == 0) = false := by rw [beq_eq_false_iff_ne]; omega
  have q0' : ¬ (l : Int) = 0 := by omega
  by_cases h1 : 2147483647 < l
  · have hr : r = false := by rw [HG.out, decide_eq_false (by omega), Bool.false_and]
    have q1 : (2147483647 : Int) < (l : Int) := by omega
    subst hr
    clear HG
    go_enter Tryz.func57, Tryz.ntmps57
    go_wp2
    go_ret
    exact ⟨rfl, HB.out⟩
  have q1 : ¬ (2147483647 : Int) < (l : Int) := by omega
  rw [decide_eq_true (show 1 ≤ l ∧ l ≤ 2147483647 by omega), Bool.true_and] at HG
  cases gn
  · by_cases hp : p = 0
    · have hr : r = false := by rw [HG.out]; simp [hp]
      subst hr hp
      clear HG
      go_enter Tryz.func57, Tryz.ntmps57
      go_wp2
      go_ret
      exact ⟨rfl, HB.out⟩
    · have hr : r = tg := by rw [HG.out]; simp [hp]
      have q2 : ((p : Int) == 0) = false := by rw [beq_eq_false_iff_ne]; omega
      have q2' : ¬ (p : Int) = 0 := by omega
      subst hr
      clear HG
      go_enter Tryz.func57, Tryz.ntmps57
      go_wp2_with (go_at_call 84; (with_reducible refine (HT.out _ HB.out).mono ?_); rintro e w1 ⟨rfl, hb1⟩)
      go_ret
      exact ⟨by simp [bne, q2], hb1⟩
  · have hr : r = eqb := by rw [HG.out]; rfl
    subst hr
    clear HG
    go_enter Tryz.func57, Tryz.ntmps57
    go_upto_region 4 with fail
    refine wp_region_kept (w.heap.size + 1) (w.alloc (.cells X 79)) (Below.refl _ _) (by kernel_rfl) (by kernel_rfl) ?_
    repeat (first
      | (go_big_quiet_want; (with_reducible refine quiet_loadV (o := ⟨some 13, _, _, _, _, _⟩) 79 (.tmp 1) rfl _ ?_ _ HQ.out ?_); rfl; simp only [Act.put, List.setIfInBounds_toArray, List.set_cons_zero, List.set_cons_succ]; go_big_quiet_on)
      | (go_big_quiet_want; (with_reducible refine quiet_loadV (o := ⟨some 14, _, _, _, _, _⟩) 79 (.tmp 1) rfl _ ?_ _ HQ.out ?_); rfl; simp only [Act.put, List.setIfInBounds_toArray, List.set_cons_zero, List.set_cons_succ]; go_big_quiet_on)
      | go_big_quiet_step (first | (go_at_call 83; with_reducible exact kept_of (by simp) HBa.out _)))
    refine wpQuiet_nil ?_
    rintro wk ⟨⟨_, hwk⟩, rfl⟩
    go_wp2
    go_ret
    exact ⟨rfl, HB.out.trans (hwk.mono (by simp))⟩
end Go.Proofs.YtehgpnnfjgmiiaaGreat
end
section
namespace Go.Proofs.YtehgpnnfjgmiiaaGreat
open Go.Shelf Go.RowKit Go.Lib Go.Great
set_option maxRecDepth 100000
set_option maxHeartbeats 1000000
theorem run_loadBytes {P : Program} (w : World) (g : Nat) : ∀ (xs : List UInt8) (o : Nat) (acc : ByteArray), (∀ j u, xs[j]? = some u → w.cell? ⟨g, o + j, none⟩ = some (.int .u8 (u.toNat : Int))) → (Extern.Bytes.loadBytes ⟨g, o, none⟩ xs.length acc).run P w = .ok ⟨acc.data ++ xs.toArray⟩ w
  | [], o, acc, _ => by
    simp [Extern.Bytes.loadBytes]
  | x :: xs, o, acc, h => by
    have h0 := h 0 x rfl
    rw [Nat.add_zero] at h0
    have hl : (load ⟨g, o, none⟩).run P w = .ok (.int .u8 (x.toNat : Int)) w := by simp [h0]
    have ih := run_loadBytes (P := P) w g xs (o + 1) (acc.push x) (fun j u hu => by
      have := h (j + 1) u (by simpa using hu)
      rwa [Nat.add_assoc, Nat.add_comm 1 j])
    rw [List.length_cons]
    unfold Extern.Bytes.loadBytes
    have e1 : (⟨g, o, none⟩ : Addr).add 1 = ⟨g, o + 1, none⟩ := rfl
    simp only [Sem.run_bind, hl, Result.andThen_ok]
    have e2 : ((x.toNat : Int).toNat.toUInt8) = x := by simp
    rw [e2, e1, ih]
    congr 1
    simp [ByteArray.push]
theorem run_bytesOf {P : Program} {w : World} {B c : Nat} {A : Option Addr} {xs : List UInt8} (h : BAt w B A xs) : (Extern.Bytes.bytesOf (.slice A xs.length c)).run P w = .ok (bstr xs) w := by
  rcases h with rfl | ⟨g, off, rfl, _, hc⟩
  · cases A with
    | none => simp [Extern.Bytes.bytesOf, bstr]; rfl
    | some a => simp [Extern.Bytes.bytesOf, Extern.Bytes.loadBytes, bstr]; rfl
  · have := run_loadBytes (P := P) w g xs off ByteArray.empty (fun j u hu => by
      obtain ⟨hj, rfl⟩ := List.getElem?_eq_some_iff.1 hu
      exact hc j hj)
    unfold Extern.Bytes.bytesOf
    rw [this]
    congr 1
    simp [bstr]
theorem run_compareSlices {P : Program} {w : World} {B B' c c' : Nat} {A A' : Option Addr} {xs ys : List UInt8} (h : BAt w B A xs) (h' : BAt w B' A' ys) :
    (Extern.BytealgCompare.compare #[.slice A xs.length c, .slice A' ys.length c']).run P w = .ok (.int .i64 (compareBytes xs ys)) w := by
  change Sem.run P (do pure (goInt (Extern.BytealgCompare.cmp (← Extern.Bytes.bytesOf (.slice A xs.length c)) (← Extern.Bytes.bytesOf (.slice A' ys.length c'))))) w = _
  simp only [Sem.run_bind, run_bytesOf h, run_bytesOf h', Sem.run_pure, Result.andThen]
  rw [Lib.cmp_eq]
  simp [bstr, goInt]
theorem bcmp_any (A A' : Option Addr) (c c' n n' : Nat) (xs ys : List UInt8) (w : World) (hn : xs.length = n) (hn' : ys.length = n') (h : BAt w w.heap.size A xs) (h' : BAt w w.heap.size A' ys) :
    Calls Tryz.prog 85 #[.slice A n c, .slice A' n' c'] w fun e w' => e = .returned (.int .i64 (compareBytes xs ys)) ∧ w' = w := by
  have hr := run_compareSlices (P := Tryz.prog) (c := c) (c' := c') h h'
  rw [hn, hn'] at hr
  clear h h'
  generalize compareBytes xs ys = k at *
  go_enter Tryz.func85, Tryz.ntmps85
  go_wp2
  rw [run_callFunc_extern Tryz.func105 (by kernel_rfl) (by kernel_rfl) (by kernel_rfl) (e := Extern.BytealgCompare.compare) (by kernel_rfl), hr]
  simp only [Result.andThen]
  rw [Oper.upon_value]
  go_wp2
  go_ret
  exact ⟨rfl, rfl⟩
end Go.Proofs.YtehgpnnfjgmiiaaGreat
end
section
namespace Go.Proofs.YtehgpnnfjgmiiaaGreat
open Go.Shelf Go.RowKit Go.Lib Go.Great
set_option maxRecDepth 100000
set_option maxHeartbeats 2000000
theorem region_tail {P : Program} {id : Nat} {Q : Exit → Act → World → Prop} {a : Act} {w : World} {l : List Oper} (n : Nat) (W1 : World) (hW : W1 = { w with drawn := w.drawn + 1 }) (hm : P.follows .mixedOrders = true) (hB : Region.lexTailB .any l.toArray n = true)
    (h : wpStill P l.toArray W1 (fun a' => wpList P l.toArray Q (l.drop n) a' W1) (l.take n) a) : (Code.region id l.toArray true).wp P Q a w := by
  subst hW
  exact wp_region_still_tail n hm hB h
end Go.Proofs.YtehgpnnfjgmiiaaGreat
end
section
namespace Go.Proofs.YtehgpnnfjgmiiaaGreat
open Go.Shelf Go.RowKit Go.Lib Go.Great
set_option maxRecDepth 100000
set_option maxHeartbeats 1000000
theorem eq_bare (i : Ins) (h : i.gone = true) : eqI i (bareI i) = (decide (i.pri = 0) && (decide (i.wei = 0) && (decide (i.port = 0) && decide (i.tgt = [])))) := by
  rw [Bool.eq_iff_iff, eqI_iff]
  simp only [Bool.and_eq_true, decide_eq_true_eq]
  constructor
  · intro e
    have a := congrArg Ins.pri e
    have b := congrArg Ins.wei e
    have c := congrArg Ins.port e
    have d := congrArg Ins.tgt e
    exact ⟨a, b, c, d⟩
  · rintro ⟨a, b, c, d⟩
    exact Ins.same rfl rfl rfl rfl h a b c d
end Go.Proofs.YtehgpnnfjgmiiaaGreat
end
section
namespace Go.Proofs.YtehgpnnfjgmiiaaGreat
open Go.Shelf Go.RowKit Go.Lib Go.Sort Go.Great
set_option maxRecDepth 100000
set_option maxHeartbeats 1000000
theorem heap_setCells_row (g : Nat) (t : TypeId) : ∀ (vs : List Value) (o : Nat) (cs : List Value) (w : World), w.heap[g]? = some (.cells cs.toArray t (0, 0)) → o + vs.length ≤ cs.length → (w.setCells g o vs).heap[g]? = some (.cells (cs.take o ++ vs ++ cs.drop (o + vs.length)).toArray t (0, 0)) := by
  intro vs
  induction vs with
  | nil => intro o cs w h _; simp [World.setCells, h]
  | cons v vs ih =>
    intro o cs w h hl
    rw [List.length_cons] at hl
    have h1 := heap_setCell_same w g o _ t v h
    rw [List.setIfInBounds_toArray] at h1
    rw [World.setCells, ih (o + 1) (cs.set o v) _ h1 (by rw [List.length_set]; omega)]
    have e : cs.set o v = (cs.take o ++ [v]) ++ cs.drop (o + 1) := by
      rw [List.set_eq_take_append_cons_drop, if_pos (by omega), List.append_assoc]
      rfl
    have hl1 : (cs.take o ++ [v]).length = o + 1 := by rw [List.length_append, List.length_take, List.length_singleton]; omega
    rw [e, List.take_append_of_le_length (by omega), List.take_of_length_le (by omega), List.drop_append, List.drop_of_length_le (by omega), List.nil_append, List.drop_drop, hl1, List.length_cons]
    rw [show o + 1 + (o + 1 + vs.length - (o + 1)) = o + (vs.length + 1) by omega, List.append_assoc (cs.take o) [v] vs]
    rfl
end Go.Proofs.YtehgpnnfjgmiiaaGreat
end
section
namespace Go.Proofs.YtehgpnnfjgmiiaaGreat
open Go.Shelf Go.RowKit Go.Lib Go.Great
set_option maxRecDepth 100000
set_option maxHeartbeats 1000000
section
variable {W : World} {q : Nat} {p : List UInt8} {s b l : Nat} {k : Bool} {pr we po : Nat} {t : List UInt8}
end
/-- The reader behind publisher, number, birth, life and flag. -/
def s1 (s : St) : St := takeS s 20
end Go.Proofs.YtehgpnnfjgmiiaaGreat
end
section
namespace Go.Proofs.YtehgpnnfjgmiiaaGreat
open Go.Shelf Go.RowKit Go.Lib Go.Sort Go.Great
set_option maxRecDepth 100000
set_option maxHeartbeats 1000000
section
end
end Go.Proofs.YtehgpnnfjgmiiaaGreat
end
section
namespace Go.Proofs.YtehgpnnfjgmiiaaGreat
open Go.Shelf Go.RowKit Go.Lib Go.Sort Go.Great
set_option maxRecDepth 100000
set_option maxHeartbeats 1000000
theorem step_appB {ops : Array Oper} {o : Oper} {a : Act} {w : World} {K : Act → World → Prop} {Q : Exit → Act → World → Prop} {E : Prop} (hgd : o.guard = none) (d : Nat) (hd : o.dst = some d) (s x : Operand)
    (ho : o.op = .call { callee := .builtin .append, args := #[s, x], argTypes := #[31, 31] })
    (base : Nat) (v : Value) (L : List UInt8) (hs : a.eval s = v) (hown : w.ownsRow base 5 1 v L.length (bcells L)) (y : Value) (M : List UInt8) (hx : a.eval x = y) (hr : Src Tryz.prog 1 31 y M.length (bcells M) w) (h63 : L.length + M.length ≤ 10000000) (hbase : base ≤ w.heap.size)
    (h : ∀ v' w', w'.ownsRow base 5 1 v' (L ++ M).length (bcells (L ++ M)) → w.grownBy w' v.ownBlock → K (a.put (some d) v') w') :
    if Region.wanted o (yielded ops a.tmps) = true then Oper.wp Tryz.prog o a w K Q else E := by
  have hw : Region.wanted o (yielded ops a.tmps) = true := by simp [Region.wanted, hgd]
  rw [if_pos hw]
  obtain ⟨i0, hi, hz0, hz1, hz2⟩ := info5b
  obtain ⟨v', w', hrun, h2, h3, _⟩ := run_append_srcK w base 31 31 o.type 5 i0 _ 1 1 undBs hi hz0 hz1 hz2 rfl v L.length (bcells L) hown y M.length (bcells M) hr (by simp only [maxLen]; omega) (by omega) hbase
  unfold Oper.wp execOp
  simp only [ho, resolve, invoke, builtin, Sem.run_bind, Sem.run_pure, Result.andThen_ok, List.map_toArray, List.map_cons, List.map_nil, hs, hx, hrun]
  show K (a.put o.dst _) _
  rw [hd]
  refine h v' w' ?_ h3
  rw [List.length_append, bcells_app]
  exact h2
theorem below_ownB {B : Nat} {W0 w w' : World} {ob : Option Nat} (hb : Below B W0 w) (hBw : B ≤ w.heap.size) (hg : w.grownBy w' ob) (ho : ∀ k, ob = some k → B ≤ k) : Below B W0 w' :=
  ⟨hg.os.trans hb.os, hg.tape.trans hb.tape, hg.output.trans hb.output, Nat.le_trans hb.size hg.size, fun i hi => (hg.block i (by omega) (by intro e; have := ho i (by first | exact e | exact e.symm); omega)).trans (hb.block i hi)⟩
end Go.Proofs.YtehgpnnfjgmiiaaGreat
end
section
namespace Go.Proofs.YtehgpnnfjgmiiaaGreat
set_option maxRecDepth 100000
open Go.Shelf Go.RowKit Go.Lib Go.Great
set_option maxRecDepth 1000000
set_option maxHeartbeats 2000000
theorem own_bat {base n : Nat} {v : Value} {xs : List UInt8} {W : World} (h : W.ownsRow base 5 1 v n (bcells xs)) : ∃ A c, v = .slice A xs.length c ∧ BAt W W.heap.size A xs ∧ (∀ g off, A = some ⟨g, off, none⟩ → base ≤ g) := by
  have hl := h.1
  rw [show (bcells xs).length = xs.length from by simp [bcells], Nat.mul_one] at hl
  rcases h.2 with ⟨rfl, h0⟩ | ⟨g, cap, cur, rfl, hb, hg, hc, _⟩
  · have hL : xs = [] := List.eq_nil_of_length_eq_zero (by omega)
    subst hL
    exact ⟨none, 0, rfl, .inl rfl, fun _ _ e => by cases e⟩
  · refine ⟨some ⟨g, 0, none⟩, cap, by rw [hl], .inr ⟨g, 0, rfl, (Array.getElem?_eq_some_iff.1 hg).1, fun j hj => ?_⟩, fun g' off e => by injection e with e; injection e with e1 e2; omega⟩
    have := h.cells (g := g) rfl j (.int .u8 (xs[j].toNat : Int)) (by simp [bcells, List.getElem?_map, List.getElem?_eq_getElem hj])
    rwa [Addr.add_mid] at this
theorem below_cellsE {B b : Nat} {a : World} (hb : B ≤ b) : ∀ (vs : List Value) (o : Nat) (w : World), Below B a w → Below B a (w.setCells b o vs)
  | [], _, _, h => h
  | _ :: vs, o, w, h => below_cellsE hb vs (o + 1) _ (h.setCell (p := ⟨b, o, none⟩) hb _)
section
variable {w W W' : World} {g B r q : Nat} {s s' : St} {cq cq' : List Value}
end
end Go.Proofs.YtehgpnnfjgmiiaaGreat
end
section
namespace Go.Proofs.YtehgpnnfjgmiiaaGreat
open Go.Shelf Go.RowKit Go.Lib Go.Sort Go.Great
set_option maxRecDepth 100000
set_option maxHeartbeats 2000000
theorem quiet_valV {P : Program} {B : Nat} {W0 : World} {o : Oper} {a : Act} {K : Act → Prop} (v : Value) (hl : ∀ n : Kept B W0, (execOp a.eval o).run P n.val = .ok (.value v) n.val)
    (hk : K (a.put o.dst v)) : o.quiet P a (fun w' => ∃ n : Kept B W0, w' = n.val) K :=
  ⟨v, fun w ⟨n, hn⟩ => by
    subst hn
    unfold Oper.quietAt
    rw [hl n]
    exact ⟨rfl, rfl⟩, hk⟩
theorem quiet_convV {P : Program} {B : Nat} {W0 : World} {o : Oper} {a : Act} {K : Act → Prop} (s d : TypeId) (x : Operand) (ho : o.op = .convert s d x) (u v : Value) (hx : a.eval x = u) (hl : ∀ n : Kept B W0, (convert s d u).run P n.val = .ok v n.val)
    (hk : K (a.put o.dst v)) : o.quiet P a (fun w' => ∃ n : Kept B W0, w' = n.val) K :=
  quiet_valV v (fun n => by
    unfold execOp
    simp only [ho, hx, Sem.run_bind, hl n, Result.andThen_ok, Sem.run_pure]) hk
section
variable {w W W' : World} {g : Nat} {s s' : St}
end
end Go.Proofs.YtehgpnnfjgmiiaaGreat
end
