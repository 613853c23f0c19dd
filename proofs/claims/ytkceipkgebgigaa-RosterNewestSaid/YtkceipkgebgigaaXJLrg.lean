/- Contract of Wire of signpostref09. Conditions: at most 100,000 bytes. Contract of Wire of package label. No condition. What the statements of label lean on: contracts in one form, and the chapter's examples. Conditions: at most 50,000 bytes. Walk of LabelBack. Conditions: what comes in fits 2^47 bytes. Contract of Split of package service. Conditions: at most 100,000 bytes. Contracts of Good, Canon and Key of package service. Conditions: none. Walk of ServiceTells. No condition. Over, Alive, Left, bare, Stone of the program. No condition. bare, isTarget, Good of the program. Conditions: targets of at most 100,000 bytes. -/
import Derived.Test.YtkceipkgebgigaaProg
import Derived.Test.YtkceipkgebgigaaXJLci
import Derived.Deep.Cut
import Derived.Deep.QuietTactic
import Derived.Test.YtkceipkgebgigaaXKAPKept
import Derived.Maps.AppendAt
import Derived.RangeFuncBox
import Derived.Lib.AppendStr
import Derived.Test.YtkceipkgebgigaaXJLcc
import Derived.BigQuiet
import Derived.Shelf.Abstract
import Derived.Test.YtkceipkgebgigaaXJPWords
import Derived.Sort.Grow
import Derived.Lib.SlBytesConst
import Derived.LoopTactic
import Derived.Stop.BytesEq
import Derived.Deep.AppendSrc
import Derived.Lib.ConvBytes
import Derived.Laws.ResultCell
import Derived.StillTailTactics
import Derived.Shelf.SlicesE.Clone
section
namespace Go.Proofs.Ytkceipkgebgigaa
open Go.Shelf Go.RowKit Go.Lib Go.Great
set_option maxRecDepth 100000
set_option maxHeartbeats 1000000
theorem results_2b {fn : Func} {p q : Tmp} (h : fn.results = #[.tmp p, .tmp q]) {P : Program} (tmps : Array Value) (w : World) (u v : Value) (hp : tmps.getD p undef = u) (hq : tmps.getD q undef = v) : (results fn tmps).run P w = .ok (.tuple #[u, v]) w := by
  have hp' : tmps[p]?.getD undef = u := by simpa using hp
  have hq' : tmps[q]?.getD undef = v := by simpa using hq
  simp [results, h, hp', hq']
theorem byteCells_b (x : List UInt8) : byteCells (bstr x) = bcells x := by simp [byteCells, bstr, bcells]
theorem app_below0 {W w1 : World} {n₀ : Nat} {e : TypeId} {size : Nat} {v : Value} {k : Nat} {xs : List Value} (hrow : W.ownsRow n₀ e size v k xs) (hn₀ : n₀ ≤ W.heap.size) (hgrow : W.grownBy w1 v.ownBlock) : Below n₀ W w1 := by
  refine (Below.refl n₀ W).grown hgrow hn₀ fun j ej => ?_
  rcases hrow.2 with ⟨rfl, _⟩ | ⟨g, cap, cur, rfl, hb, _, _⟩
  · simp [Value.ownBlock] at ej
  · obtain rfl : g = j := by simpa [Value.ownBlock] using ej
    exact hb
theorem byte_len2 (n : Nat) (h : n ≤ 254) : (n : Int) = ((UInt8.ofNat n).toNat : Int) := by
  rw [UInt8.toNat_ofNat']
  omega
end Go.Proofs.Ytkceipkgebgigaa
end
section
namespace Go.Proofs.Ytkceipkgebgigaa
open Go.Shelf Go.RowKit Go.Lib Go.Great
set_option maxRecDepth 100000
set_option maxHeartbeats 1000000
theorem wpListIn_append_str {F : Fence} {n' : Nat} {P : Program} {ops : Array Oper} {rest : List Oper} {o : Oper} {a : Act} {Q : Exit → Act → World → Prop} (w : World) (hgd : o.guard = none) (sl x : Operand) (t u : TypeId)
    (ho : o.op = .call { callee := .builtin .append, args := #[sl, x], argTypes := #[t, u] })
    (base : Nat) (e : TypeId) (i : TypeInfo) (ht : P.underlying t = some (.slice e)) (hu : P.underlying u = some .string) (hi : P.info? e = some i) (hz : i.zero = some (.int .u8 0))
    (hsize : i.size = 1) (hby : i.bytes = 1)
    (v : Value) (n : Nat) (xs : List Value) (hs : a.eval sl = v) (hown : w.ownsRow base e 1 v n xs) (s : ByteArray) (hx : a.eval x = .string s)
    (h63 : n + s.size ≤ maxLen) (hbytes : n + s.size ≤ 140737488355328) (hbase : base ≤ w.heap.size)
    (h : ∀ v' w', w'.ownsRow base e 1 v' (n + s.size) (xs ++ strCells s) → w.grownBy w' v.ownBlock → (v' = .slice none 0 0 ↔ v = .slice none 0 0 ∧ s.size = 0) → wpListIn F n' P ops Q rest (a.put o.dst v') w') : wpListIn F n' P ops Q (o :: rest) a w := by
  refine wpListIn_plain hgd fun K hK => ?_
  obtain ⟨v', w', hr, h2, h3, h4⟩ := run_append_own_string (P := P) (w := w) base t u o.type e i ht hu hi hz hsize hby v n xs hown s h63 hbytes hbase
  unfold Oper.wpIn
  refine ⟨?_, ?_⟩
  · simp [Oper.about, ho, resolve, Target.leads, Sem.run_pure]
  · rw [Oper.semAt_plain F _ _ (by rw [ho]; intro c hc'; cases hc')]
    simp [execOp, ho, resolve, invoke, builtin, hs, hx, hr, Result.andThen]
    exact hK _ _ (h v' w' h2 h3 h4)
theorem Boxed.appended0 {W w1 : World} {n₀ B : Nat} {t e : TypeId} {size : Nat} {v v' : Value} {k m : Nat} {xs ys : List Value}
    (hv : Boxed W B t v) (hte : t ≠ e) (hrow : W.ownsRow n₀ e size v k xs) (hn₀ : n₀ ≤ W.heap.size) (hB : n₀ ≤ B)
    (hown' : w1.ownsRow n₀ e size v' m ys) (hgrow : W.grownBy w1 v.ownBlock) :
    Boxed w1 B t v ∧ Boxed (w1.setCell ⟨B, 0, none⟩ v') B t v' ∧ (w1.setCell ⟨B, 0, none⟩ v').ownsRow n₀ e size v' m ys ∧ KeepsOthers W (w1.setCell ⟨B, 0, none⟩ v') ∧ Below n₀ W (w1.setCell ⟨B, 0, none⟩ v') := by
  have hv1 : Boxed w1 B t v := hv.kept hgrow (hv.not_row hte hrow)
  refine ⟨hv1, hv1.set v', hown'.kept (grownBy_setCell' w1 B v') (.inr (hv1.not_row hte hown').symm), ?_, ?_⟩
  · refine (KeepsOthers.of_grownBy hgrow fun j o ej hj => ?_).trans (KeepsOthers.setCell _ _ _)
    rcases hrow.2 with ⟨rfl, _⟩ | ⟨g, cap, cur, rfl, _, hgb, _⟩
    · simp [Value.ownBlock] at ej
    · obtain rfl : g = j := by simpa [Value.ownBlock] using ej
      rw [hgb] at hj; cases hj; rfl
  · refine ((Below.refl n₀ W).grown hgrow hn₀ fun j ej => ?_).setCell (p := ⟨B, 0, none⟩) hB v'
    rcases hrow.2 with ⟨rfl, _⟩ | ⟨g, cap, cur, rfl, hb, _, _⟩
    · simp [Value.ownBlock] at ej
    · obtain rfl : g = j := by simpa [Value.ownBlock] using ej
      exact hb
theorem ownsRow_ne {W : World} {base g : Nat} {e : TypeId} {size : Nat} {v : Value} {k : Nat} {xs : List Value} (h : W.ownsRow base e size v k xs) (hg : g < base) : v.ownBlock = none ∨ v.ownBlock ≠ some g := by
  rcases h.2 with ⟨rfl, _⟩ | ⟨g', cap, cur, rfl, hb, _⟩
  · exact .inl rfl
  · refine .inr fun e => ?_
    simp [Value.ownBlock] at e
    omega
theorem ownsRow_pos {W : World} {base : Nat} {e : TypeId} {size : Nat} {v : Value} {k : Nat} {xs : List Value} (h : W.ownsRow base e size v k xs) (hk : 0 < k) : ∃ g cap, v = .slice (some ⟨g, 0, none⟩) k cap := by
  rcases h.2 with ⟨_, h0⟩ | ⟨g, cap, _, rfl, _⟩
  · omega
  · exact ⟨g, cap, rfl⟩
theorem others_walks {W W' : World} (h : KeepsOthers W W') : KeepsWalks W W' := ⟨h.size, fun k o hk ho => h.same k o hk (Obj.not_cells_of_walk ho)⟩
theorem strCells_b (x : List UInt8) : strCells (bstr x) = bcells x := by simp [strCells, bstr, bcells]
/-- Behind an append: what is no cells lies as it lay, and what lay below. -/
theorem app_keeps {W w1 : World} {n₀ : Nat} {e : TypeId} {size : Nat} {v : Value} {k : Nat} {xs : List Value} {tmp : Obj} (hrow : W.ownsRow n₀ e size v k xs) (hn₀ : n₀ ≤ W.heap.size) (hgrow : (W.alloc tmp).grownBy w1 v.ownBlock) : KeepsOthers W w1 ∧ Below n₀ W w1 := by
  refine ⟨(KeepsOthers.alloc W tmp).trans (KeepsOthers.of_grownBy hgrow fun j o ej hj => ?_), ((Below.refl n₀ W).alloc hn₀ tmp).grown hgrow (by simp; omega) fun j ej => ?_⟩
  · rcases (hrow.alloc tmp).2 with ⟨rfl, _⟩ | ⟨g, cap, cur, rfl, _, hgb, _⟩
    · simp [Value.ownBlock] at ej
    · obtain rfl : g = j := by simpa [Value.ownBlock] using ej
      rw [hgb] at hj; cases hj; rfl
  · rcases hrow.2 with ⟨rfl, _⟩ | ⟨g, cap, cur, rfl, hb, _, _⟩
    · simp [Value.ownBlock] at ej
    · obtain rfl : g = j := by simpa [Value.ownBlock] using ej
      exact hb
end Go.Proofs.Ytkceipkgebgigaa
end
section
namespace Go.Proofs.Ytkceipkgebgigaa
open Go.Shelf Go.RowKit Go.Lib Go.Great
set_option maxRecDepth 100000
set_option maxHeartbeats 1000000
/-- A slice of bytes. -/
def IsB (v : Value) (xs : List UInt8) (w : World) : Prop := ∃ A c, v = .slice A xs.length c ∧ xs.length ≤ c ∧ BAt w w.heap.size A xs
theorem IsB.of_own {base : Nat} {v : Value} {xs : List UInt8} {w : World} (h : w.ownsRow base 5 1 v xs.length (bcells xs)) : IsB v xs w := by
  have h2 := h
  rcases h.2 with ⟨hv, hn⟩ | ⟨g, cap, cur, hv, hb, hg, hn, _⟩
  · subst hv
    exact ⟨none, 0, by rw [hn], by omega, .inl (List.eq_nil_of_length_eq_zero hn)⟩
  · subst hv
    exact ⟨_, cap, rfl, hn, BAt.of_own h2 (Nat.le_refl _)⟩
theorem IsB.below {v : Value} {xs : List UInt8} {w w' : World} (h : IsB v xs w) (hb : Below w.heap.size w w') : IsB v xs w' := by
  obtain ⟨A, c, h1, h2, h3⟩ := h
  exact ⟨A, c, h1, h2, (h3.below hb).more hb.size⟩
theorem IsB.conv {v : Value} {xs : List UInt8} {w : World} (h : IsB v xs w) : (convert 30 9 v).run Try.prog w = .ok (.string (bstr xs)) w := by
  obtain ⟨A, c, rfl, _, h3⟩ := h
  exact run_convert_bat (P := Try.prog) 30 9 5 c Try.underlying30 Try.underlying5 Try.underlying9 h3
end Go.Proofs.Ytkceipkgebgigaa
end
section
namespace Go.Proofs.Ytkceipkgebgigaa
open Go.Shelf Go.RowKit Go.Lib Go.Great
set_option maxRecDepth 100000
set_option maxHeartbeats 2000000
structure KeptL (B : Nat) (W0 : World) where
  val : World
  property : Below B W0 val
instance (B : Nat) (W0 : World) : Nonempty (KeptL B W0) := ⟨⟨W0, Below.refl _ _⟩⟩
theorem wp_region_keptL {P : Program} {id : Nat} {Q : Exit → Act → World → Prop} {a : Act} {w : World} {l : List Oper} (B : Nat) (W0 : World) (hW : Below B W0 w) (hm : P.follows .mixedOrders = true) (hB : Region.lexB .any l.toArray = true)
    (h : wpQuiet P l.toArray (fun w' => ∃ n : KeptL B W0, w' = n.val) (fun a' => ∀ w', (∃ n : KeptL B W0, w' = n.val) → Q .normal a' w') l a) : (Code.region id l.toArray true).wp P Q a w :=
  wp_region_quiet (C := fun w' => ∃ n : KeptL B W0, w' = n.val) hm hB ⟨⟨{ w with drawn := w.drawn + 1 }, ⟨hW.os, hW.tape, hW.output, hW.size, hW.block⟩⟩, rfl⟩ (by simpa using h)
theorem keptL_of {P : Program} {f : FuncId} {args : Array Value} {v : Value} {B : Nat} {W0 : World} (hB : B ≤ W0.heap.size) (h : ∀ W, Calls P f args W fun e w' => e = .returned v ∧ Below W.heap.size W w') (n : KeptL B W0) :
    Calls P f args n.val fun e w' => e = .returned v ∧ ∃ m : KeptL B W0, w' = m.val :=
  (h n.val).mono (by rintro e w' ⟨rfl, hb⟩; exact ⟨rfl, ⟨w', n.property.trans (hb.mono (Nat.le_trans hB n.property.size))⟩, rfl⟩)
theorem quietL_val {P : Program} {B : Nat} {W0 : World} {o : Oper} {a : Act} {K : Act → Prop} (v : Value) (hl : ∀ n : KeptL B W0, (execOp a.eval o).run P n.val = .ok (.value v) n.val)
    (hk : K (a.put o.dst v)) : o.quiet P a (fun w' => ∃ n : KeptL B W0, w' = n.val) K :=
  ⟨v, fun w ⟨n, hn⟩ => by
    subst hn
    unfold Oper.quietAt
    rw [hl n]
    exact ⟨rfl, rfl⟩, hk⟩
theorem quietL_conv {P : Program} {B : Nat} {W0 : World} {o : Oper} {a : Act} {K : Act → Prop} (s d : TypeId) (x : Operand) (ho : o.op = .convert s d x) (u v : Value) (hx : a.eval x = u) (hl : ∀ n : KeptL B W0, (convert s d u).run P n.val = .ok v n.val)
    (hk : K (a.put o.dst v)) : o.quiet P a (fun w' => ∃ n : KeptL B W0, w' = n.val) K :=
  quietL_val v (fun n => by
    unfold execOp
    simp only [ho, hx, Sem.run_bind, hl n, Result.andThen_ok, Sem.run_pure]) hk
theorem quietL_head {B : Nat} {W0 : World} {o : Oper} {a : Act} {K : Act → Prop} (x y : Operand) (ho : o.op = .slice 30 x none (some y) none) (A : Option Addr) (n c k : Nat) (hx : a.eval x = .slice A n c) (hy : a.eval y = .int .i64 (k : Int)) (hkc : k ≤ c)
    (hk : K (a.put o.dst (.slice (headA A c) k c))) : o.quiet Try.prog a (fun w' => ∃ n : KeptL B W0, w' = n.val) K :=
  quietL_val (.slice (headA A c) k c) (fun m => by
    have := run_head A n c k hkc m.val
    unfold execOp
    simp only [ho, hx, hy, Sem.run_bind, Option.map_some, Option.map_none, run_sliceAt_slice m.val 30 _ _ _ _ under22, this, Result.andThen_ok, Sem.run_pure]) hk
end Go.Proofs.Ytkceipkgebgigaa
end
section
namespace Go.Proofs.Ytkceipkgebgigaa
open Go.Shelf Go.RowKit Go.Lib Go.Great
set_option maxRecDepth 100000
set_option maxHeartbeats 1000000
theorem quietL_load {P : Program} {B : Nat} {W0 : World} {o : Oper} {a : Act} {K : Act → Prop} (ty : TypeId) (x : Operand) (ho : o.op = .load ty x) (p : Addr) (hx : a.eval x = .pointer (some p)) (v : Value) (hl : ∀ n : KeptL B W0, (loadVar ty p).run P n.val = .ok v n.val)
    (hk : K (a.put o.dst v)) : o.quiet P a (fun w' => ∃ n : KeptL B W0, w' = n.val) K :=
  ⟨v, fun w ⟨n, hn⟩ => by
    subst hn
    unfold Oper.quietAt execOp
    simp only [ho, hx, Instr.loadAt, Instr.sureAddr, Sem.run_bind, Sem.run_pure, Result.andThen_ok, hl n]
    exact ⟨rfl, rfl⟩, hk⟩
theorem keptL_ofS {P : Program} {f : FuncId} {args : Array Value} {v : Value} {B : Nat} {W0 : World} (hB : B ≤ W0.heap.size) (h : ∀ n : KeptL B W0, Calls P f args n.val fun e w' => e = .returned v ∧ Below n.val.heap.size n.val w') (n : KeptL B W0) :
    Calls P f args n.val fun e w' => e = .returned v ∧ ∃ m : KeptL B W0, w' = m.val :=
  (h n).mono (by rintro e w' ⟨rfl, hb⟩; exact ⟨rfl, ⟨w', n.property.trans (hb.mono (Nat.le_trans hB n.property.size))⟩, rfl⟩)
theorem results_4 {fn : Func} {p q r s : Tmp} (h : fn.results = #[.tmp p, .tmp q, .tmp r, .tmp s]) {P : Program} (tmps : Array Value) (w : World) (u v x y : Value) (hp : tmps.getD p undef = u) (hq : tmps.getD q undef = v) (hr : tmps.getD r undef = x) (hs : tmps.getD s undef = y) : (results fn tmps).run P w = .ok (.tuple #[u, v, x, y]) w := by
  have hp' : tmps[p]?.getD undef = u := by simpa using hp
  have hq' : tmps[q]?.getD undef = v := by simpa using hq
  have hr' : tmps[r]?.getD undef = x := by simpa using hr
  have hs' : tmps[s]?.getD undef = y := by simpa using hs
  simp [results, h, hp', hq', hr', hs']
end Go.Proofs.Ytkceipkgebgigaa
end
section
namespace Go.Proofs.Ytkceipkgebgigaa
open Go.Shelf Go.RowKit Go.Lib Go.Great
set_option maxRecDepth 100000
set_option maxHeartbeats 1000000
theorem results_cell2 {fn : Func} {p u : Tmp} {ty : TypeId} (h : fn.results = #[.cell p ty, .tmp u]) {P : Program} (tmps : Array Value) (w : World) (b o : Nat) (cs : List Value) (d : TypeDesc) (x : Value) (hp : tmps.getD p undef = .pointer (some ⟨b, o, none⟩)) (hx : tmps.getD u undef = x)
    (hc : w.rangeAt b o cs) (hu : P.underlying ty = some d) (hd : d.isRow = true) (hi : (P.info? ty).map (·.size) = some cs.length) : (results fn tmps).run P w = .ok (.tuple #[.agg cs.toArray, x]) w := by
  have h1 := run_loadVar_mid (P := P) w b o ty cs d hc hu hd hi
  have hp' : tmps[p]?.getD undef = .pointer (some ⟨b, o, none⟩) := by simpa using hp
  have hx' : tmps[u]?.getD undef = x := by simpa using hx
  simp [results, h, hp', hx', h1, asAddr]
end Go.Proofs.Ytkceipkgebgigaa
end
section
namespace Go.Proofs.Ytkceipkgebgigaa
open Go.Shelf Go.RowKit Go.Lib Go.Great
set_option maxRecDepth 100000
set_option maxHeartbeats 2000000
theorem upB {f : FuncId} {args : Array Value} {v : Value} (w : World) (h : ∀ W, Calls Try.prog f args W fun e w' => e = .returned v ∧ Below W.heap.size W w') : Hid (∀ W, Below w.heap.size w W → Calls Try.prog f args W fun e w' => e = .returned v ∧ Below w.heap.size w w') :=
  Lib.hid (fun W hW => (h W).mono (by rintro e w' ⟨rfl, hb⟩; exact ⟨rfl, hW.trans (hb.mono hW.size)⟩))
theorem load51 {w : World} {g : Nat} {K : List Value} {ty : TypeId} (hl : K.length = 20) (h : w.heap[g]? = some (.cells K.toArray ty (0, 0))) : (loadVar 23 ⟨g, 0, none⟩).run Try.prog w = .ok (.agg K.toArray) w :=
  run_loadVar_mid (P := Try.prog) w g 0 23 K _ (row_range h) Try.underlying23 rfl (by rw [hl]; exact size61)
theorem wpList_loadG {P : Program} {ops : Array Oper} {rest : List Oper} {o : Oper} {a : Act} {w : World} {Q : Exit → Act → World → Prop} (hw : Region.wanted o (yielded ops a.tmps) = true) (ty : TypeId) (x : Operand) (ho : o.op = .load ty x) (p : Addr) (hx : a.eval x = .pointer (some p)) (v : Value) (hl : (loadVar ty p).run P w = .ok v w)
    (h : wpList P ops Q rest (a.put o.dst v) w) : wpList P ops Q (o :: rest) a w :=
  BigFrame.wpList_want hw fun _ hK => wp_loadV ty x ho p hx v hl (hK _ _ h)
end Go.Proofs.Ytkceipkgebgigaa
end
section
namespace Go.Proofs.Ytkceipkgebgigaa
open Go.Shelf Go.RowKit Go.Lib Go.Great
set_option maxRecDepth 100000
set_option maxHeartbeats 1000000
theorem over_any (i : Ins) (n : Nat) (w : World) : Calls Try.prog 22 #[.agg (encI i).toArray, .int .u64 (n : Int)] w fun e w' => e = .returned (.bool (overI i n)) ∧ Below w.heap.size w w' := by
  have hb : Below w.heap.size w (w.alloc (.cells (encI i).toArray 28)) := (Below.refl _ w).alloc (Nat.le_refl _) _
  have HF := fldB (heap_alloc_new w (.cells (encI i).toArray 28))
  have HK := Lib.hid HF.all
  have HC := Lib.hid (end_any i)
  have HE : Hid (((endI i : Nat) : Int) ≤ (n : Int) ↔ overI i n = true) := Lib.hid (by unfold overI; rw [decide_eq_true_eq]; omega)
  have HB := Lib.hid (fun W (h : W = (w.alloc (.cells (encI i).toArray 28)).alloc (.cells (encI i).toArray 28)) => show Below w.heap.size w W by rw [h]; exact hb.alloc hb.size _)
  generalize (encI i).toArray = X at *
  generalize endI i = E at *
  generalize overI i n = k at *
  clear hb HF
  go_enter Try.func22, Try.ntmps22
  go_wp2_with (first
    | ((with_reducible refine wpList_loadV (op := ⟨some 5, _, _, _, _, _⟩) rfl 28 (.tmp 2) rfl _ ?_ _ HK.out ?_); rfl)
    | (go_at_call 16; (with_reducible refine (HC.out _).mono ?_); rintro e w1 ⟨rfl, hw1⟩))
  go_ret
  refine ⟨?_, HB.out _ rfl⟩
  have := HE.out
  cases k
  · simp only [Bool.false_eq_true, iff_false] at this
    simp
    omega
  · simp only [iff_true] at this
    simp
    omega
theorem alive_any (i : Ins) (n : Nat) (w : World) : Calls Try.prog 18 #[.agg (encI i).toArray, .int .u64 (n : Int)] w fun e w' => e = .returned (.bool (aliveI i n)) ∧ Below w.heap.size w w' := by
  have hb : Below w.heap.size w (w.alloc (.cells (encI i).toArray 28)) := (Below.refl _ w).alloc (Nat.le_refl _) _
  have HF := fldB (heap_alloc_new w (.cells (encI i).toArray 28))
  have HK := Lib.hid HF.all
  have c1 := HF.born
  have HC := upB w (over_any i n)
  have HE : Hid (aliveI i n = (decide (i.born ≤ n) && !overI i n)) := Lib.hid rfl
  have HB := Lib.hid hb
  generalize (encI i).toArray = X at *
  generalize overI i n = k at *
  generalize aliveI i n = r at *
  generalize i.born = b at *
  clear hb HF
  by_cases h : (b : Int) ≤ (n : Int)
  · have hr : r = !k := by rw [HE.out, decide_eq_true (show b ≤ n by omega), Bool.true_and]
    subst hr
    clear HE
    go_enter Try.func18, Try.ntmps18
    go_wp2_with (first
      | ((with_reducible refine wpList_loadG (o := ⟨some 10, _, _, _, _, _⟩) rfl 28 (.tmp 2) rfl _ ?_ _ HK.out ?_); rfl)
      | (go_at_call 22; (with_reducible refine (HC.out _ HB.out).mono ?_); rintro e w1 ⟨rfl, hb1⟩))
    go_ret
    exact ⟨rfl, hb1⟩
  · have hr : r = false := by rw [HE.out, decide_eq_false (show ¬ b ≤ n by omega), Bool.false_and]
    subst hr
    clear HE
    go_enter Try.func18, Try.ntmps18
    go_wp2
    go_ret
    exact ⟨rfl, HB.out⟩
theorem left_anyI (i : Ins) (n : Nat) (hn : n < 18446744073709551616) (w : World) : Calls Try.prog 20 #[.agg (encI i).toArray, .int .u64 (n : Int)] w fun e w' => e = .returned (.int .u32 (leftI i n : Int)) ∧ Below w.heap.size w w' := by
  have hb : Below w.heap.size w (w.alloc (.cells (encI i).toArray 28)) := (Below.refl _ w).alloc (Nat.le_refl _) _
  have HK : Hid (∀ W, Below (w.heap.size + 1) (w.alloc (.cells (encI i).toArray 28)) W → (loadVar 28 ⟨w.heap.size, 0, none⟩).run Try.prog W = .ok (.agg (encI i).toArray) W) :=
    Lib.hid (fun W hW => (fld_below (heap_alloc_new w (.cells (encI i).toArray 28)) hW (by omega)).all)
  have HC : Hid (∀ W, Calls Try.prog 18 #[.agg (encI i).toArray, .int .u64 (n : Int)] W fun e w' => e = .returned (.bool (aliveI i n)) ∧ Below W.heap.size W w') := Lib.hid (alive_any i n)
  have HD := Lib.hid (end_any i)
  have HB := Lib.hid hb
  have HR : Hid (leftI i n = if aliveI i n = true then endI i - n else 0) := Lib.hid rfl
  have HL : Hid (leftI i n ≤ i.life) := Lib.hid (leftI_le i n)
  have hl := i.hl
  have HA : Hid (aliveI i n = true → n ≤ endI i) := Lib.hid (fun h => by
    unfold aliveI overI at h
    simp only [Bool.and_eq_true, decide_eq_true_eq, Bool.not_eq_true', decide_eq_false_iff_not] at h
    omega)
  have hE := endI_lt i
  generalize (encI i).toArray = X at *
  generalize endI i = E at *
  generalize leftI i n = r at *
  generalize aliveI i n = a at *
  generalize i.life = l at *
  clear hb
  cases a
  · have hr : r = 0 := by rw [HR.out]; rfl
    subst hr
    clear HR HL HA
    go_enter Try.func20, Try.ntmps20
    go_wp2_with (first
      | ((with_reducible refine wpList_loadV (op := ⟨some 5, _, _, _, _, _⟩) rfl 28 (.tmp 2) rfl _ ?_ _ (HK.out _ (Below.refl _ _)) ?_); rfl)
      | (go_at_call 18; (with_reducible refine (HC.out _).mono ?_); rintro e w1 ⟨rfl, hb1⟩))
    go_ret
    exact ⟨rfl, HB.out.trans (hb1.mono HB.out.size)⟩
  · have hr : r = E - n := by rw [HR.out]; rfl
    have h1 : IntKind.u64.wrap ((E : Int) - (n : Int)) = (r : Int) := by have := HA.out rfl; rw [IntKind.wrap]; simp [IntKind.signed, IntKind.bits]; omega
    have h2 : (r : Int) % 4294967296 = r := by have := HL.out; omega
    clear HR HL HA hr
    go_enter Try.func20, Try.ntmps20
    go_wp2_with (first
      | ((with_reducible refine wpList_loadV (op := ⟨some 5, _, _, _, _, _⟩) rfl 28 (.tmp 2) rfl _ ?_ _ (HK.out _ (Below.refl _ _)) ?_); rfl)
      | ((with_reducible refine wpList_loadV (op := ⟨some 9, _, _, _, _, _⟩) rfl 28 (.tmp 2) rfl _ ?_ _ (HK.out _ (by simpa using hb1)) ?_); rfl)
      | (go_at_call 18; (with_reducible refine (HC.out _).mono ?_); rintro e w1 ⟨rfl, hb1⟩)
      | (go_at_call 16; (with_reducible refine (HD.out _).mono ?_); rintro e w2 ⟨rfl, hw2⟩))
    go_ret
    have hb2 := HB.out.trans (hb1.mono HB.out.size)
    refine ⟨by simp [h1, h2], ?_⟩
    exact hb2.alloc hb2.size _
end Go.Proofs.Ytkceipkgebgigaa
end
section
namespace Go.Proofs.Ytkceipkgebgigaa
open Go.Shelf Go.RowKit Go.Lib Go.Great
set_option maxRecDepth 100000
set_option maxHeartbeats 1000000
theorem zV28 (W : World) : (zeroValue 28).run Try.prog W = .ok (.agg (encI zeroI).toArray) W := by kernel_rfl
/-- The parts of a publisher, one by one. -/
theorem run_build28 (xs : List UInt8) (hx : xs.length = 20) (s b l : Nat) (k : Bool) (W : World) : (Instr.build 28 #[(0, .agg (bcells xs).toArray), (1, .int .u64 (s : Int)), (2, .int .u64 (b : Int)), (3, .int .u32 (l : Int)), (4, .bool k)]).run Try.prog W =
    .ok (.agg (bcells xs ++ ([.int .u64 (s : Int), .int .u64 (b : Int), .int .u32 (l : Int), .bool k, .int .u16 0, .int .u16 0, .int .u16 0, .string ⟨#[]⟩] : List Value)).toArray) W := by
  obtain ⟨x0, xs, rfl⟩ := List.exists_cons_of_length_eq_add_one (show xs.length = 19 + 1 by simpa using hx)
  obtain ⟨x1, xs, rfl⟩ := List.exists_cons_of_length_eq_add_one (show xs.length = 18 + 1 by simpa using hx)
  obtain ⟨x2, xs, rfl⟩ := List.exists_cons_of_length_eq_add_one (show xs.length = 17 + 1 by simpa using hx)
  obtain ⟨x3, xs, rfl⟩ := List.exists_cons_of_length_eq_add_one (show xs.length = 16 + 1 by simpa using hx)
  obtain ⟨x4, xs, rfl⟩ := List.exists_cons_of_length_eq_add_one (show xs.length = 15 + 1 by simpa using hx)
  obtain ⟨x5, xs, rfl⟩ := List.exists_cons_of_length_eq_add_one (show xs.length = 14 + 1 by simpa using hx)
  obtain ⟨x6, xs, rfl⟩ := List.exists_cons_of_length_eq_add_one (show xs.length = 13 + 1 by simpa using hx)
  obtain ⟨x7, xs, rfl⟩ := List.exists_cons_of_length_eq_add_one (show xs.length = 12 + 1 by simpa using hx)
  obtain ⟨x8, xs, rfl⟩ := List.exists_cons_of_length_eq_add_one (show xs.length = 11 + 1 by simpa using hx)
  obtain ⟨x9, xs, rfl⟩ := List.exists_cons_of_length_eq_add_one (show xs.length = 10 + 1 by simpa using hx)
  obtain ⟨x10, xs, rfl⟩ := List.exists_cons_of_length_eq_add_one (show xs.length = 9 + 1 by simpa using hx)
  obtain ⟨x11, xs, rfl⟩ := List.exists_cons_of_length_eq_add_one (show xs.length = 8 + 1 by simpa using hx)
  obtain ⟨x12, xs, rfl⟩ := List.exists_cons_of_length_eq_add_one (show xs.length = 7 + 1 by simpa using hx)
  obtain ⟨x13, xs, rfl⟩ := List.exists_cons_of_length_eq_add_one (show xs.length = 6 + 1 by simpa using hx)
  obtain ⟨x14, xs, rfl⟩ := List.exists_cons_of_length_eq_add_one (show xs.length = 5 + 1 by simpa using hx)
  obtain ⟨x15, xs, rfl⟩ := List.exists_cons_of_length_eq_add_one (show xs.length = 4 + 1 by simpa using hx)
  obtain ⟨x16, xs, rfl⟩ := List.exists_cons_of_length_eq_add_one (show xs.length = 3 + 1 by simpa using hx)
  obtain ⟨x17, xs, rfl⟩ := List.exists_cons_of_length_eq_add_one (show xs.length = 2 + 1 by simpa using hx)
  obtain ⟨x18, xs, rfl⟩ := List.exists_cons_of_length_eq_add_one (show xs.length = 1 + 1 by simpa using hx)
  obtain ⟨x19, xs, rfl⟩ := List.exists_cons_of_length_eq_add_one (show xs.length = 0 + 1 by simpa using hx)
  obtain rfl := List.eq_nil_of_length_eq_zero (show xs.length = 0 by simpa using hx)
  kernel_rfl
theorem run_build28i (i : Ins) (W : World) : (Instr.build 28 #[(0, .agg (bcells i.pub).toArray), (1, .int .u64 (i.seq : Int)), (2, .int .u64 (i.born : Int)), (3, .int .u32 (i.life : Int)), (4, .bool true)]).run Try.prog W = .ok (.agg (encI (bareI i)).toArray) W :=
  run_build28 i.pub i.hp i.seq i.born i.life true W
theorem wpList_alloc28 {w : World} {ops : Array Oper} {rest : List Oper} {o : Oper} {a : Act} {Q : Exit → Act → World → Prop} (n : Nat) (hn : w.heap.size = n) (hgd : o.guard = none) (d : Nat) (hd : o.dst = some d) (ho : o.op = .alloc 28)
    (h : wpList Try.prog ops Q rest (a.put (some d) (.pointer (some ⟨n, 0, none⟩))) (w.alloc (.cells (encI zeroI).toArray 28))) : wpList Try.prog ops Q (o :: rest) a w :=
  wpList_plain hgd fun _ hK => by
    subst hn
    have hz := fun W => zV28 W
    generalize (encI zeroI).toArray = Z at hz h
    unfold Oper.wp execOp
    simp only [ho, Instr.alloc, Sem.run_bind, hz, Result.andThen_ok, Value.cells]
    simp [Oper.upon, hd]
    exact hK _ _ h
theorem encI_all (c : Ins) : (encI c).toArray.all (·.oneCell') = true := by
  rw [Array.all_eq_true_iff_forall_mem]
  intro v hv
  exact encI_one c v (by simpa using hv)
theorem wpList_store28 {w : World} {ops : Array Oper} {rest : List Oper} {o : Oper} {a : Act} {Q : Exit → Act → World → Prop} (hgd : o.guard = none) (x y : Operand) (ho : o.op = .store 28 x y) (g : Nat) (c : Ins) (hx : a.eval x = .pointer (some ⟨g, 0, none⟩)) (hy : a.eval y = .agg (encI c).toArray)
    (ht : w.there g 0 28) (h : wpList Try.prog ops Q rest (a.put o.dst undef) (w.setCells g 0 (encI c))) : wpList Try.prog ops Q (o :: rest) a w := by
  have hsz : (encI c).toArray.size = 28 := by rw [List.size_toArray, encI_length]
  refine wpList_store_mid (P := Try.prog) hgd 28 x y ho g 0 (encI c).toArray hx hy (by rw [hsz]; exact ht) (by rw [hsz]; exact size28i) (encI_all c) ?_
  rw [show (encI c).toArray.toList = encI c from rfl]
  exact h
/-- A store into the block made last. -/
theorem wpList_store28n {w : World} {ops : Array Oper} {rest : List Oper} {o : Oper} {a : Act} {Q : Exit → Act → World → Prop} (hgd : o.guard = none) (x y : Operand) (ho : o.op = .store 28 x y) (n : Nat) (hn : w.heap.size = n) (z c : Ins) (hx : a.eval x = .pointer (some ⟨n, 0, none⟩)) (hy : a.eval y = .agg (encI c).toArray)
    (h : wpList Try.prog ops Q rest (a.put o.dst undef) (w.alloc (.cells (encI c).toArray 28))) : wpList Try.prog ops Q (o :: rest) a (w.alloc (.cells (encI z).toArray 28)) := by
  subst hn
  refine wpList_store28 hgd x y ho w.heap.size c hx hy ?_ ?_
  · have := there_new w 28 (encI z)
    rwa [encI_length] at this
  · rw [setCells_all w 28 (encI z) (encI c) (by rw [encI_length, encI_length])]
    exact h
theorem bare_any (i : Ins) (w : World) : Calls Try.prog 52 #[.agg (encI i).toArray] w fun e w' => e = .returned (.agg (encI (bareI i)).toArray) ∧ Below w.heap.size w w' := by
  obtain ⟨h1, h2, hb⟩ := heap2 w (.cells (encI i).toArray 28) (.cells (encI zeroI).toArray 28)
  have HF := fldB h1
  have HK := Lib.hid HF.pub
  have c1 := HF.seq
  have c2 := HF.born
  have c3 := HF.life
  have HBU := Lib.hid (fun W => run_build28i i W)
  obtain ⟨_, k2, kb⟩ := heap2 w (.cells (encI i).toArray 28) (.cells (encI (bareI i)).toArray 28)
  have HR := Lib.hid (row_range k2)
  have HB := Lib.hid kb
  have hl := encI_length (bareI i)
  generalize bareI i = j at *
  obtain ⟨J, hJ⟩ : ∃ J, J = (encI j).toArray := ⟨_, rfl⟩
  have HX := Lib.hid hJ
  rw [← hJ] at HBU HB ⊢
  generalize (encI i).toArray = X at *
  generalize (bcells i.pub).toArray = IX at *
  generalize i.seq = s at *
  generalize i.born = b at *
  generalize i.life = l at *
  clear h1 h2 hb k2 kb hJ HF
  go_enter Try.func52, Try.ntmps52
  go_wp2_with (first
    | (with_reducible refine wpList_alloc28 (o := ⟨some 2, _, _, _, _, _⟩) (w.heap.size + 1) (by simp) rfl 2 rfl rfl ?_)
    | ((with_reducible refine wpList_loadV (op := ⟨some 4, _, _, _, _, _⟩) rfl 23 (.tmp 3) rfl _ ?_ _ HK.out ?_); rfl)
    | ((with_reducible refine wpList_buildV (o := ⟨some 11, _, _, _, _, _⟩) rfl 28 _ rfl _ ?_ _ (HBU.out _) ?_); (simp only [List.map_toArray, List.map_cons, List.map_nil]; rfl))
    | ((with_reducible refine wpList_store28n (o := ⟨none, _, _, _, _, _⟩) rfl (.tmp 2) (.tmp 11) rfl (w.heap.size + 1) ?_ zeroI j ?_ ?_ ?_); (simp); rfl; (rw [← HX.out]; rfl)))
  have hB := HB.out
  rw [HX.out] at hB ⊢
  refine bodyPost_ret (v := .agg (encI j).toArray) ?_ rfl ?_
  · exact results_cell1 (p := 2) (ty := 28) rfl _ _ (w.heap.size + 1) 0 (encI j) _ rfl HR.out Try.underlying28 rfl (by rw [hl]; exact size28i)
  · exact ⟨rfl, hB⟩
/-- A name of small letters. -/
def tgtL (s : List UInt8) : Bool := goodL s && (foldL s == s)
theorem istarget_any (s : List UInt8) (hs : s.length ≤ 100000) (w : World) : Calls Try.prog 53 #[.string (bstr s)] w fun e w' => e = .returned (.bool (tgtL s)) ∧ Below w.heap.size w w' := by
  have HG := upB w (goodp_any s)
  have HFo := upB w (fold_any s hs)
  have HE : Hid (tgtL s = (goodL s && (foldL s == s))) := Lib.hid rfl
  have HS : Hid ((((bstr (foldL s)).toList) == ((bstr s).toList)) = (foldL s == s)) := Lib.hid (by rw [bstr_list, bstr_list])
  have HB0 := Lib.hid (Below.refl w.heap.size w)
  generalize tgtL s = r at *
  generalize goodL s = g at *
  generalize (foldL s == s) = f at *
  generalize bstr (foldL s) = F at *
  generalize bstr s = S at *
  cases g
  · have hr : r = false := by rw [HE.out]; rfl
    subst hr
    clear HE HS
    go_enter Try.func53, Try.ntmps53
    go_wp2_with (go_at_call 87; (with_reducible refine (HG.out _ HB0.out).mono ?_); rintro e w1 ⟨rfl, hb1⟩)
    go_ret
    exact ⟨rfl, hb1⟩
  · have hr : r = f := by rw [HE.out, Bool.true_and]
    subst hr
    have hs2 := HS.out
    clear HE HS
    go_enter Try.func53, Try.ntmps53
    go_wp2_with (first
      | (go_at_call 87; (with_reducible refine (HG.out _ HB0.out).mono ?_); rintro e w1 ⟨rfl, hb1⟩)
      | (go_at_call 88; (with_reducible refine (HFo.out _ hb1).mono ?_); rintro e w2 ⟨rfl, hb2⟩))
    go_ret
    exact ⟨by simp [hs2], hb2⟩
end Go.Proofs.Ytkceipkgebgigaa
end
