/- Instances as values; loads of their fields; equality of two. No condition. Equality of two instances, as the program has it. No condition. Contract of the schedule of package sha. Conditions: a block has 64 bytes. Contract of Prefix of package ident. Conditions: an id has 20 bytes. Regions that draw their order and whose calls only make memory of their own: one walk, in every world that keeps what lay below a bound. No condition. The chapter's examples of package ident hold. No condition. Rows of ids in memory: plain lemmas. No condition. Contract of slices.BinarySearchFunc at ids, with the closure of package metric. Conditions: fewer than 100000 ids, sorted. Contract of the source of the reference (layer 7): Take. Conditions: the bytes are at most 900,000; the number that comes in is an int. Regions that draw their order and whose calls only make memory of their own: one walk, in every world that keeps what lay below a bound. No condition. Contract of Bytes of package contact. No condition. -/
import Derived.Test.YtehgpnnfjgmiiaaGreatProg
import Derived.Test.YtehgpnnfjgmiiaaGreatYJPWords
import Derived.Deep.MidRow
import Derived.Shelf.Abstract
import Derived.RegionTactic
import Derived.RegionCalls
import Derived.WalkKit
import Derived.Deep.RegionHeld3
import Derived.Deep.QuietTactic
import Derived.BigQuiet
import Derived.Stop.BytesEq
import Derived.Deep.AppendSrc
import Derived.Laws.BytesString
import Derived.Laws.CopyOwn
import Derived.Deep.AppendLies
import Derived.Deep.Draws
import Derived.WalkSpells
import Derived.Test.YtehgpnnfjgmiiaaGreatRows
import Derived.WalkLawsBesides
import Derived.Lib.Hide
import Derived.Outline
import Derived.Laws.BitsAllLaws
import Derived.Laws.BitsLemmas
import Derived.Laws.Bits64
import Derived.LoopTactic
import Derived.Deep.DeepCutAuto
import Derived.Great.BuildSlice
import Derived.Lib.SlBytesConst
import Derived.Sort.Grow
import Derived.Lib.ConvBytes
import Derived.StillTailTactics
import Derived.Lib.OwnBridge
import Derived.Lib.SliceRun
import Derived.Below
import Derived.ProofKit
import Derived.OpenShut
import Derived.ChangeOld
import Derived.Laws.Tables
import Derived.Deep.LoopGhost
import Derived.Shelf.LaysM
section
namespace Go.Proofs.YtehgpnnfjgmiiaaGreat
open Go.Shelf Go.RowKit Go.Lib Go.Great
set_option maxRecDepth 100000
set_option maxHeartbeats 1000000
theorem bcells_oneI (xs : List UInt8) : ∀ v ∈ bcells xs, v.oneCell' = true := by
  intro v hv
  unfold bcells at hv
  obtain ⟨c, _, rfl⟩ := List.mem_map.1 hv
  rfl
/-- An instance whose numbers fit their types. -/
structure Ins where
  pub : List UInt8
  seq : Nat
  born : Nat
  life : Nat
  gone : Bool
  pri : Nat
  wei : Nat
  port : Nat
  tgt : List UInt8
  hp : pub.length = 20
  hs : seq < 18446744073709551616
  hb : born < 18446744073709551616
  hl : life < 4294967296
  h1 : pri < 65536
  h2 : wei < 65536
  h3 : port < 65536
theorem Ins.same {x y : Ins} (a : x.pub = y.pub) (b : x.seq = y.seq) (c : x.born = y.born) (d : x.life = y.life) (e : x.gone = y.gone) (f : x.pri = y.pri) (g : x.wei = y.wei) (h : x.port = y.port) (i : x.tgt = y.tgt) : x = y := by
  cases x
  cases y
  simp only at a b c d e f g h i
  subst a b c d e f g h i
  rfl
def zeroI : Ins := ⟨List.replicate 20 0, 0, 0, 0, false, 0, 0, 0, [], by simp, by omega, by omega, by omega, by omega, by omega, by omega⟩
instance : Inhabited Ins := ⟨zeroI⟩
/-- All its cells but the publisher's. -/
def tailI (i : Ins) : List Value := [.int .u64 (i.seq : Int), .int .u64 (i.born : Int), .int .u32 (i.life : Int), .bool i.gone, .int .u16 (i.pri : Int), .int .u16 (i.wei : Int), .int .u16 (i.port : Int), .string (bstr i.tgt)]
def encI (i : Ins) : List Value := bcells i.pub ++ tailI i
theorem encI_length (i : Ins) : (encI i).length = 28 := by unfold encI; rw [List.length_append, bcells_length, i.hp]; rfl
theorem encI_one (i : Ins) : ∀ v ∈ encI i, v.oneCell' = true := by
  intro v hv
  unfold encI at hv
  rcases List.mem_append.1 hv with h | h
  · exact bcells_oneI _ v h
  · simp only [tailI, List.mem_cons, List.not_mem_nil, or_false] at h
    rcases h with rfl | rfl | rfl | rfl | rfl | rfl | rfl | rfl <;> rfl
theorem range_frontI {w : World} {g o : Nat} {a b : List Value} (h : w.rangeAt g o (a ++ b)) : w.rangeAt g o a := fun j v hv => h j v (by rw [List.getElem?_append_left (List.getElem?_eq_some_iff.1 hv).1]; exact hv)
theorem range_backI {w : World} {g o : Nat} {a b : List Value} (h : w.rangeAt g o (a ++ b)) : w.rangeAt g (o + a.length) b := fun j v hv => by
  have := h (a.length + j) v (by rw [List.getElem?_append_right (by omega), Nat.add_sub_cancel_left]; exact hv)
  rwa [← Nat.add_assoc] at this
theorem size28i : (Tryz.prog.info? 79).map (·.size) = some 28 := by kernel_rfl
theorem size23i : (Tryz.prog.info? 24).map (·.size) = some 20 := by kernel_rfl
theorem load28 {w : World} {g o : Nat} {i : Ins} (hr : w.rangeAt g o (encI i)) : (loadVar 79 ⟨g, o, none⟩).run Tryz.prog w = .ok (.agg (encI i).toArray) w :=
  run_loadVar_mid w g o 79 (encI i) _ hr Tryz.underlying79 rfl (by rw [encI_length]; exact size28i)
theorem load23 {w : World} {g o : Nat} {i : Ins} (hr : w.rangeAt g o (encI i)) : (loadVar 24 ⟨g, o, none⟩).run Tryz.prog w = .ok (.agg (bcells i.pub).toArray) w :=
  run_loadVar_mid w g o 24 (bcells i.pub) _ (range_frontI hr) Tryz.underlying24 rfl (by rw [bcells_length, i.hp]; exact size23i)
/-- The fields of an instance at a place. -/
structure FldI (w : World) (g o : Nat) (i : Ins) : Prop where
  pub : (loadVar 24 ⟨g, o, none⟩).run Tryz.prog w = .ok (.agg (bcells i.pub).toArray) w
  seq : w.cell? ⟨g, o + 20, none⟩ = some (.int .u64 (i.seq : Int))
  born : w.cell? ⟨g, o + 21, none⟩ = some (.int .u64 (i.born : Int))
  life : w.cell? ⟨g, o + 22, none⟩ = some (.int .u32 (i.life : Int))
  gone : w.cell? ⟨g, o + 23, none⟩ = some (.bool i.gone)
  pri : w.cell? ⟨g, o + 24, none⟩ = some (.int .u16 (i.pri : Int))
  wei : w.cell? ⟨g, o + 25, none⟩ = some (.int .u16 (i.wei : Int))
  port : w.cell? ⟨g, o + 26, none⟩ = some (.int .u16 (i.port : Int))
  tgt : w.cell? ⟨g, o + 27, none⟩ = some (.string (bstr i.tgt))
  all : (loadVar 79 ⟨g, o, none⟩).run Tryz.prog w = .ok (.agg (encI i).toArray) w
theorem fldI {w : World} {g o : Nat} {i : Ins} (hr : w.rangeAt g o (encI i)) : FldI w g o i := by
  have h2 : w.rangeAt g (o + 20) (tailI i) := by
    have := range_backI (show w.rangeAt g o (bcells i.pub ++ tailI i) from hr)
    rwa [bcells_length, i.hp] at this
  exact ⟨load23 hr, h2 0 _ rfl, h2 1 _ rfl, h2 2 _ rfl, h2 3 _ rfl, h2 4 _ rfl, h2 5 _ rfl, h2 6 _ rfl, h2 7 _ rfl, load28 hr⟩
theorem fldB {w : World} {g : Nat} {t : TypeId} {i : Ins} (h : w.heap[g]? = some (.cells (encI i).toArray t (0, 0))) : FldI w g 0 i := fldI (row_range h)
/-- An instance lies there, also behind what does not touch the block. -/
theorem fld_below {w W : World} {g B : Nat} {t : TypeId} {i : Ins} (h : w.heap[g]? = some (.cells (encI i).toArray t (0, 0))) (hb : Below B w W) (hg : g < B) : FldI W g 0 i := fldB ((hb.block g hg).trans h)
theorem eq23 (xs ys : List UInt8) (hx : xs.length = 20) (hy : ys.length = 20) (W : World) (k : Nat) : (Op.equalIn (k + 2) 24 (.agg (bcells xs).toArray) (.agg (bcells ys).toArray)).run Tryz.prog W = .ok (xs == ys) W :=
  run_equalIn_bytes W k 24 5 20 Tryz.underlying24 Tryz.underlying5 (fun w => by
    obtain ⟨i0, hi, hz0, hz1, hz2⟩ := info_parts info5
    simp [sizeOf, typeInfo, hi, hz1]) xs ys hx hy
/-- Two instances are the same. -/
def eqI (x y : Ins) : Bool := x.pub == y.pub && (x.seq == y.seq && (x.born == y.born && (x.life == y.life && (x.gone == y.gone && (x.pri == y.pri && (x.wei == y.wei && (x.port == y.port && x.tgt == y.tgt)))))))
theorem eqI_iff (x y : Ins) : eqI x y = true ↔ x = y := by
  unfold eqI
  simp only [Bool.and_eq_true, beq_iff_eq]
  constructor
  · rintro ⟨a, b, c, d, e, f, g, h, i⟩
    exact Ins.same a b c d e f g h i
  · rintro rfl
    exact ⟨rfl, rfl, rfl, rfl, rfl, rfl, rfl, rfl, rfl⟩
theorem eqI_self (x : Ins) : eqI x x = true := (eqI_iff x x).2 rfl
theorem beq_intI (a b : Nat) : ((a : Int) == (b : Int)) = (a == b) := by
  rw [Bool.eq_iff_iff]
  simp only [beq_iff_eq]
  omega
end Go.Proofs.YtehgpnnfjgmiiaaGreat
end
section
namespace Go.Proofs.YtehgpnnfjgmiiaaGreat
open Go.Shelf Go.RowKit Go.Lib Go.Great
set_option maxRecDepth 100000
set_option maxHeartbeats 1000000
theorem encI_ext1 (z : Ins) : (encI z).toArray.extract 0 20 = (bcells z.pub).toArray := by
  have hl : (bcells z.pub).length = 20 := by rw [bcells_length]; exact z.hp
  unfold encI
  rw [List.extract_toArray, List.extract_eq_take_drop, List.drop_zero, List.take_append_of_le_length (by omega), List.take_of_length_le (by omega)]
theorem encI_get (z : Ins) (k : Nat) : (encI z).toArray[20 + k]? = (tailI z)[k]? := by
  have hl : (bcells z.pub).length = 20 := by rw [bcells_length]; exact z.hp
  unfold encI
  rw [List.getElem?_toArray, List.getElem?_append_right (by omega), hl, Nat.add_sub_cancel_left]
theorem part_cell {t : TypeId} (ht : ∀ W, (isAgg t).run Tryz.prog W = .ok false W) (z : Ins) (k : Nat) (v : Value) (hv : (tailI z)[k]? = some v) (W : World) : (part t (encI z).toArray (20 + k)).run Tryz.prog W = .ok v W := by
  have h := (encI_get z k).trans hv
  unfold part
  simp only [Sem.run_bind, ht, Result.andThen_ok, Bool.false_eq_true, if_false]
  simp [h]
theorem eqIns (x y : Ins) (W : World) : (Op.equalIn 10000 79 (.agg (encI x).toArray) (.agg (encI y).toArray)).run Tryz.prog W = .ok (eqI x y) W := by
  rw [run_equalIn_struct W 9999 79 _ _ (by kernel_rfl) (by kernel_rfl)]
  rw [show (Tryz.prog.fieldsOf 79).toList = [⟨"Publisher", 24, 0, false, "", "", 0⟩, ⟨"Seq", 49, 20, false, "", "", 24⟩, ⟨"Born", 49, 21, false, "", "", 32⟩, ⟨"Life", 22, 22, false, "", "", 40⟩, ⟨"Gone", 4, 23, false, "", "", 44⟩, ⟨"Priority", 59, 24, false, "", "", 46⟩, ⟨"Weight", 59, 25, false, "", "", 48⟩, ⟨"Port", 59, 26, false, "", "", 50⟩, ⟨"Target", 9, 27, false, "", "", 56⟩] from by kernel_rfl]
  have i1 : ∀ W, (isAgg 24).run Tryz.prog W = .ok true W := fun W => by kernel_rfl
  have s1 : ∀ W, (Go.sizeOf 24).run Tryz.prog W = .ok 20 W := fun W => by kernel_rfl
  have q0 : ∀ (z : Ins) W, (part 24 (encI z).toArray 0).run Tryz.prog W = .ok (.agg (bcells z.pub).toArray) W := fun z W => by
    unfold part
    simp only [Sem.run_bind, i1, s1, Result.andThen_ok, if_true, Sem.run_pure]
    rw [Nat.zero_add, encI_ext1]
  have q1 := fun (z : Ins) W => part_cell (t := 49) (fun W => by kernel_rfl) z 0 _ rfl W
  have q2 := fun (z : Ins) W => part_cell (t := 49) (fun W => by kernel_rfl) z 1 _ rfl W
  have q3 := fun (z : Ins) W => part_cell (t := 22) (fun W => by kernel_rfl) z 2 _ rfl W
  have q4 := fun (z : Ins) W => part_cell (t := 4) (fun W => by kernel_rfl) z 3 _ rfl W
  have q5 := fun (z : Ins) W => part_cell (t := 59) (fun W => by kernel_rfl) z 4 _ rfl W
  have q6 := fun (z : Ins) W => part_cell (t := 59) (fun W => by kernel_rfl) z 5 _ rfl W
  have q7 := fun (z : Ins) W => part_cell (t := 59) (fun W => by kernel_rfl) z 6 _ rfl W
  have q8 := fun (z : Ins) W => part_cell (t := 9) (fun W => by kernel_rfl) z 7 _ rfl W
  simp only [Nat.reduceAdd] at q1 q2 q3 q4 q5 q6 q7 q8
  have e0 : ∀ W, (Op.equalIn 9999 24 (.agg (bcells x.pub).toArray) (.agg (bcells y.pub).toArray)).run Tryz.prog W = .ok (x.pub == y.pub) W := fun W => eq23 x.pub y.pub x.hp y.hp W 9997
  have e1 := fun a b W => run_equalIn_int (P := Tryz.prog) W 9998 49 .u64 .u64 a b (by kernel_rfl)
  have e2 := fun a b W => run_equalIn_int (P := Tryz.prog) W 9998 22 .u32 .u32 a b (by kernel_rfl)
  have e3 := fun a b W => run_equalIn_bool (P := Tryz.prog) W 9998 4 a b (by kernel_rfl)
  have e4 := fun a b W => run_equalIn_int (P := Tryz.prog) W 9998 59 .u16 .u16 a b (by kernel_rfl)
  have e5 := fun a b W => run_equalIn_string (P := Tryz.prog) W 9998 9 a b (by kernel_rfl)
  have hb : ∀ l : List UInt8, (bstr l).toList = l := fun l => by rw [ByteArray.toList_eq]; simp [bstr]
  simp only [Op.eqFields, Sem.run_bind, Sem.run_ite, q0, q1, q2, q3, q4, q5, q6, q7, q8, e0, e1, e2, e3, e4, e5, Result.andThen_ok, beq_intI, hb]
  unfold eqI
  cases x.pub == y.pub <;> cases x.seq == y.seq <;> cases x.born == y.born <;> cases x.life == y.life <;> cases x.gone == y.gone <;> cases x.pri == y.pri <;> cases x.wei == y.wei <;> cases x.port == y.port <;> cases x.tgt == y.tgt <;> rfl
end Go.Proofs.YtehgpnnfjgmiiaaGreat
end
section
namespace Go.Proofs.YtehgpnnfjgmiiaaGreat
set_option maxRecDepth 100000
open Go.RowKit
set_option linter.unusedVariables false

/-- A function's one result that lies in memory. -/
theorem results_cell1 {fn : Func} {p : Tmp} {ty : TypeId} (h : fn.results = #[.cell p ty]) {P : Program} (tmps : Array Value) (w : World) (b o : Nat) (cs : List Value) (d : TypeDesc) (hp : tmps.getD p undef = .pointer (some ⟨b, o, none⟩))
    (hc : w.rangeAt b o cs) (hu : P.underlying ty = some d) (hd : d.isRow = true) (hi : (P.info? ty).map (·.size) = some cs.length) : (results fn tmps).run P w = .ok (.agg cs.toArray) w := by
  have h1 := run_loadVar_mid (P := P) w b o ty cs d hc hu hd hi
  have hp' : tmps[p]?.getD undef = .pointer (some ⟨b, o, none⟩) := by simpa using hp
  simp [results, h, hp', h1, asAddr]
end Go.Proofs.YtehgpnnfjgmiiaaGreat
end
section
namespace Go.Proofs.YtehgpnnfjgmiiaaGreat
set_option maxRecDepth 100000
set_option maxHeartbeats 1000000
open Go.RowKit

theorem heap2 (w : World) (a b : Obj) : ((w.alloc a).alloc b).heap[w.heap.size]? = some a ∧ ((w.alloc a).alloc b).heap[w.heap.size + 1]? = some b ∧ Below w.heap.size w ((w.alloc a).alloc b) := by
  refine ⟨?_, ?_, (((Below.refl _ w).alloc (Nat.le_refl _) _).alloc (by simp) _)⟩
  all_goals
    show ((w.heap.push a).push b)[_]? = _
    simp only [Array.getElem?_push, Array.size_push]
    repeat (first | rw [if_pos trivial] | rw [if_pos (by omega)] | rw [if_neg (by omega)])
end Go.Proofs.YtehgpnnfjgmiiaaGreat
end
section
namespace Go.Proofs.YtehgpnnfjgmiiaaGreat
set_option maxRecDepth 100000
open Go.RowKit

/-- A world that keeps what lay below B in W0. -/
structure Kept (B : Nat) (W0 : World) where
  val : World
  property : Below B W0 val
instance (B : Nat) (W0 : World) : Nonempty (Kept B W0) := ⟨⟨W0, Below.refl _ _⟩⟩
theorem wp_region_kept {P : Program} {id : Nat} {Q : Exit → Act → World → Prop} {a : Act} {w : World} {l : List Oper} (B : Nat) (W0 : World) (hW : Below B W0 w) (hm : P.follows .mixedOrders = true) (hB : Region.lexB .any l.toArray = true)
    (h : wpQuiet P l.toArray (fun w' => ∃ n : Kept B W0, w' = n.val) (fun a' => ∀ w', (∃ n : Kept B W0, w' = n.val) → Q .normal a' w') l a) : (Code.region id l.toArray true).wp P Q a w :=
  wp_region_quiet (C := fun w' => ∃ n : Kept B W0, w' = n.val) hm hB ⟨⟨{ w with drawn := w.drawn + 1 }, ⟨hW.os, hW.tape, hW.output, hW.size, hW.block⟩⟩, rfl⟩ (by simpa using h)
theorem kept_of {P : Program} {f : FuncId} {args : Array Value} {v : Value} {B : Nat} {W0 : World} (hB : B ≤ W0.heap.size) (h : ∀ W, Calls P f args W fun e w' => e = .returned v ∧ Below W.heap.size W w') (n : Kept B W0) :
    Calls P f args n.val fun e w' => e = .returned v ∧ ∃ m : Kept B W0, w' = m.val :=
  (h n.val).mono (by rintro e w' ⟨rfl, hb⟩; exact ⟨rfl, ⟨w', n.property.trans (hb.mono (Nat.le_trans hB n.property.size))⟩, rfl⟩)
theorem quiet_loadV {P : Program} {B : Nat} {W0 : World} {o : Oper} {a : Act} {K : Act → Prop} (ty : TypeId) (x : Operand) (ho : o.op = .load ty x) (p : Addr) (hx : a.eval x = .pointer (some p)) (v : Value) (hl : ∀ n : Kept B W0, (loadVar ty p).run P n.val = .ok v n.val)
    (hk : K (a.put o.dst v)) : o.quiet P a (fun w' => ∃ n : Kept B W0, w' = n.val) K :=
  ⟨v, fun w ⟨n, hn⟩ => by
    subst hn
    unfold Oper.quietAt execOp
    simp only [ho, hx, Instr.loadAt, Instr.sureAddr, Sem.run_bind, Sem.run_pure, Result.andThen_ok, hl n]
    exact ⟨rfl, rfl⟩, hk⟩

end Go.Proofs.YtehgpnnfjgmiiaaGreat
end
section
namespace Go.Proofs.YtehgpnnfjgmiiaaGreat
set_option maxRecDepth 100000
set_option maxHeartbeats 200000
open Go.RowKit Go.Great

theorem wpList_buildV {P : Program} {ops : Array Oper} {rest : List Oper} {o : Oper} {a : Act} {w : World} {Q : Exit → Act → World → Prop} (hg : o.guard = none) (t : TypeId) (parts : Array (Nat × Operand)) (ho : o.op = .build t parts) (vs : Array (Nat × Value))
    (hv : (parts.map fun (i, x) => (i, a.eval x)) = vs) (v : Value) (hr : (Instr.build t vs).run P w = .ok v w) (h : wpList P ops Q rest (a.put o.dst v) w) : wpList P ops Q (o :: rest) a w :=
  wpList_plain hg fun _ hK => by
    unfold Oper.wp execOp
    simp only [ho, hv, Sem.run_bind, hr, Result.andThen_ok]
    exact hK _ _ h

end Go.Proofs.YtehgpnnfjgmiiaaGreat
end
section
namespace Go.Proofs.YtehgpnnfjgmiiaaGreat
set_option maxRecDepth 100000
open Go.RowKit Go.Lib

section
variable {w w' : World}
end

/-- append onto a row of the call's own, from whatever source; elements of k cells. -/
theorem run_append_srcK {P : Program} (w : World) (base : Nat) (t tx ty e : TypeId) (i : TypeInfo) (z : Value) (k bytes : Nat) (ht : P.underlying t = some (.slice e)) (hi : P.info? e = some i) (hz : i.zero = some z)
    (hsize : i.size = k) (hby : i.bytes = bytes) (hzs : z.cells.size = k)
    (v : Value) (n : Nat) (xs : List Value) (hown : w.ownsRow base e k v n xs)
    (x : Value) (m : Nat) (news : List Value) (hs : Src P k tx x m news w)
    (h63 : n + m ≤ maxLen) (hbytes : (n + m) * bytes ≤ 140737488355328) (hbase : base ≤ w.heap.size) :
    ∃ v' w', (Builtin.append_ #[t, tx] ty #[v, x]).run P w = .ok v' w' ∧ w'.ownsRow base e k v' (n + m) (xs ++ news) ∧ w.grownBy w' v.ownBlock ∧
      (v'.ownBlock = v.ownBlock ∨ v'.ownBlock = some w.heap.size) := by
  subst hby
  have hl : news.length = m * k := hs.newsLen
  have hxl : xs.length = n * k := hown.1
  have hlen : (xs ++ news).length = (n + m) * k := by rw [List.length_append, hxl, hl, Nat.add_mul]
  have hs' : Src P i.size tx x m news w := by rw [hsize]; exact hs
  have grown : ∀ (old : Nat), old < n + m → ∀ (row : Option Nat),
      (w.drew.alloc (.cells ((xs ++ news).toArray ++ Builtin.zeroCells z.cells (grownCap w (n + m) old e - (n + m))) e)).ownsRow base e k
        (.slice (some ⟨w.heap.size, 0, none⟩) (n + m) (grownCap w (n + m) old e)) (n + m) (xs ++ news) ∧
      w.grownBy (w.drew.alloc (.cells ((xs ++ news).toArray ++ Builtin.zeroCells z.cells (grownCap w (n + m) old e - (n + m))) e)) row := by
    intro old ho row
    have hge := grownCap_ge w (n + m) old e
    have hcm : grownCap w (n + m) old e ≤ maxLen := grownCap_le_maxLen w (n + m) old e h63
    refine ⟨⟨hlen, .inr ⟨w.heap.size, _, _, rfl, hbase, heap_alloc_new w.drew _, hge, hcm, ?_, ?_⟩⟩, ⟨rfl, rfl, rfl, by simp, fun k hk _ => Below.heap_alloc w.drew _ k hk⟩⟩
    · simp only [Array.size_append, List.size_toArray, size_zeroCells, hzs, hlen, ← Nat.add_mul]
      congr 1
      omega
    · simp only [Array.toList_append]
      rw [← hlen]
      exact List.take_left
  rcases hown.2 with ⟨rfl, rfl⟩ | ⟨g, cap, cur, rfl, hbg, hg, hnc, hcm, hcs, htake⟩
  · have hx : xs = [] := List.eq_nil_of_length_eq_zero (by simpa using hxl)
    subst hx
    by_cases hm : m = 0
    · subst hm
      have hn : news = [] := List.eq_nil_of_length_eq_zero (by simpa using hl)
      subst hn
      refine ⟨.slice none 0 0, w, ?_, World.ownsRow_nil w base e k, ⟨rfl, rfl, rfl, Nat.le_refl _, fun _ _ _ => rfl⟩, Or.inl rfl⟩
      have hcl := hs'.cells
      rcases hs.kind with ⟨e', hk⟩ | hk <;> simp [Builtin.append_, run_underlying ht, run_underlying hk, sizeOf, typeInfo, hi, hs.len, hcl]
    · have hold : (Builtin.firstCells i.size 0 (.slice none 0 0)).run P w.drew = .ok ([] : List Value).toArray w.drew := run_firstCells_none w.drew i.size 0 0 0
      have hr := run_append_grow_src (P := P) w t tx ty e i z ht hi hz none 0 0 [] hold x m news hs' (by omega) (by simp only [maxLen] at h63; omega) (growslice_fits (by omega) hbytes)
      have hgr := grown 0 (by omega) (Value.ownBlock (.slice none 0 0))
      exact ⟨_, _, hr, hgr.1, hgr.2, Or.inr rfl⟩
  · by_cases hroom : n + m ≤ cap
    · have hfit : n * i.size + news.length ≤ cur.size := by rw [hl, hcs, hsize, ← Nat.add_mul]; exact Nat.mul_le_mul_right _ hroom
      have hst := run_storeCells_at P g (n * i.size) e news 0 cur w hg (by simpa using hfit) hs.one
      have hr : (Builtin.append_ #[t, tx] ty #[.slice (some ⟨g, 0, none⟩) n cap, x]).run P w =
          .ok (.slice (some ⟨g, 0, none⟩) (n + m) cap) (w.setRow g (cur.toList.take (n * i.size) ++ news ++ cur.toList.drop (n * i.size + news.length)).toArray) := by
        simp only [Nat.add_zero] at hst
        rcases hs.kind with ⟨e', hk⟩ | hk <;> simp [Builtin.append_, run_underlying ht, run_underlying hk, sizeOf, typeInfo, hi, hs.len, hroom, hs'.cells, Addr.add_lit, hst]
      rw [hsize] at hr hfit
      refine ⟨_, _, hr, ⟨hlen, .inr ⟨g, cap, _, rfl, hbg, setRow_heap w g cur _ e _ hg, hroom, hcm, ?_, ?_⟩⟩, ⟨rfl, rfl, rfl, by simp, fun k _ hk => setRow_other w g k _ (fun e => hk (by simp [Value.ownBlock, e]))⟩, Or.inl rfl⟩
      · simp only [List.size_toArray, List.length_append, List.length_take, List.length_drop, Array.length_toList]
        omega
      · rw [htake, ← hlen]
        exact List.take_left
    · have holds : (Builtin.firstCells i.size n (.slice (some ⟨g, 0, none⟩) n cap)).run P w.drew = .ok xs.toArray w.drew :=
        run_firstCells_some w.drew i.size n ⟨g, 0, none⟩ n cap xs (by rw [hsize]; exact hown.1) (hown.cells (g := g) rfl)
      have hr := run_append_grow_src (P := P) w t tx ty e i z ht hi hz (some ⟨g, 0, none⟩) n cap xs holds x m news hs' (by omega) (by simp only [maxLen] at h63; omega) (growslice_fits (by omega) hbytes)
      have hgr := grown cap (by omega) (Value.ownBlock (.slice (some ⟨g, 0, none⟩) n cap))
      exact ⟨_, _, hr, hgr.1, hgr.2, Or.inr rfl⟩
end Go.Proofs.YtehgpnnfjgmiiaaGreat
end
section
namespace Go.Proofs.YtehgpnnfjgmiiaaGreat
set_option maxRecDepth 100000
set_option maxHeartbeats 1000000
open Go.RowKit Go.Lib Go.Great

theorem kept_ofS {P : Program} {f : FuncId} {args : Array Value} {v : Value} {B : Nat} {W0 : World} (hB : B ≤ W0.heap.size) (h : ∀ n : Kept B W0, Calls P f args n.val fun e w' => e = .returned v ∧ Below n.val.heap.size n.val w') (n : Kept B W0) :
    Calls P f args n.val fun e w' => e = .returned v ∧ ∃ m : Kept B W0, w' = m.val :=
  (h n).mono (by rintro e w' ⟨rfl, hb⟩; exact ⟨rfl, ⟨w', n.property.trans (hb.mono (Nat.le_trans hB n.property.size))⟩, rfl⟩)
end Go.Proofs.YtehgpnnfjgmiiaaGreat
end
section
namespace Go.Proofs.YtehgpnnfjgmiiaaGreat
set_option maxRecDepth 100000
set_option maxHeartbeats 1000000
open Go.RowKit Go.Lib Go.Great

theorem grown_of_bel {w w' : World} (h : Below w.heap.size w w') (row : Option Nat) : w.grownBy w' row := ⟨h.os, h.tape, h.output, h.size, fun k hk _ => h.block k hk⟩
theorem bcells_app (L M : List UInt8) : bcells (L ++ M) = bcells L ++ bcells M := by simp [bcells]
theorem info5b : ∃ i0, Tryz.prog.info? 5 = some i0 ∧ i0.zero = some (.int .u8 0) ∧ i0.size = 1 ∧ i0.bytes = 1 := by
  have h : (Tryz.prog.info? 5).map (fun i => (i.zero, i.size, i.bytes)) = some (some (.int .u8 0), 1, 1) := by kernel_rfl
  cases hi : Tryz.prog.info? 5 with
  | none => rw [hi] at h; cases h
  | some i =>
    rw [hi] at h
    simp only [Option.map_some, Option.some.injEq, Prod.mk.injEq] at h
    exact ⟨i, rfl, h.1, h.2.1, h.2.2⟩
theorem undBs : Tryz.prog.underlying 31 = some (.slice 5) := by kernel_rfl
end Go.Proofs.YtehgpnnfjgmiiaaGreat
end
section
namespace Go.Proofs.YtehgpnnfjgmiiaaGreat
set_option maxRecDepth 100000
open Go.RowKit

theorem wpList_loadV {P : Program} {ops : Array Oper} {rest : List Oper} {op : Oper} {a : Act} {w : World} {Q : Exit → Act → World → Prop} (hgd : op.guard = none) (ty : TypeId) (x : Operand) (ho : op.op = .load ty x) (p : Addr) (hx : a.eval x = .pointer (some p)) (v : Value) (hl : (loadVar ty p).run P w = .ok v w)
    (h : wpList P ops Q rest (a.put op.dst v) w) : wpList P ops Q (op :: rest) a w :=
  wpList_plain hgd fun _ hK => wp_loadV ty x ho p hx v hl (hK _ _ h)
end Go.Proofs.YtehgpnnfjgmiiaaGreat
end
section
namespace Go.Proofs.YtehgpnnfjgmiiaaGreat
open Go.Shelf Go.RowKit Go.Lib Go.Sort Go.Great
set_option maxRecDepth 100000
set_option maxHeartbeats 1000000
theorem own_baseC {w : World} {base base' : Nat} {e : TypeId} {v : Value} {n size : Nat} {xs : List Value} (h : w.ownsRow base e size v n xs) (hb : base' ≤ base) : w.ownsRow base' e size v n xs := by
  refine ⟨h.1, ?_⟩
  rcases h.2 with hn | ⟨g, cap, cur, hv, hg, r⟩
  · exact .inl hn
  · exact .inr ⟨g, cap, cur, hv, by omega, r⟩
end Go.Proofs.YtehgpnnfjgmiiaaGreat
end
