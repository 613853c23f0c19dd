/- Instances as values; loads of their fields; equality of two. No condition. Equality of two instances, as the program has it. No condition. Instances and bytes that come in. No condition. Contract of the schedule of package sha. Conditions: a block has 64 bytes. Contract of Prefix of package ident. Conditions: an id has 20 bytes. Regions that draw their order and whose calls only make memory of their own: one walk, in every world that keeps what lay below a bound. No condition. The chapter's examples of package ident hold. No condition. -/
import Derived.Test.YtehgpnnfjgmiiaaGreatProg
import Derived.Test.YtehgpnnfjgmiiaaGreatXJLrc
import Derived.Deep.MidRow
import Derived.Shelf.Abstract
import Derived.Test.YtehgpnnfjgmiiaaGreatXJPWords
import Derived.RegionTactic
import Derived.RegionCalls
import Derived.WalkKit
import Derived.Deep.RegionHeld3
import Derived.Deep.QuietTactic
import Derived.BigQuiet
import Derived.Stop.BytesEq
import Derived.Deep.Slices
import Derived.Deep.Strs
import Derived.SizedLaws
import Derived.Deep.AppendSrc
import Derived.Laws.BytesString
import Derived.Laws.CopyOwn
import Derived.Deep.AppendLies
import Derived.Deep.Draws
import Derived.WalkSpells
import Derived.Test.YtehgpnnfjgmiiaaGreatRows
import Derived.WalkLawsBesides
import Derived.Lib.Hide
import Derived.Outline
import Derived.Laws.BitsAllLaws
import Derived.Laws.BitsLemmas
import Derived.Laws.Bits64
import Derived.LoopTactic
import Derived.Deep.DeepCutAuto
import Derived.Great.BuildSlice
import Derived.Lib.SlBytesConst
import Derived.Sort.Grow
import Derived.Lib.ConvBytes
section
namespace Go.Proofs.YtehgpnnfjgmiiaaGreat
open Go.Shelf Go.RowKit Go.Lib Go.Great
set_option maxRecDepth 100000
set_option maxHeartbeats 1000000
theorem bcells_oneI (xs : List UInt8) : ∀ v ∈ bcells xs, v.oneCell' = true := by
  intro v hv
  unfold bcells at hv
  obtain ⟨c, _, rfl⟩ := List.mem_map.1 hv
  rfl
/-- An instance whose numbers fit their types. -/
structure Ins where
  pub : List UInt8
  seq : Nat
  born : Nat
  life : Nat
  gone : Bool
  pri : Nat
  wei : Nat
  port : Nat
  tgt : List UInt8
  hp : pub.length = 20
  hs : seq < 18446744073709551616
  hb : born < 18446744073709551616
  hl : life < 4294967296
  h1 : pri < 65536
  h2 : wei < 65536
  h3 : port < 65536
theorem Ins.same {x y : Ins} (a : x.pub = y.pub) (b : x.seq = y.seq) (c : x.born = y.born) (d : x.life = y.life) (e : x.gone = y.gone) (f : x.pri = y.pri) (g : x.wei = y.wei) (h : x.port = y.port) (i : x.tgt = y.tgt) : x = y := by
  cases x
  cases y
  simp only at a b c d e f g h i
  subst a b c d e f g h i
  rfl
def zeroI : Ins := ⟨List.replicate 20 0, 0, 0, 0, false, 0, 0, 0, [], by simp, by omega, by omega, by omega, by omega, by omega, by omega⟩
instance : Inhabited Ins := ⟨zeroI⟩
/-- All its cells but the publisher's. -/
def tailI (i : Ins) : List Value := [.int .u64 (i.seq : Int), .int .u64 (i.born : Int), .int .u32 (i.life : Int), .bool i.gone, .int .u16 (i.pri : Int), .int .u16 (i.wei : Int), .int .u16 (i.port : Int), .string (bstr i.tgt)]
def encI (i : Ins) : List Value := bcells i.pub ++ tailI i
theorem encI_length (i : Ins) : (encI i).length = 28 := by unfold encI; rw [List.length_append, bcells_length, i.hp]; rfl
theorem encI_one (i : Ins) : ∀ v ∈ encI i, v.oneCell' = true := by
  intro v hv
  unfold encI at hv
  rcases List.mem_append.1 hv with h | h
  · exact bcells_oneI _ v h
  · simp only [tailI, List.mem_cons, List.not_mem_nil, or_false] at h
    rcases h with rfl | rfl | rfl | rfl | rfl | rfl | rfl | rfl <;> rfl
theorem range_frontI {w : World} {g o : Nat} {a b : List Value} (h : w.rangeAt g o (a ++ b)) : w.rangeAt g o a := fun j v hv => h j v (by rw [List.getElem?_append_left (List.getElem?_eq_some_iff.1 hv).1]; exact hv)
theorem range_backI {w : World} {g o : Nat} {a b : List Value} (h : w.rangeAt g o (a ++ b)) : w.rangeAt g (o + a.length) b := fun j v hv => by
  have := h (a.length + j) v (by rw [List.getElem?_append_right (by omega), Nat.add_sub_cancel_left]; exact hv)
  rwa [← Nat.add_assoc] at this
theorem size28i : (Tryz.prog.info? 79).map (·.size) = some 28 := by kernel_rfl
theorem size23i : (Tryz.prog.info? 24).map (·.size) = some 20 := by kernel_rfl
theorem load28 {w : World} {g o : Nat} {i : Ins} (hr : w.rangeAt g o (encI i)) : (loadVar 79 ⟨g, o, none⟩).run Tryz.prog w = .ok (.agg (encI i).toArray) w :=
  run_loadVar_mid w g o 79 (encI i) _ hr Tryz.underlying79 rfl (by rw [encI_length]; exact size28i)
theorem load23 {w : World} {g o : Nat} {i : Ins} (hr : w.rangeAt g o (encI i)) : (loadVar 24 ⟨g, o, none⟩).run Tryz.prog w = .ok (.agg (bcells i.pub).toArray) w :=
  run_loadVar_mid w g o 24 (bcells i.pub) _ (range_frontI hr) Tryz.underlying24 rfl (by rw [bcells_length, i.hp]; exact size23i)
/-- The fields of an instance at a place. -/
structure FldI (w : World) (g o : Nat) (i : Ins) : Prop where
  pub : (loadVar 24 ⟨g, o, none⟩).run Tryz.prog w = .ok (.agg (bcells i.pub).toArray) w
  seq : w.cell? ⟨g, o + 20, none⟩ = some (.int .u64 (i.seq : Int))
  born : w.cell? ⟨g, o + 21, none⟩ = some (.int .u64 (i.born : Int))
  life : w.cell? ⟨g, o + 22, none⟩ = some (.int .u32 (i.life : Int))
  gone : w.cell? ⟨g, o + 23, none⟩ = some (.bool i.gone)
  pri : w.cell? ⟨g, o + 24, none⟩ = some (.int .u16 (i.pri : Int))
  wei : w.cell? ⟨g, o + 25, none⟩ = some (.int .u16 (i.wei : Int))
  port : w.cell? ⟨g, o + 26, none⟩ = some (.int .u16 (i.port : Int))
  tgt : w.cell? ⟨g, o + 27, none⟩ = some (.string (bstr i.tgt))
  all : (loadVar 79 ⟨g, o, none⟩).run Tryz.prog w = .ok (.agg (encI i).toArray) w
theorem fldI {w : World} {g o : Nat} {i : Ins} (hr : w.rangeAt g o (encI i)) : FldI w g o i := by
  have h2 : w.rangeAt g (o + 20) (tailI i) := by
    have := range_backI (show w.rangeAt g o (bcells i.pub ++ tailI i) from hr)
    rwa [bcells_length, i.hp] at this
  exact ⟨load23 hr, h2 0 _ rfl, h2 1 _ rfl, h2 2 _ rfl, h2 3 _ rfl, h2 4 _ rfl, h2 5 _ rfl, h2 6 _ rfl, h2 7 _ rfl, load28 hr⟩
theorem fldB {w : World} {g : Nat} {t : TypeId} {i : Ins} (h : w.heap[g]? = some (.cells (encI i).toArray t (0, 0))) : FldI w g 0 i := fldI (row_range h)
/-- An instance lies there, also behind what does not touch the block. -/
theorem fld_below {w W : World} {g B : Nat} {t : TypeId} {i : Ins} (h : w.heap[g]? = some (.cells (encI i).toArray t (0, 0))) (hb : Below B w W) (hg : g < B) : FldI W g 0 i := fldB ((hb.block g hg).trans h)
theorem eq23 (xs ys : List UInt8) (hx : xs.length = 20) (hy : ys.length = 20) (W : World) (k : Nat) : (Op.equalIn (k + 2) 24 (.agg (bcells xs).toArray) (.agg (bcells ys).toArray)).run Tryz.prog W = .ok (xs == ys) W :=
  run_equalIn_bytes W k 24 5 20 Tryz.underlying24 Tryz.underlying5 (fun w => by
    obtain ⟨i0, hi, hz0, hz1, hz2⟩ := info_parts info5
    simp [sizeOf, typeInfo, hi, hz1]) xs ys hx hy
/-- Two instances are the same. -/
def eqI (x y : Ins) : Bool := x.pub == y.pub && (x.seq == y.seq && (x.born == y.born && (x.life == y.life && (x.gone == y.gone && (x.pri == y.pri && (x.wei == y.wei && (x.port == y.port && x.tgt == y.tgt)))))))
theorem eqI_iff (x y : Ins) : eqI x y = true ↔ x = y := by
  unfold eqI
  simp only [Bool.and_eq_true, beq_iff_eq]
  constructor
  · rintro ⟨a, b, c, d, e, f, g, h, i⟩
    exact Ins.same a b c d e f g h i
  · rintro rfl
    exact ⟨rfl, rfl, rfl, rfl, rfl, rfl, rfl, rfl, rfl⟩
theorem eqI_self (x : Ins) : eqI x x = true := (eqI_iff x x).2 rfl
theorem beq_intI (a b : Nat) : ((a : Int) == (b : Int)) = (a == b) := by
  rw [Bool.eq_iff_iff]
  simp only [beq_iff_eq]
  omega
end Go.Proofs.YtehgpnnfjgmiiaaGreat
end
section
namespace Go.Proofs.YtehgpnnfjgmiiaaGreat
open Go.Shelf Go.RowKit Go.Lib Go.Great
set_option maxRecDepth 100000
set_option maxHeartbeats 1000000
theorem encI_ext1 (z : Ins) : (encI z).toArray.extract 0 20 = (bcells z.pub).toArray := by
  have hl : (bcells z.pub).length = 20 := by rw [bcells_length]; exact z.hp
  unfold encI
  rw [List.extract_toArray, List.extract_eq_take_drop, List.drop_zero, List.take_append_of_le_length (by omega), List.take_of_length_le (by omega)]
theorem encI_get (z : Ins) (k : Nat) : (encI z).toArray[20 + k]? = (tailI z)[k]? := by
  have hl : (bcells z.pub).length = 20 := by rw [bcells_length]; exact z.hp
  unfold encI
  rw [List.getElem?_toArray, List.getElem?_append_right (by omega), hl, Nat.add_sub_cancel_left]
theorem part_cell {t : TypeId} (ht : ∀ W, (isAgg t).run Tryz.prog W = .ok false W) (z : Ins) (k : Nat) (v : Value) (hv : (tailI z)[k]? = some v) (W : World) : (part t (encI z).toArray (20 + k)).run Tryz.prog W = .ok v W := by
  have h := (encI_get z k).trans hv
  unfold part
  simp only [Sem.run_bind, ht, Result.andThen_ok, Bool.false_eq_true, if_false]
  simp [h]
theorem eqIns (x y : Ins) (W : World) : (Op.equalIn 10000 79 (.agg (encI x).toArray) (.agg (encI y).toArray)).run Tryz.prog W = .ok (eqI x y) W := by
  rw [run_equalIn_struct W 9999 79 _ _ (by kernel_rfl) (by kernel_rfl)]
  rw [show (Tryz.prog.fieldsOf 79).toList = [⟨"Publisher", 24, 0, false, "", "", 0⟩, ⟨"Seq", 49, 20, false, "", "", 24⟩, ⟨"Born", 49, 21, false, "", "", 32⟩, ⟨"Life", 22, 22, false, "", "", 40⟩, ⟨"Gone", 4, 23, false, "", "", 44⟩, ⟨"Priority", 59, 24, false, "", "", 46⟩, ⟨"Weight", 59, 25, false, "", "", 48⟩, ⟨"Port", 59, 26, false, "", "", 50⟩, ⟨"Target", 9, 27, false, "", "", 56⟩] from by kernel_rfl]
  have i1 : ∀ W, (isAgg 24).run Tryz.prog W = .ok true W := fun W => by kernel_rfl
  have s1 : ∀ W, (Go.sizeOf 24).run Tryz.prog W = .ok 20 W := fun W => by kernel_rfl
  have q0 : ∀ (z : Ins) W, (part 24 (encI z).toArray 0).run Tryz.prog W = .ok (.agg (bcells z.pub).toArray) W := fun z W => by
    unfold part
    simp only [Sem.run_bind, i1, s1, Result.andThen_ok, if_true, Sem.run_pure]
    rw [Nat.zero_add, encI_ext1]
  have q1 := fun (z : Ins) W => part_cell (t := 49) (fun W => by kernel_rfl) z 0 _ rfl W
  have q2 := fun (z : Ins) W => part_cell (t := 49) (fun W => by kernel_rfl) z 1 _ rfl W
  have q3 := fun (z : Ins) W => part_cell (t := 22) (fun W => by kernel_rfl) z 2 _ rfl W
  have q4 := fun (z : Ins) W => part_cell (t := 4) (fun W => by kernel_rfl) z 3 _ rfl W
  have q5 := fun (z : Ins) W => part_cell (t := 59) (fun W => by kernel_rfl) z 4 _ rfl W
  have q6 := fun (z : Ins) W => part_cell (t := 59) (fun W => by kernel_rfl) z 5 _ rfl W
  have q7 := fun (z : Ins) W => part_cell (t := 59) (fun W => by kernel_rfl) z 6 _ rfl W
  have q8 := fun (z : Ins) W => part_cell (t := 9) (fun W => by kernel_rfl) z 7 _ rfl W
  simp only [Nat.reduceAdd] at q1 q2 q3 q4 q5 q6 q7 q8
  have e0 : ∀ W, (Op.equalIn 9999 24 (.agg (bcells x.pub).toArray) (.agg (bcells y.pub).toArray)).run Tryz.prog W = .ok (x.pub == y.pub) W := fun W => eq23 x.pub y.pub x.hp y.hp W 9997
  have e1 := fun a b W => run_equalIn_int (P := Tryz.prog) W 9998 49 .u64 .u64 a b (by kernel_rfl)
  have e2 := fun a b W => run_equalIn_int (P := Tryz.prog) W 9998 22 .u32 .u32 a b (by kernel_rfl)
  have e3 := fun a b W => run_equalIn_bool (P := Tryz.prog) W 9998 4 a b (by kernel_rfl)
  have e4 := fun a b W => run_equalIn_int (P := Tryz.prog) W 9998 59 .u16 .u16 a b (by kernel_rfl)
  have e5 := fun a b W => run_equalIn_string (P := Tryz.prog) W 9998 9 a b (by kernel_rfl)
  have hb : ∀ l : List UInt8, (bstr l).toList = l := fun l => by rw [ByteArray.toList_eq]; simp [bstr]
  simp only [Op.eqFields, Sem.run_bind, Sem.run_ite, q0, q1, q2, q3, q4, q5, q6, q7, q8, e0, e1, e2, e3, e4, e5, Result.andThen_ok, beq_intI, hb]
  unfold eqI
  cases x.pub == y.pub <;> cases x.seq == y.seq <;> cases x.born == y.born <;> cases x.life == y.life <;> cases x.gone == y.gone <;> cases x.pri == y.pri <;> cases x.wei == y.wei <;> cases x.port == y.port <;> cases x.tgt == y.tgt <;> rfl
end Go.Proofs.YtehgpnnfjgmiiaaGreat
end
section
namespace Go.Proofs.YtehgpnnfjgmiiaaGreat
set_option maxRecDepth 100000
open Go.ChangeShapes Go.WideShapes Go.ChangeAt Go.RowKit Go.Deep
theorem wf_u8 {n : Int} (h : (Lit.int .u8 n).wf = true) : 0 ≤ n ∧ n ≤ 255 := by
  simp [Lit.wf, IntKind.min, IntKind.max, IntKind.bits, IntKind.signed] at h
  omega
theorem wf_u64 {n : Int} (h : (Lit.int .u64 n).wf = true) : 0 ≤ n ∧ n < 18446744073709551616 := by
  simp [Lit.wf, IntKind.min, IntKind.max, IntKind.bits, IntKind.signed] at h
  omega
theorem wf_u32 {n : Int} (h : (Lit.int .u32 n).wf = true) : 0 ≤ n ∧ n < 4294967296 := by
  simp [Lit.wf, IntKind.min, IntKind.max, IntKind.bits, IntKind.signed] at h
  omega
theorem wf_u16 {n : Int} (h : (Lit.int .u16 n).wf = true) : 0 ≤ n ∧ n < 65536 := by
  simp [Lit.wf, IntKind.min, IntKind.max, IntKind.bits, IntKind.signed] at h
  omega
section
variable {H : Type} {enc : TypeId × Value → H} {w : World} {base : Nat} {spare : Nat → Bool} {held : Bool}
theorem cells_bytes {fuel : Nat} {cs : List Value} {x : DataW H × List MemPlace} (h : DataW.trod enc Tryz.prog w base spare held fuel 24 cs = some x) : ∃ xs : List UInt8, xs.length = 20 ∧ cs = bcells xs := by
  have hu : Tryz.prog.underlying 24 = some (.array 20 5) := by kernel_rfl
  have hc5 : Tryz.prog.cellsOf 5 = 1 := by kernel_rfl
  have hc26 : Tryz.prog.cellsOf 24 = 20 := by kernel_rfl
  obtain ⟨ys, m, _, _, hl, hy, hi⟩ := DataW.trod_array hu h
  rw [hc26] at hl
  have hcell : ∀ i (hi20 : i < cs.length), ∃ n : Int, cs[i] = .int .u8 n ∧ 0 ≤ n ∧ n ≤ 255 := by
    intro i hi20
    have h1 := hi i (by omega)
    rw [hc5, Nat.mul_one] at h1
    rw [List.getElem?_eq_getElem (by omega)] at h1
    obtain ⟨n, he, _, hw⟩ := DataW.trod_int Tryz.underlying5 h1
    refine ⟨n, ?_, wf_u8 hw⟩
    rw [List.drop_eq_getElem_cons hi20, List.take_succ_cons, List.take_zero] at he
    injection he
  refine ⟨cs.map fun v => UInt8.ofNat (RowKit.intOf v).toNat, by simpa using hl, ?_⟩
  apply List.ext_getElem
  · simp [bcells]
  · intro i h1 h2
    obtain ⟨n, e, n0, n1⟩ := hcell i h1
    have e2 : (bcells (cs.map fun v => UInt8.ofNat (RowKit.intOf v).toNat))[i]'h2 = Value.int .u8 (((UInt8.ofNat (RowKit.intOf cs[i]).toNat).toNat : Nat) : Int) := by simp [bcells]
    rw [e2, e]
    have e3 : (UInt8.ofNat (RowKit.intOf (Value.int .u8 n)).toNat).toNat = n.toNat := by
      show (UInt8.ofNat n.toNat).toNat = n.toNat
      rw [UInt8.toNat_ofNat']
      omega
    rw [e3, Int.toNat_of_nonneg n0]
theorem one_cell {cs : List Value} {k : Nat} {v : Value} (h : (cs.drop k).take 1 = [v]) : cs[k]? = some v := by
  cases hd : cs.drop k with
  | nil => rw [hd] at h; simp at h
  | cons a r =>
    rw [hd] at h
    simp only [List.take_succ_cons, List.take_zero, List.cons.injEq, and_true] at h
    have := List.getElem?_drop (xs := cs) (i := k) (j := 0)
    rw [hd] at this
    simp only [List.getElem?_cons_zero, Nat.add_zero] at this
    rw [← this, h]
theorem cells_ins {fuel : Nat} {cs : List Value} {x : DataW H × List MemPlace} (h : DataW.trod enc Tryz.prog w base spare held fuel 79 cs = some x) : ∃ i : Ins, cs = encI i ∧ ∃ parts, x.1 = .agg parts ∧ parts[8]? = some (.lit (.string i.tgt)) := by
  have hu : Tryz.prog.underlying 79 = some (.struct #[⟨"Publisher", 24, 0, false, "", "", 0⟩, ⟨"Seq", 49, 20, false, "", "", 24⟩, ⟨"Born", 49, 21, false, "", "", 32⟩, ⟨"Life", 22, 22, false, "", "", 40⟩, ⟨"Gone", 4, 23, false, "", "", 44⟩, ⟨"Priority", 59, 24, false, "", "", 46⟩, ⟨"Weight", 59, 25, false, "", "", 48⟩, ⟨"Port", 59, 26, false, "", "", 50⟩, ⟨"Target", 9, 27, false, "", "", 56⟩]) := by kernel_rfl
  have c28 : Tryz.prog.cellsOf 79 = 28 := by kernel_rfl
  have c23 : Tryz.prog.cellsOf 24 = 20 := by kernel_rfl
  have c24 : Tryz.prog.cellsOf 49 = 1 := by kernel_rfl
  have c25 : Tryz.prog.cellsOf 22 = 1 := by kernel_rfl
  have c26 : Tryz.prog.cellsOf 59 = 1 := by kernel_rfl
  have c4 : Tryz.prog.cellsOf 4 = 1 := by kernel_rfl
  have c9 : Tryz.prog.cellsOf 9 = 1 := by kernel_rfl
  obtain ⟨ys, m, _, rfl, hl, hlen, hf⟩ := DataW.trod_struct hu h
  rw [c28] at hl
  have g : ∀ k (hk : k < 9), ∃ y, ys[k]? = some y := fun k hk => ⟨ys[k]'(by rw [hlen]; exact hk), List.getElem?_eq_getElem _⟩
  obtain ⟨y0, e0⟩ := g 0 (by omega)
  obtain ⟨y1, e1⟩ := g 1 (by omega)
  obtain ⟨y2, e2⟩ := g 2 (by omega)
  obtain ⟨y3, e3⟩ := g 3 (by omega)
  obtain ⟨y4, e4⟩ := g 4 (by omega)
  obtain ⟨y5, e5⟩ := g 5 (by omega)
  obtain ⟨y6, e6⟩ := g 6 (by omega)
  obtain ⟨y7, e7⟩ := g 7 (by omega)
  obtain ⟨y8, e8⟩ := g 8 (by omega)
  have t0 := (hf 0 ⟨"Publisher", 24, 0, false, "", "", 0⟩ rfl).trans e0
  have t1 := (hf 1 ⟨"Seq", 49, 20, false, "", "", 24⟩ rfl).trans e1
  have t2 := (hf 2 ⟨"Born", 49, 21, false, "", "", 32⟩ rfl).trans e2
  have t3 := (hf 3 ⟨"Life", 22, 22, false, "", "", 40⟩ rfl).trans e3
  have t4 := (hf 4 ⟨"Gone", 4, 23, false, "", "", 44⟩ rfl).trans e4
  have t5 := (hf 5 ⟨"Priority", 59, 24, false, "", "", 46⟩ rfl).trans e5
  have t6 := (hf 6 ⟨"Weight", 59, 25, false, "", "", 48⟩ rfl).trans e6
  have t7 := (hf 7 ⟨"Port", 59, 26, false, "", "", 50⟩ rfl).trans e7
  have t8 := (hf 8 ⟨"Target", 9, 27, false, "", "", 56⟩ rfl).trans e8
  simp only [c23, List.drop_zero] at t0
  simp only [c24] at t1 t2
  simp only [c25] at t3
  simp only [c4] at t4
  simp only [c26] at t5 t6 t7
  simp only [c9] at t8
  obtain ⟨xs, hx, q0⟩ := cells_bytes t0
  obtain ⟨n1, q1, _, w1⟩ := DataW.trod_int (k := .u64) (by kernel_rfl) t1
  obtain ⟨n2, q2, _, w2⟩ := DataW.trod_int (k := .u64) (by kernel_rfl) t2
  obtain ⟨n3, q3, _, w3⟩ := DataW.trod_int (k := .u32) (by kernel_rfl) t3
  obtain ⟨n4, q4, _⟩ := DataW.trod_bool (by kernel_rfl) t4
  obtain ⟨n5, q5, _, w5⟩ := DataW.trod_int (k := .u16) (by kernel_rfl) t5
  obtain ⟨n6, q6, _, w6⟩ := DataW.trod_int (k := .u16) (by kernel_rfl) t6
  obtain ⟨n7, q7, _, w7⟩ := DataW.trod_int (k := .u16) (by kernel_rfl) t7
  obtain ⟨n8, q8, r8, _⟩ := DataW.trod_string (by kernel_rfl) t8
  have v1 := wf_u64 w1
  have v2 := wf_u64 w2
  have v3 := wf_u32 w3
  have v5 := wf_u16 w5
  have v6 := wf_u16 w6
  have v7 := wf_u16 w7
  have p1 := one_cell q1
  have p2 := one_cell q2
  have p3 := one_cell q3
  have p4 := one_cell q4
  have p5 := one_cell q5
  have p6 := one_cell q6
  have p7 := one_cell q7
  have p8 := one_cell q8
  refine ⟨⟨xs, n1.toNat, n2.toNat, n3.toNat, n4, n5.toNat, n6.toNat, n7.toNat, n8.data.toList, hx, by omega, by omega, by omega, by omega, by omega, by omega⟩, ?_, ys.map (·.1), rfl, ?_⟩
  · have e1 : cs = cs.take 20 ++ cs.drop 20 := (List.take_append_drop 20 cs).symm
    rw [e1, q0]
    unfold encI
    congr 1
    have hb : (⟨n8.data.toList.toArray⟩ : ByteArray) = n8 := by simp
    have hb2 : bstr n8.data.toList = n8 := by unfold bstr; exact hb
    apply List.ext_getElem?
    intro k
    rw [List.getElem?_drop]
    unfold tailI
    simp only [Int.toNat_of_nonneg v1.1, Int.toNat_of_nonneg v2.1, Int.toNat_of_nonneg v3.1, Int.toNat_of_nonneg v5.1, Int.toNat_of_nonneg v6.1, Int.toNat_of_nonneg v7.1, hb2]
    match k with
    | 0 => exact p1
    | 1 => exact p2
    | 2 => exact p3
    | 3 => exact p4
    | 4 => exact p5
    | 5 => exact p6
    | 6 => exact p7
    | 7 => exact p8
    | k + 8 => rw [List.getElem?_eq_none (by rw [hl]; omega)]; rfl
  · rw [List.getElem?_map, e8]
    simp only [Option.map_some]
    rw [r8]
theorem open_ins {b0 : Nat} {r : Reach} {v : Value} {d : DataW H} {ps : List MemPlace} (hval : Value.okWide Tryz.prog w r b0 79 v) (hd : DataW.Trod enc Tryz.prog w base spare held 79 v d ps) :
    ∃ i : Ins, v = .agg (encI i).toArray ∧ ∃ parts, d = .agg parts ∧ parts[8]? = some (.lit (.string i.tgt)) := by
  obtain ⟨cs, rfl, _⟩ := okWide_struct Tryz.underlying79 hval
  obtain ⟨fuel, hf⟩ := hd
  obtain ⟨c, he, parts, hp, h8⟩ := cells_ins hf
  refine ⟨c, ?_, parts, hp, h8⟩
  have : cs.toList = encI c := by simpa [Value.cells] using he
  rw [← this]
theorem sized_ins {ts : List TypeId} {ds : List (DataW H)} (h : (DataW.weightsEach Tryz.prog ts ds).all (· ≤ reachBytes) = true) {j : Nat} {parts : List (DataW H)} {i : Ins} (ht : ts[j]? = some 79) (hd : ds[j]? = some (.agg parts)) (h8 : parts[8]? = some (.lit (.string i.tgt))) : i.tgt.length ≤ reachBytes := by
  have hm : i.tgt.length ∈ (DataW.agg parts).weights Tryz.prog 79 := by
    have hu : Tryz.prog.underlying 79 = some (.struct #[⟨"Publisher", 24, 0, false, "", "", 0⟩, ⟨"Seq", 49, 20, false, "", "", 24⟩, ⟨"Born", 49, 21, false, "", "", 32⟩, ⟨"Life", 22, 22, false, "", "", 40⟩, ⟨"Gone", 4, 23, false, "", "", 44⟩, ⟨"Priority", 59, 24, false, "", "", 46⟩, ⟨"Weight", 59, 25, false, "", "", 48⟩, ⟨"Port", 59, 26, false, "", "", 50⟩, ⟨"Target", 9, 27, false, "", "", 56⟩]) := by kernel_rfl
    simp only [DataW.weights, hu]
    exact DataW.weights_mem_each (j := 8) (t := 9) rfl h8 _ (by simp [DataW.weights])
  have := List.all_eq_true.1 h _ (DataW.weights_mem_each ht hd _ hm)
  simpa using this
end
end Go.Proofs.YtehgpnnfjgmiiaaGreat
end
section
namespace Go.Proofs.YtehgpnnfjgmiiaaGreat
set_option maxRecDepth 100000
open Go.RowKit
set_option linter.unusedVariables false

/-- A function's one result that lies in memory. -/
theorem results_cell1 {fn : Func} {p : Tmp} {ty : TypeId} (h : fn.results = #[.cell p ty]) {P : Program} (tmps : Array Value) (w : World) (b o : Nat) (cs : List Value) (d : TypeDesc) (hp : tmps.getD p undef = .pointer (some ⟨b, o, none⟩))
    (hc : w.rangeAt b o cs) (hu : P.underlying ty = some d) (hd : d.isRow = true) (hi : (P.info? ty).map (·.size) = some cs.length) : (results fn tmps).run P w = .ok (.agg cs.toArray) w := by
  have h1 := run_loadVar_mid (P := P) w b o ty cs d hc hu hd hi
  have hp' : tmps[p]?.getD undef = .pointer (some ⟨b, o, none⟩) := by simpa using hp
  simp [results, h, hp', h1, asAddr]
end Go.Proofs.YtehgpnnfjgmiiaaGreat
end
section
namespace Go.Proofs.YtehgpnnfjgmiiaaGreat
set_option maxRecDepth 100000
set_option maxHeartbeats 1000000
open Go.RowKit

theorem heap2 (w : World) (a b : Obj) : ((w.alloc a).alloc b).heap[w.heap.size]? = some a ∧ ((w.alloc a).alloc b).heap[w.heap.size + 1]? = some b ∧ Below w.heap.size w ((w.alloc a).alloc b) := by
  refine ⟨?_, ?_, (((Below.refl _ w).alloc (Nat.le_refl _) _).alloc (by simp) _)⟩
  all_goals
    show ((w.heap.push a).push b)[_]? = _
    simp only [Array.getElem?_push, Array.size_push]
    repeat (first | rw [if_pos trivial] | rw [if_pos (by omega)] | rw [if_neg (by omega)])
end Go.Proofs.YtehgpnnfjgmiiaaGreat
end
section
namespace Go.Proofs.YtehgpnnfjgmiiaaGreat
set_option maxRecDepth 100000
open Go.RowKit

/-- A world that keeps what lay below B in W0. -/
structure Kept (B : Nat) (W0 : World) where
  val : World
  property : Below B W0 val
instance (B : Nat) (W0 : World) : Nonempty (Kept B W0) := ⟨⟨W0, Below.refl _ _⟩⟩
theorem wp_region_kept {P : Program} {id : Nat} {Q : Exit → Act → World → Prop} {a : Act} {w : World} {l : List Oper} (B : Nat) (W0 : World) (hW : Below B W0 w) (hm : P.follows .mixedOrders = true) (hB : Region.lexB .any l.toArray = true)
    (h : wpQuiet P l.toArray (fun w' => ∃ n : Kept B W0, w' = n.val) (fun a' => ∀ w', (∃ n : Kept B W0, w' = n.val) → Q .normal a' w') l a) : (Code.region id l.toArray true).wp P Q a w :=
  wp_region_quiet (C := fun w' => ∃ n : Kept B W0, w' = n.val) hm hB ⟨⟨{ w with drawn := w.drawn + 1 }, ⟨hW.os, hW.tape, hW.output, hW.size, hW.block⟩⟩, rfl⟩ (by simpa using h)
theorem kept_of {P : Program} {f : FuncId} {args : Array Value} {v : Value} {B : Nat} {W0 : World} (hB : B ≤ W0.heap.size) (h : ∀ W, Calls P f args W fun e w' => e = .returned v ∧ Below W.heap.size W w') (n : Kept B W0) :
    Calls P f args n.val fun e w' => e = .returned v ∧ ∃ m : Kept B W0, w' = m.val :=
  (h n.val).mono (by rintro e w' ⟨rfl, hb⟩; exact ⟨rfl, ⟨w', n.property.trans (hb.mono (Nat.le_trans hB n.property.size))⟩, rfl⟩)
theorem quiet_loadV {P : Program} {B : Nat} {W0 : World} {o : Oper} {a : Act} {K : Act → Prop} (ty : TypeId) (x : Operand) (ho : o.op = .load ty x) (p : Addr) (hx : a.eval x = .pointer (some p)) (v : Value) (hl : ∀ n : Kept B W0, (loadVar ty p).run P n.val = .ok v n.val)
    (hk : K (a.put o.dst v)) : o.quiet P a (fun w' => ∃ n : Kept B W0, w' = n.val) K :=
  ⟨v, fun w ⟨n, hn⟩ => by
    subst hn
    unfold Oper.quietAt execOp
    simp only [ho, hx, Instr.loadAt, Instr.sureAddr, Sem.run_bind, Sem.run_pure, Result.andThen_ok, hl n]
    exact ⟨rfl, rfl⟩, hk⟩

end Go.Proofs.YtehgpnnfjgmiiaaGreat
end
section
namespace Go.Proofs.YtehgpnnfjgmiiaaGreat
set_option maxRecDepth 100000
set_option maxHeartbeats 200000
open Go.RowKit Go.Great

theorem wpList_buildV {P : Program} {ops : Array Oper} {rest : List Oper} {o : Oper} {a : Act} {w : World} {Q : Exit → Act → World → Prop} (hg : o.guard = none) (t : TypeId) (parts : Array (Nat × Operand)) (ho : o.op = .build t parts) (vs : Array (Nat × Value))
    (hv : (parts.map fun (i, x) => (i, a.eval x)) = vs) (v : Value) (hr : (Instr.build t vs).run P w = .ok v w) (h : wpList P ops Q rest (a.put o.dst v) w) : wpList P ops Q (o :: rest) a w :=
  wpList_plain hg fun _ hK => by
    unfold Oper.wp execOp
    simp only [ho, hv, Sem.run_bind, hr, Result.andThen_ok]
    exact hK _ _ h

end Go.Proofs.YtehgpnnfjgmiiaaGreat
end
