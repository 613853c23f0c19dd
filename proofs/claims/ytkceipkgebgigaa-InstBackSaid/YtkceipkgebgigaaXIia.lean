/- Instances as values; loads of their fields; equality of two. No condition. Equality of two instances, as the program has it. No condition. -/
import Derived.Test.YtkceipkgebgigaaXJPWords
import Derived.Deep.MidRow
import Derived.Shelf.Abstract
import Derived.Test.YtkceipkgebgigaaXERefa
import Derived.Stop.BytesEq
section
namespace Go.Proofs.Ytkceipkgebgigaa
open Go.Shelf Go.RowKit Go.Lib Go.Great
set_option maxRecDepth 100000
set_option maxHeartbeats 1000000
theorem bcells_oneI (xs : List UInt8) : ∀ v ∈ bcells xs, v.oneCell' = true := by
  intro v hv
  unfold bcells at hv
  obtain ⟨c, _, rfl⟩ := List.mem_map.1 hv
  rfl
/-- An instance whose numbers fit their types. -/
structure Ins where
  pub : List UInt8
  seq : Nat
  born : Nat
  life : Nat
  gone : Bool
  pri : Nat
  wei : Nat
  port : Nat
  tgt : List UInt8
  hp : pub.length = 20
  hs : seq < 18446744073709551616
  hb : born < 18446744073709551616
  hl : life < 4294967296
  h1 : pri < 65536
  h2 : wei < 65536
  h3 : port < 65536
theorem Ins.same {x y : Ins} (a : x.pub = y.pub) (b : x.seq = y.seq) (c : x.born = y.born) (d : x.life = y.life) (e : x.gone = y.gone) (f : x.pri = y.pri) (g : x.wei = y.wei) (h : x.port = y.port) (i : x.tgt = y.tgt) : x = y := by
  cases x
  cases y
  simp only at a b c d e f g h i
  subst a b c d e f g h i
  rfl
def zeroI : Ins := ⟨List.replicate 20 0, 0, 0, 0, false, 0, 0, 0, [], by simp, by omega, by omega, by omega, by omega, by omega, by omega⟩
instance : Inhabited Ins := ⟨zeroI⟩
/-- All its cells but the publisher's. -/
def tailI (i : Ins) : List Value := [.int .u64 (i.seq : Int), .int .u64 (i.born : Int), .int .u32 (i.life : Int), .bool i.gone, .int .u16 (i.pri : Int), .int .u16 (i.wei : Int), .int .u16 (i.port : Int), .string (bstr i.tgt)]
def encI (i : Ins) : List Value := bcells i.pub ++ tailI i
theorem encI_length (i : Ins) : (encI i).length = 28 := by unfold encI; rw [List.length_append, bcells_length, i.hp]; rfl
theorem encI_one (i : Ins) : ∀ v ∈ encI i, v.oneCell' = true := by
  intro v hv
  unfold encI at hv
  rcases List.mem_append.1 hv with h | h
  · exact bcells_oneI _ v h
  · simp only [tailI, List.mem_cons, List.not_mem_nil, or_false] at h
    rcases h with rfl | rfl | rfl | rfl | rfl | rfl | rfl | rfl <;> rfl
theorem range_frontI {w : World} {g o : Nat} {a b : List Value} (h : w.rangeAt g o (a ++ b)) : w.rangeAt g o a := fun j v hv => h j v (by rw [List.getElem?_append_left (List.getElem?_eq_some_iff.1 hv).1]; exact hv)
theorem range_backI {w : World} {g o : Nat} {a b : List Value} (h : w.rangeAt g o (a ++ b)) : w.rangeAt g (o + a.length) b := fun j v hv => by
  have := h (a.length + j) v (by rw [List.getElem?_append_right (by omega), Nat.add_sub_cancel_left]; exact hv)
  rwa [← Nat.add_assoc] at this
theorem size28i : (Try.prog.info? 28).map (·.size) = some 28 := by kernel_rfl
theorem size23i : (Try.prog.info? 23).map (·.size) = some 20 := by kernel_rfl
theorem load28 {w : World} {g o : Nat} {i : Ins} (hr : w.rangeAt g o (encI i)) : (loadVar 28 ⟨g, o, none⟩).run Try.prog w = .ok (.agg (encI i).toArray) w :=
  run_loadVar_mid w g o 28 (encI i) _ hr Try.underlying28 rfl (by rw [encI_length]; exact size28i)
theorem load23 {w : World} {g o : Nat} {i : Ins} (hr : w.rangeAt g o (encI i)) : (loadVar 23 ⟨g, o, none⟩).run Try.prog w = .ok (.agg (bcells i.pub).toArray) w :=
  run_loadVar_mid w g o 23 (bcells i.pub) _ (range_frontI hr) Try.underlying23 rfl (by rw [bcells_length, i.hp]; exact size23i)
/-- The fields of an instance at a place. -/
structure FldI (w : World) (g o : Nat) (i : Ins) : Prop where
  pub : (loadVar 23 ⟨g, o, none⟩).run Try.prog w = .ok (.agg (bcells i.pub).toArray) w
  seq : w.cell? ⟨g, o + 20, none⟩ = some (.int .u64 (i.seq : Int))
  born : w.cell? ⟨g, o + 21, none⟩ = some (.int .u64 (i.born : Int))
  life : w.cell? ⟨g, o + 22, none⟩ = some (.int .u32 (i.life : Int))
  gone : w.cell? ⟨g, o + 23, none⟩ = some (.bool i.gone)
  pri : w.cell? ⟨g, o + 24, none⟩ = some (.int .u16 (i.pri : Int))
  wei : w.cell? ⟨g, o + 25, none⟩ = some (.int .u16 (i.wei : Int))
  port : w.cell? ⟨g, o + 26, none⟩ = some (.int .u16 (i.port : Int))
  tgt : w.cell? ⟨g, o + 27, none⟩ = some (.string (bstr i.tgt))
  all : (loadVar 28 ⟨g, o, none⟩).run Try.prog w = .ok (.agg (encI i).toArray) w
theorem fldI {w : World} {g o : Nat} {i : Ins} (hr : w.rangeAt g o (encI i)) : FldI w g o i := by
  have h2 : w.rangeAt g (o + 20) (tailI i) := by
    have := range_backI (show w.rangeAt g o (bcells i.pub ++ tailI i) from hr)
    rwa [bcells_length, i.hp] at this
  exact ⟨load23 hr, h2 0 _ rfl, h2 1 _ rfl, h2 2 _ rfl, h2 3 _ rfl, h2 4 _ rfl, h2 5 _ rfl, h2 6 _ rfl, h2 7 _ rfl, load28 hr⟩
theorem fldB {w : World} {g : Nat} {t : TypeId} {i : Ins} (h : w.heap[g]? = some (.cells (encI i).toArray t (0, 0))) : FldI w g 0 i := fldI (row_range h)
/-- An instance lies there, also behind what does not touch the block. -/
theorem fld_below {w W : World} {g B : Nat} {t : TypeId} {i : Ins} (h : w.heap[g]? = some (.cells (encI i).toArray t (0, 0))) (hb : Below B w W) (hg : g < B) : FldI W g 0 i := fldB ((hb.block g hg).trans h)
theorem load_cell24 {w : World} {a : Addr} {v : Value} (h : w.cell? a = some v) : (loadVar 24 a).run Try.prog w = .ok v w := by
  simp [loadVar, h]
theorem eq23 (xs ys : List UInt8) (hx : xs.length = 20) (hy : ys.length = 20) (W : World) (k : Nat) : (Op.equalIn (k + 2) 23 (.agg (bcells xs).toArray) (.agg (bcells ys).toArray)).run Try.prog W = .ok (xs == ys) W :=
  run_equalIn_bytes W k 23 5 20 Try.underlying23 Try.underlying5 (fun w => by
    obtain ⟨i0, hi, hz0, hz1, hz2⟩ := info_parts info5
    simp [sizeOf, typeInfo, hi, hz1]) xs ys hx hy
/-- Two instances are the same. -/
def eqI (x y : Ins) : Bool := x.pub == y.pub && (x.seq == y.seq && (x.born == y.born && (x.life == y.life && (x.gone == y.gone && (x.pri == y.pri && (x.wei == y.wei && (x.port == y.port && x.tgt == y.tgt)))))))
theorem eqI_iff (x y : Ins) : eqI x y = true ↔ x = y := by
  unfold eqI
  simp only [Bool.and_eq_true, beq_iff_eq]
  constructor
  · rintro ⟨a, b, c, d, e, f, g, h, i⟩
    exact Ins.same a b c d e f g h i
  · rintro rfl
    exact ⟨rfl, rfl, rfl, rfl, rfl, rfl, rfl, rfl, rfl⟩
theorem eqI_self (x : Ins) : eqI x x = true := (eqI_iff x x).2 rfl
theorem beq_intI (a b : Nat) : ((a : Int) == (b : Int)) = (a == b) := by
  rw [Bool.eq_iff_iff]
  simp only [beq_iff_eq]
  omega
end Go.Proofs.Ytkceipkgebgigaa
end
section
namespace Go.Proofs.Ytkceipkgebgigaa
open Go.Shelf Go.RowKit Go.Lib Go.Great
set_option maxRecDepth 100000
set_option maxHeartbeats 1000000
theorem encI_ext1 (z : Ins) : (encI z).toArray.extract 0 20 = (bcells z.pub).toArray := by
  have hl : (bcells z.pub).length = 20 := by rw [bcells_length]; exact z.hp
  unfold encI
  rw [List.extract_toArray, List.extract_eq_take_drop, List.drop_zero, List.take_append_of_le_length (by omega), List.take_of_length_le (by omega)]
theorem encI_get (z : Ins) (k : Nat) : (encI z).toArray[20 + k]? = (tailI z)[k]? := by
  have hl : (bcells z.pub).length = 20 := by rw [bcells_length]; exact z.hp
  unfold encI
  rw [List.getElem?_toArray, List.getElem?_append_right (by omega), hl, Nat.add_sub_cancel_left]
theorem part_cell {t : TypeId} (ht : ∀ W, (isAgg t).run Try.prog W = .ok false W) (z : Ins) (k : Nat) (v : Value) (hv : (tailI z)[k]? = some v) (W : World) : (part t (encI z).toArray (20 + k)).run Try.prog W = .ok v W := by
  have h := (encI_get z k).trans hv
  unfold part
  simp only [Sem.run_bind, ht, Result.andThen_ok, Bool.false_eq_true, if_false]
  simp [h]
theorem eqIns (x y : Ins) (W : World) : (Op.equalIn 10000 28 (.agg (encI x).toArray) (.agg (encI y).toArray)).run Try.prog W = .ok (eqI x y) W := by
  rw [run_equalIn_struct W 9999 28 _ _ (by kernel_rfl) (by kernel_rfl)]
  rw [show (Try.prog.fieldsOf 28).toList = [⟨"Publisher", 23, 0, false, "", "", 0⟩, ⟨"Seq", 24, 20, false, "", "", 24⟩, ⟨"Born", 24, 21, false, "", "", 32⟩, ⟨"Life", 25, 22, false, "", "", 40⟩, ⟨"Gone", 4, 23, false, "", "", 44⟩, ⟨"Priority", 26, 24, false, "", "", 46⟩, ⟨"Weight", 26, 25, false, "", "", 48⟩, ⟨"Port", 26, 26, false, "", "", 50⟩, ⟨"Target", 9, 27, false, "", "", 56⟩] from by kernel_rfl]
  have i1 : ∀ W, (isAgg 23).run Try.prog W = .ok true W := fun W => by kernel_rfl
  have s1 : ∀ W, (Go.sizeOf 23).run Try.prog W = .ok 20 W := fun W => by kernel_rfl
  have q0 : ∀ (z : Ins) W, (part 23 (encI z).toArray 0).run Try.prog W = .ok (.agg (bcells z.pub).toArray) W := fun z W => by
    unfold part
    simp only [Sem.run_bind, i1, s1, Result.andThen_ok, if_true, Sem.run_pure]
    rw [Nat.zero_add, encI_ext1]
  have q1 := fun (z : Ins) W => part_cell (t := 24) (fun W => by kernel_rfl) z 0 _ rfl W
  have q2 := fun (z : Ins) W => part_cell (t := 24) (fun W => by kernel_rfl) z 1 _ rfl W
  have q3 := fun (z : Ins) W => part_cell (t := 25) (fun W => by kernel_rfl) z 2 _ rfl W
  have q4 := fun (z : Ins) W => part_cell (t := 4) (fun W => by kernel_rfl) z 3 _ rfl W
  have q5 := fun (z : Ins) W => part_cell (t := 26) (fun W => by kernel_rfl) z 4 _ rfl W
  have q6 := fun (z : Ins) W => part_cell (t := 26) (fun W => by kernel_rfl) z 5 _ rfl W
  have q7 := fun (z : Ins) W => part_cell (t := 26) (fun W => by kernel_rfl) z 6 _ rfl W
  have q8 := fun (z : Ins) W => part_cell (t := 9) (fun W => by kernel_rfl) z 7 _ rfl W
  simp only [Nat.reduceAdd] at q1 q2 q3 q4 q5 q6 q7 q8
  have e0 : ∀ W, (Op.equalIn 9999 23 (.agg (bcells x.pub).toArray) (.agg (bcells y.pub).toArray)).run Try.prog W = .ok (x.pub == y.pub) W := fun W => eq23 x.pub y.pub x.hp y.hp W 9997
  have e1 := fun a b W => run_equalIn_int (P := Try.prog) W 9998 24 .u64 .u64 a b (by kernel_rfl)
  have e2 := fun a b W => run_equalIn_int (P := Try.prog) W 9998 25 .u32 .u32 a b (by kernel_rfl)
  have e3 := fun a b W => run_equalIn_bool (P := Try.prog) W 9998 4 a b (by kernel_rfl)
  have e4 := fun a b W => run_equalIn_int (P := Try.prog) W 9998 26 .u16 .u16 a b (by kernel_rfl)
  have e5 := fun a b W => run_equalIn_string (P := Try.prog) W 9998 9 a b (by kernel_rfl)
  have hb : ∀ l : List UInt8, (bstr l).toList = l := fun l => by rw [ByteArray.toList_eq]; simp [bstr]
  simp only [Op.eqFields, Sem.run_bind, Sem.run_ite, q0, q1, q2, q3, q4, q5, q6, q7, q8, e0, e1, e2, e3, e4, e5, Result.andThen_ok, beq_intI, hb]
  unfold eqI
  cases x.pub == y.pub <;> cases x.seq == y.seq <;> cases x.born == y.born <;> cases x.life == y.life <;> cases x.gone == y.gone <;> cases x.pri == y.pri <;> cases x.wei == y.wei <;> cases x.port == y.port <;> cases x.tgt == y.tgt <;> rfl
end Go.Proofs.Ytkceipkgebgigaa
end
