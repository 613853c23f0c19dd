/- Contract of absorb of package sha: what is written goes into the words and the tail. Conditions: fewer than 900,000 bytes come in. Contract of absorb of package sha, where a block is full. Conditions: fewer than 900,000 bytes come in. -/
import Derived.Test.YtjiiignbejbiiaaXPBacka
import Derived.LoopTactic
section
namespace Go.Proofs.Ytjiiignbejbiiaa
set_option maxRecDepth 100000
open Go.RowKit
set_option linter.unusedVariables false
set_option linter.unusedSimpArgs false

/-- A hash in memory. -/
def hcells (v : V5) (tail : List UInt8) (len : Nat) : List Value := .bool true :: (v.cells ++ (bcells tail ++ [.int .u64 (len : Int)]))
def HashIs (w : World) (g : Nat) (v : V5) (tail : List UInt8) (len : Nat) : Prop := w.heap[g]? = some (.cells (hcells v tail len).toArray 113 (0, 0)) ∧ tail.length = 64 ∧ len < 18446744073709551616

section
variable {w w' : World} {g : Nat} {v : V5} {tail : List UInt8} {len : Nat}
theorem HashIs.cell (h : HashIs w g v tail len) (i : Nat) : w.cell? ⟨g, i, none⟩ = (hcells v tail len)[i]? := by
  rw [cell_of_row w g i _ 113 (0, 0) h.1]
  simp
theorem HashIs.len_ (h : HashIs w g v tail len) : w.cell? ⟨g, 70, none⟩ = some (.int .u64 (len : Int)) := by
  rw [h.cell]
  have hl : (bcells tail).length = 64 := by rw [bcells_length, h.2.1]
  simp [hcells, V5.cells, List.getElem?_append, hl]
theorem HashIs.word0 (h : HashIs w g v tail len) : w.cell? ⟨g, 1, none⟩ = some (.int .u32 v.a) ∧ w.cell? ⟨g, 2, none⟩ = some (.int .u32 v.b) ∧ w.cell? ⟨g, 3, none⟩ = some (.int .u32 v.c) ∧ w.cell? ⟨g, 4, none⟩ = some (.int .u32 v.d) ∧ w.cell? ⟨g, 5, none⟩ = some (.int .u32 v.e) := by
  rw [h.cell, h.cell, h.cell, h.cell, h.cell]
  simp [hcells, V5.cells]
theorem HashIs.free (h : HashIs w g v tail len) (i : Nat) : w.frozen? ⟨g, i, none⟩ = false := frozen_of_row w g i _ 113 h.1

theorem under78 : Try.prog.underlying 111 = some (.array (Try.prog.arrayLen 111) (Try.prog.elem 111)) := by kernel_rfl
theorem size78 (W : World) : (sizeOf (Try.prog.elem 111)).run Try.prog W = .ok 1 W := by
  obtain ⟨i0, hi, hz0, hz1, hz2⟩ := info_parts info5
  have : Try.prog.elem 111 = 5 := by kernel_rfl
  rw [this]
  simp [sizeOf, typeInfo, hi, hz1]
theorem len78 : Try.prog.arrayLen 111 = 64 := by kernel_rfl
theorem run_tail_from (q : Nat) (hq : q < 64) (W : World) : (Instr.sliceAt 111 (.pointer (some ⟨g, 6, none⟩)) (some (.int .i64 (q : Int))) none none).run Try.prog W = .ok (.slice (some ⟨g, 6 + q, none⟩) (64 - q) (64 - q)) W := by
  have hl := len78
  rw [run_sliceAt_array_l W 111 ⟨g, 6, none⟩ under78 .i64 q (by omega) (by rw [hl]; omega), size78]
  have e : (⟨g, 6, none⟩ : Addr).add q = ⟨g, 6 + q, none⟩ := Addr.add_mid g 6 q
  simp [Result.andThen, slicedAt, hl, e, show ¬ (64 = q) from by omega]
theorem run_tail_all (W : World) : (Instr.sliceAt 111 (.pointer (some ⟨g, 6, none⟩)) none none none).run Try.prog W = .ok (.slice (some ⟨g, 6, none⟩) 64 64) W := by
  have hl := len78
  rw [run_sliceAt_array_all W 111 ⟨g, 6, none⟩ under78, size78]
  have e : (⟨g, 6, none⟩ : Addr).add 0 = ⟨g, 6, none⟩ := Addr.add_mid g 6 0
  simp [Result.andThen, slicedAt, hl, e]

theorem hcells_len (v : V5) (tail : List UInt8) (len : Nat) (ht : tail.length = 64) : (hcells v tail len).length = 71 := by
  simp [hcells, V5.cells, bcells_length, ht]
/-- The tail with new bytes in it. -/
theorem hcells_splice (v : V5) (tail cs : List UInt8) (len q : Nat) (h : q + cs.length ≤ tail.length) : splice (hcells v tail len) (6 + q) (bcells cs) = hcells v (splice tail q cs) len := by
  have e : hcells v tail len = (.bool true :: v.cells) ++ (bcells tail ++ [.int .u64 (len : Int)]) := by simp [hcells]
  have e' : hcells v (splice tail q cs) len = (.bool true :: v.cells) ++ (bcells (splice tail q cs) ++ [.int .u64 (len : Int)]) := by simp [hcells]
  have hl : (Value.bool true :: v.cells).length = 6 := by simp [V5.cells]
  rw [e, e']
  unfold splice
  rw [List.take_append, List.drop_append, hl]
  have t1 : (Value.bool true :: v.cells).take (6 + q) = Value.bool true :: v.cells := List.take_of_length_le (by omega)
  have t2 : (Value.bool true :: v.cells).drop (6 + q + (bcells cs).length) = [] := List.drop_eq_nil_of_le (by omega)
  rw [t1, t2, show 6 + q - 6 = q from by omega, show 6 + q + (bcells cs).length - 6 = q + cs.length from by rw [bcells_length]; omega]
  rw [List.take_append_of_le_length (by rw [bcells_length]; omega), List.drop_append_of_le_length (by rw [bcells_length]; omega)]
  simp [bcells]
theorem hcells_setlen (v : V5) (tail : List UInt8) (len len' : Nat) (ht : tail.length = 64) : (hcells v tail len).toArray.setIfInBounds 70 (.int .u64 (len' : Int)) = (hcells v tail len').toArray := by
  rw [List.setIfInBounds_toArray]
  congr 1
  have e : ∀ l : Nat, hcells v tail l = (.bool true :: v.cells ++ bcells tail) ++ [.int .u64 (l : Int)] := fun l => by simp [hcells]
  have hl : (Value.bool true :: v.cells ++ bcells tail).length = 70 := by simp [V5.cells, bcells_length, ht]
  rw [e, e, List.set_append_right _ _ (by omega), hl]
  simp

theorem wpList_copy_row {P : Program} {w : World} {ops : Array Oper} {rest : List Oper} {o : Oper} {a : Act} {Q : Exit → Act → World → Prop} (hgd : o.guard = none) (d s : Operand) (dT sT : TypeId)
    (ho : o.op = .call { callee := .builtin .copy, args := #[d, s], argTypes := #[dT, sT] }) (elem : TypeId) (hu : P.underlying dT = some (.slice elem)) (hsz : (P.info? elem).map (·.size) = some 1)
    (dp sp : Option Addr) (dLen dCap sLen sCap : Nat) (hd : a.eval d = .slice dp dLen dCap) (hs : a.eval s = .slice sp sLen sCap)
    (g off : Nat) (cur : List Value) (t : TypeId) (hg : w.heap[g]? = some (.cells cur.toArray t (0, 0))) (cs : List Value) (hn : cs.length = Nat.min sLen dLen)
    (hpos : 0 < cs.length → dp = some ⟨g, off, none⟩ ∧ ∃ ad, sp = some ad ∧ ∀ j v, cs[j]? = some v → w.cell? (ad.add j) = some v)
    (hfit : off + cs.length ≤ cur.length) (h1 : ∀ v ∈ cs, v.oneCell' = true)
    (h : ∀ w', w'.heap[g]? = some (.cells (splice cur off cs).toArray t (0, 0)) → w.grownBy w' (some g) → wpList P ops Q rest (a.put o.dst (goInt cs.length)) w') :
    wpList P ops Q (o :: rest) a w := by
  by_cases h0 : cs.length = 0
  · obtain rfl : cs = [] := List.eq_nil_of_length_eq_zero h0
    refine wpList_copy_nothing hgd d s dT sT ho elem hu hsz dp sp dLen dCap sLen sCap hd hs (by simpa using hn.symm) ?_
    exact h w (by simpa [splice] using hg) (World.grownBy.refl w _)
  · obtain ⟨rfl, ad, rfl, hsrc⟩ := hpos (by omega)
    refine wpList_copy_own hgd d s dT sT ho elem hu hsz g off dLen dCap ad sLen sCap hd hs cur.toArray t hg cs hn hsrc (by simpa using hfit) h1 ?_
    exact h _ (by simpa [splice] using setRow_heap w g _ _ t _ hg) ⟨rfl, rfl, rfl, by simp, fun k _ hk => setRow_other w g k _ (fun e => hk (by simp [e]))⟩

/-- The bytes that go into the tail, and the tail with them. -/
def fillT (tail : List UInt8) (q : Nat) (b : List UInt8) : List UInt8 := splice tail q (b.take (64 - q))
theorem fillT_length (tail : List UInt8) (q : Nat) (b : List UInt8) (ht : tail.length = 64) (hq : q < 64) : (fillT tail q b).length = 64 := by
  unfold fillT
  rw [length_splice _ _ _ (by rw [List.length_take]; omega), ht]

/-- The first steps of absorb: the length, and the bytes that go into the tail. -/
def AbsR (w : World) (g : Nat) (v : V5) (tail : List UInt8) (len : Nat) (b : List UInt8) (w1 : World) : Prop :=
  HashIs w1 g v (fillT tail (len % 64) b) ((len + b.length) % 18446744073709551616) ∧ w.grownBy w1 (some g)

set_option maxRecDepth 100000 in
theorem absorb_small (h : HashIs w g v tail len) (A : Option Addr) (c : Nat) (b : List UInt8) (hb : BAt w w.heap.size A b) (hl : b.length ≤ 900000) (hne : ∀ g' off, A = some ⟨g', off, none⟩ → b ≠ [] → g' ≠ g) (hq : len % 64 + b.length < 64) :
    Calls Try.prog 69 #[.pointer (some ⟨g, 0, none⟩), .slice A b.length c] w fun e w' => e = .returned (.tuple #[]) ∧ AbsR w g v tail len b w' := by
  have hlen := h.2.2
  have ht := h.2.1
  have e : (len : Int) + (b.length : Int) = (((len + b.length) % 18446744073709551616 : Nat) : Int) := by omega
  have h1 : HashIs (w.setCell ⟨g, 70, none⟩ (.int .u64 ((len : Int) + (b.length : Int)))) g v tail ((len + b.length) % 18446744073709551616) := by
    rw [e]
    refine ⟨?_, ht, by omega⟩
    have := heap_setCell_same w g 70 _ 113 (.int .u64 (((len + b.length) % 18446744073709551616 : Nat) : Int)) h.1
    rw [hcells_setlen v tail len _ ht] at this
    exact this
  have cl := h.len_
  have fl := h.free 70
  have hsl : ∀ W, (Instr.sliceAt 111 (.pointer (some ⟨g, 6, none⟩)) (some (.int .i64 ((len : Int) % 64))) none none).run Try.prog W = .ok (.slice (some ⟨g, 6 + len % 64, none⟩) (64 - len % 64) (64 - len % 64)) W := fun W => by
    have := run_tail_from (g := g) (len % 64) (by omega) W
    rw [Int.natCast_emod] at this
    exact this
  have hb1 : BAt (w.setCell ⟨g, 70, none⟩ (.int .u64 ((len : Int) + (b.length : Int)))) w.heap.size A b := hb.set _ hne
  have R : ∀ w', w'.heap[g]? = some (.cells (splice (hcells v tail ((len + b.length) % 18446744073709551616)) (6 + len % 64) (bcells (b.take (64 - len % 64)))).toArray 113 (0, 0)) → (w.setCell ⟨g, 70, none⟩ (.int .u64 ((len : Int) + (b.length : Int)))).grownBy w' (some g) → AbsR w g v tail len b w' := fun w' q1 q2 => by
    rw [hcells_splice v tail _ _ _ (by rw [List.length_take]; omega)] at q1
    exact ⟨⟨q1, fillT_length tail _ b ht (by omega), by omega⟩, grownBy_trans (grownBy_setCell (World.grownBy.refl w _) 70 _) q2⟩
  have hcs : (bcells (b.take (64 - len % 64))).length = b.length := by rw [bcells_length, List.length_take]; omega
  have hn : (bcells (b.take (64 - len % 64))).length = Nat.min b.length (64 - len % 64) := by rw [hcs]; exact (Nat.min_eq_left (by omega)).symm
  have hfit : 6 + len % 64 + (bcells (b.take (64 - len % 64))).length ≤ (hcells v tail ((len + b.length) % 18446744073709551616)).length := by rw [hcs, hcells_len v tail _ ht]; omega
  have hbt : b.take (64 - len % 64) = b := List.take_of_length_le (by omega)
  have hpos : 0 < (bcells (b.take (64 - len % 64))).length → ∃ ad, A = some ad ∧ ∀ j u, (bcells (b.take (64 - len % 64)))[j]? = some u → (w.setCell ⟨g, 70, none⟩ (.int .u64 ((len : Int) + (b.length : Int)))).cell? (ad.add j) = some u := by
    rw [hbt]
    exact hb1.cells
  have H1 := Lib.hid h1.1
  have HN := Lib.hid hn
  have HF := Lib.hid hfit
  have HP := Lib.hid hpos
  have HR := Lib.hid R
  have HCS := Lib.hid hcs
  have HQ := Lib.hid hq
  have hq' : (len : Int) % 64 + (b.length : Int) < 64 := by omega
  clear h h1 hb hb1 hne R hcs hn hfit hbt hpos e ht hq
  go_enter Try.func69, Try.ntmps69
  go_wp2_with ((with_reducible refine wpList_copy_row (o := ⟨some 28, _, _, _, _, _⟩) rfl (.tmp 26) (.tmp 27) 29 29 rfl 5 Try.underlying29 ?_ (some ⟨g, 6 + len % 64, none⟩) A (64 - len % 64) (64 - len % 64) b.length c ?_ ?_ g (6 + len % 64) _ 113 H1.out _ HN.out (fun hp => ⟨rfl, HP.out hp⟩) HF.out (bcells_one _) ?_); kernel_rfl; rfl; rfl; intro w1 q1 q2; have HA := Lib.hid (HR.out w1 q1 q2); clear q1 q2; rw [HCS.out])
  refine bodyPost_ret (results_none rfl _ _ _) rfl ?_
  exact ⟨rfl, HA.out⟩

/-- The words of a hash anew. -/
theorem HashIs.setw (h : HashIs w g v tail len) (X : V5) :
    HashIs (((((w.setCell ⟨g, 1, none⟩ (.int .u32 X.a)).setCell ⟨g, 2, none⟩ (.int .u32 X.b)).setCell ⟨g, 3, none⟩ (.int .u32 X.c)).setCell ⟨g, 4, none⟩ (.int .u32 X.d)).setCell ⟨g, 5, none⟩ (.int .u32 X.e)) g X tail len ∧
      w.grownBy (((((w.setCell ⟨g, 1, none⟩ (.int .u32 X.a)).setCell ⟨g, 2, none⟩ (.int .u32 X.b)).setCell ⟨g, 3, none⟩ (.int .u32 X.c)).setCell ⟨g, 4, none⟩ (.int .u32 X.d)).setCell ⟨g, 5, none⟩ (.int .u32 X.e)) (some g) := by
  obtain ⟨h1, h2, h3⟩ := h
  have z1 := heap_setCell_same w g 1 _ 113 (.int .u32 X.a) h1
  have z2 := heap_setCell_same _ g 2 _ 113 (.int .u32 X.b) z1
  have z3 := heap_setCell_same _ g 3 _ 113 (.int .u32 X.c) z2
  have z4 := heap_setCell_same _ g 4 _ 113 (.int .u32 X.d) z3
  have z5 := heap_setCell_same _ g 5 _ 113 (.int .u32 X.e) z4
  exact ⟨⟨by simpa [hcells, V5.cells] using z5, h2, h3⟩, grownBy_setCell (grownBy_setCell (grownBy_setCell (grownBy_setCell (grownBy_setCell (World.grownBy.refl w _) _ _) _ _) _ _) _ _) _ _⟩
theorem HashIs.lt (h : HashIs w g v tail len) : g < w.heap.size := (Array.getElem?_eq_some_iff.1 h.1).1
theorem HashIs.below {B : Nat} (h : HashIs w g v tail len) (hb : Below B w w') (hB : w.heap.size ≤ B) : HashIs w' g v tail len := ⟨(hb.block g (Nat.lt_of_lt_of_le h.lt hB)).trans h.1, h.2⟩
theorem HashIs.bat (h : HashIs w g v tail len) : BAt w w.heap.size (some ⟨g, 6, none⟩) tail := by
  right
  refine ⟨g, 6, rfl, h.lt, fun j hj => ?_⟩
  have hj' : j < 64 := by rw [h.2.1] at hj; exact hj
  rw [h.cell]
  have e : hcells v tail len = (.bool true :: v.cells) ++ (bcells tail ++ [.int .u64 (len : Int)]) := by simp [hcells]
  have hl : (Value.bool true :: v.cells).length = 6 := by simp [V5.cells]
  rw [e, List.getElem?_append_right (by omega), hl, show 6 + j - 6 = j from by omega, List.getElem?_append_left (by rw [bcells_length]; omega), bcells_get tail j hj]

/-- One block more goes into the words: what the call leaves. -/
theorem after_hash (h : HashIs w g v tail len) (A : Option Addr) (c : Nat) (xs : List UInt8) (W : World) (hb : Below w.heap.size w W) (hx : BAt w w.heap.size A xs) (hl : xs.length = 64) (X : V5) (hX : X = aftI xs v) :
    Calls Try.prog 78 #[.agg #[.int .u32 v.a, .int .u32 v.b, .int .u32 v.c, .int .u32 v.d, .int .u32 v.e], .slice A 64 c] W fun e w' => e = .returned (.agg #[.int .u32 X.a, .int .u32 X.b, .int .u32 X.c, .int .u32 X.d, .int .u32 X.e]) ∧ HashIs w' g v tail len ∧ w.grownBy w' (some g) := by
  subst hX
  exact (after_any A c xs v.a v.b v.c v.d v.e W ((hx.below hb).more hb.size) hl).mono fun e w' ⟨he, hb'⟩ => ⟨he, (h.below hb (Nat.le_refl _)).below (hb'.mono (Nat.le_refl _)) (Nat.le_refl _), grownBy_trans (grownBy_of_below hb (Nat.le_refl _) _) (grownBy_of_below hb' (Nat.le_refl _) _)⟩

/-- The words behind the blocks of r. -/
def blkI (v : V5) (r : List UInt8) : Nat → V5
  | 0 => v
  | i + 1 => aftI ((r.drop (64 * i)).take 64) (blkI v r i)

theorem BAt.takeB {B : Nat} {A : Option Addr} {b : List UInt8} (h : BAt w B A b) (k : Nat) : BAt w B A (b.take k) := by
  by_cases hn : (b.take k).length = 0
  · exact .inl (List.eq_nil_of_length_eq_zero hn)
  · rw [List.length_take] at hn
    obtain ⟨ga, off, rfl, hg, hc⟩ := h.some_ (by omega)
    refine .inr ⟨ga, off, rfl, hg, fun j hj => ?_⟩
    rw [List.length_take] at hj
    rw [hc j (by omega), List.getElem_take]

theorem cut_ne {B c k : Nat} {A : Option Addr} {b : List UInt8} (hb : BAt w B A b) (hc : b.length ≤ c) (h : ∀ g' off, A = some ⟨g', off, none⟩ → b ≠ [] → g' ≠ g) : ∀ g' off, cutA A c k = some ⟨g', off, none⟩ → b.drop k ≠ [] → g' ≠ g := by
  intro g' off e hne
  have hl : k < b.length := Nat.lt_of_not_le fun hle => hne (List.drop_eq_nil_of_le hle)
  obtain ⟨ga, o, rfl, hg, _⟩ := hb.some_ (by omega)
  unfold cutA at e
  rw [if_neg (by omega), Option.map_some, addr_add] at e
  injection e with e
  injection e with e1 e2
  subst e1
  exact h ga o rfl (fun e => by rw [e] at hl; simp at hl)

/-- The relation of the loop over the blocks. -/
def AbsRel (w : World) (g : Nat) (v1 : V5) (T1 : List UInt8) (L1 : Nat) (r : List UInt8) (v : Value) (wr : World) : Prop :=
  ∃ (i : Nat) (A' : Option Addr) (c' : Nat), 64 * i ≤ r.length ∧ v = .slice A' (r.length - 64 * i) c' ∧ r.length - 64 * i ≤ c' ∧ BAt wr wr.heap.size A' (r.drop (64 * i)) ∧ (∀ g' off, A' = some ⟨g', off, none⟩ → r.drop (64 * i) ≠ [] → g' ≠ g) ∧ HashIs wr g (blkI v1 r i) T1 L1 ∧ w.grownBy wr (some g)
end
end Go.Proofs.Ytjiiignbejbiiaa
end
section
namespace Go.Proofs.Ytjiiignbejbiiaa
set_option maxRecDepth 100000
open Go.RowKit
set_option linter.unusedVariables false
set_option linter.unusedSimpArgs false

def sliceLen : Value → Nat
  | .slice _ n _ => n
  | _ => 0
/-- What absorb leaves, from the words X, the tail T and the bytes r that are left. -/
def AbsE (w : World) (g : Nat) (X : V5) (T : List UInt8) (L : Nat) (r : List UInt8) (w1 : World) : Prop :=
  HashIs w1 g (blkI X r (r.length / 64)) (splice T 0 (r.drop (64 * (r.length / 64)))) L ∧ w.grownBy w1 (some g)
def AbsB (w : World) (g : Nat) (v : V5) (tail : List UInt8) (len : Nat) (b : List UInt8) : World → Prop :=
  AbsE w g (aftI (fillT tail (len % 64) b) v) (fillT tail (len % 64) b) ((len + b.length) % 18446744073709551616) (b.drop (64 - len % 64))

section
variable {w w' : World} {g : Nat} {v : V5} {tail : List UInt8} {len : Nat}
set_option maxRecDepth 100000 in
theorem absorb_big (h : HashIs w g v tail len) (A : Option Addr) (c : Nat) (b : List UInt8) (hb : BAt w w.heap.size A b) (hl : b.length ≤ 900000) (hcap : b.length ≤ c) (hne : ∀ g' off, A = some ⟨g', off, none⟩ → b ≠ [] → g' ≠ g) (hq : 64 ≤ len % 64 + b.length) :
    Calls Try.prog 69 #[.pointer (some ⟨g, 0, none⟩), .slice A b.length c] w fun e w' => e = .returned (.tuple #[]) ∧ AbsB w g v tail len b w' := by
  have hlen := h.2.2
  have ht := h.2.1
  have e : IntKind.u64.wrap ((len : Int) + (b.length : Int)) = (((len + b.length) % 18446744073709551616 : Nat) : Int) := by rw [IntKind.wrap_u64]; omega
  have h1 : HashIs (w.setCell ⟨g, 70, none⟩ (.int .u64 (IntKind.u64.wrap ((len : Int) + (b.length : Int))))) g v tail ((len + b.length) % 18446744073709551616) := by
    rw [e]
    refine ⟨?_, ht, by omega⟩
    have := heap_setCell_same w g 70 _ 113 (.int .u64 (((len + b.length) % 18446744073709551616 : Nat) : Int)) h.1
    rw [hcells_setlen v tail len _ ht] at this
    exact this
  have cl := h.len_
  have fl := h.free 70
  have hsl : ∀ W, (Instr.sliceAt 111 (.pointer (some ⟨g, 6, none⟩)) (some (.int .i64 ((len : Int) % 64))) none none).run Try.prog W = .ok (.slice (some ⟨g, 6 + len % 64, none⟩) (64 - len % 64) (64 - len % 64)) W := fun W => by
    have := run_tail_from (g := g) (len % 64) (by omega) W
    rw [Int.natCast_emod] at this
    exact this
  have hb1 : BAt (w.setCell ⟨g, 70, none⟩ (.int .u64 (IntKind.u64.wrap ((len : Int) + (b.length : Int))))) w.heap.size A b := hb.set _ hne
  have R : ∀ w', w'.heap[g]? = some (.cells (splice (hcells v tail ((len + b.length) % 18446744073709551616)) (6 + len % 64) (bcells (b.take (64 - len % 64)))).toArray 113 (0, 0)) → (w.setCell ⟨g, 70, none⟩ (.int .u64 (IntKind.u64.wrap ((len : Int) + (b.length : Int))))).grownBy w' (some g) → AbsR w g v tail len b w' := fun w' q1 q2 => by
    rw [hcells_splice v tail _ _ _ (by rw [List.length_take]; omega)] at q1
    exact ⟨⟨q1, fillT_length tail _ b ht (by omega), by omega⟩, grownBy_trans (grownBy_setCell (World.grownBy.refl w _) 70 _) q2⟩
  have hcs : (bcells (b.take (64 - len % 64))).length = 64 - len % 64 := by rw [bcells_length, List.length_take]; omega
  have hn : (bcells (b.take (64 - len % 64))).length = Nat.min b.length (64 - len % 64) := by rw [hcs]; exact (Nat.min_eq_right (by omega)).symm
  have hfit : 6 + len % 64 + (bcells (b.take (64 - len % 64))).length ≤ (hcells v tail ((len + b.length) % 18446744073709551616)).length := by rw [hcs, hcells_len v tail _ ht]; omega
  have hpos : 0 < (bcells (b.take (64 - len % 64))).length → ∃ ad, A = some ad ∧ ∀ j u, (bcells (b.take (64 - len % 64)))[j]? = some u → (w.setCell ⟨g, 70, none⟩ (.int .u64 (IntKind.u64.wrap ((len : Int) + (b.length : Int))))).cell? (ad.add j) = some u := by
    exact fun hp => (hb1.takeB (64 - len % 64)).cells hp
  have H1 := Lib.hid h1.1
  have HN := Lib.hid hn
  have HF := Lib.hid hfit
  have HP := Lib.hid hpos
  have HR := Lib.hid R
  have HCS := Lib.hid hcs
  have HQ := Lib.hid hq
  have HBAT := Lib.hid hb
  have HNE := Lib.hid hne
  have HCAP := Lib.hid hcap
  have HBL := Lib.hid hl
  clear h h1 hb hb1 hne R hcs hn hfit hpos e ht hq
  go_enter Try.func69, Try.ntmps69
  go_wp2_with ((with_reducible refine wpList_copy_row (o := ⟨some 28, _, _, _, _, _⟩) rfl (.tmp 26) (.tmp 27) 29 29 rfl 5 Try.underlying29 ?_ (some ⟨g, 6 + len % 64, none⟩) A (64 - len % 64) (64 - len % 64) b.length c ?_ ?_ g (6 + len % 64) _ 113 H1.out _ HN.out (fun hp => ⟨rfl, HP.out hp⟩) HF.out (bcells_one _) ?_); kernel_rfl; rfl; rfl; intro w1 q1 q2; have HA := Lib.hid (HR.out w1 q1 q2); clear q1 q2; rw [HCS.out])
  obtain ⟨hh1, hg1⟩ := HA.out
  obtain ⟨c1, c2, c3, c4, c5⟩ := hh1.word0
  obtain ⟨X, hX⟩ : ∃ X, X = aftI (fillT tail (len % 64) b) v := ⟨_, rfl⟩
  have HAF := Lib.hid (after_hash hh1 (some ⟨g, 6, none⟩) 64 _ w1.drew (Below.refl _ w1).drew hh1.bat hh1.2.1 X hX)
  have HX := Lib.hid hX
  have hta := fun W => run_tail_all (g := g) W
  clear hh1 hg1 hX
  refine wp_region_noPanic ?_
  refine wp_region_any (by kernel_rfl) ?_
  try (change wpAny _ _ _ _ _ _ _ (World.drew _))
  refine take_at 0 33 (v := ?_) rfl rfl (by kernel_rfl) (by kernel_rfl) (by kernel_rfl) (fun _ _ _ h => h) (Or.inl ⟨by rfl, ?_⟩) ?_
  rotate_left
  · (intro wx; go_simp) <;> with_reducible rfl
  simp only [Act.put, List.setIfInBounds_toArray, List.set_cons_zero, List.set_cons_succ]
  refine take_at 1 34 (v := ?_) rfl rfl (by kernel_rfl) (by kernel_rfl) (by kernel_rfl) (fun _ _ _ h => h) (Or.inl ⟨by rfl, ?_⟩) ?_
  rotate_left
  · (intro wx; go_simp) <;> with_reducible rfl
  simp only [Act.put, List.setIfInBounds_toArray, List.set_cons_zero, List.set_cons_succ]
  refine take_at 2 35 (v := ?_) rfl rfl (by kernel_rfl) (by kernel_rfl) (by kernel_rfl) (fun _ _ _ h => h) (Or.inl ⟨by rfl, ?_⟩) ?_
  rotate_left
  · (intro wx; go_simp) <;> with_reducible rfl
  simp only [Act.put, List.setIfInBounds_toArray, List.set_cons_zero, List.set_cons_succ]
  refine take_at 3 36 (v := ?_) rfl rfl (by kernel_rfl) (by kernel_rfl) (by kernel_rfl) (fun _ _ _ h => h) (Or.inl ⟨by rfl, ?_⟩) ?_
  rotate_left
  · (intro wx; go_simp) <;> with_reducible rfl
  simp only [Act.put, List.setIfInBounds_toArray, List.set_cons_zero, List.set_cons_succ]
  refine take_at 5 38 (v := ?_) rfl rfl (by kernel_rfl) (by kernel_rfl) (by kernel_rfl) (fun _ _ _ h => h) (Or.inl ⟨by rfl, ?_⟩) ?_
  rotate_left
  · (intro wx; go_simp) <;> with_reducible rfl
  simp only [Act.put, List.setIfInBounds_toArray, List.set_cons_zero, List.set_cons_succ]
  refine take_at 6 39 (v := ?_) rfl rfl (by kernel_rfl) (by kernel_rfl) (by kernel_rfl) (fun _ _ _ h => h) (Or.inl ⟨by rfl, ?_⟩) ?_
  rotate_left
  · (intro wx; go_simp) <;> with_reducible rfl
  simp only [Act.put, List.setIfInBounds_toArray, List.set_cons_zero, List.set_cons_succ]
  refine take_at 7 40 (v := ?_) rfl rfl (by kernel_rfl) (by kernel_rfl) (by kernel_rfl) (fun _ _ _ h => h) (Or.inl ⟨by rfl, ?_⟩) ?_
  rotate_left
  · (intro wx; go_simp) <;> with_reducible rfl
  simp only [Act.put, List.setIfInBounds_toArray, List.set_cons_zero, List.set_cons_succ]
  refine take_at 8 41 (v := ?_) rfl rfl (by kernel_rfl) (by kernel_rfl) (by kernel_rfl) (fun _ _ _ h => h) (Or.inl ⟨by rfl, ?_⟩) ?_
  rotate_left
  · (intro wx; go_simp) <;> with_reducible rfl
  simp only [Act.put, List.setIfInBounds_toArray, List.set_cons_zero, List.set_cons_succ]
  refine wpAny_ready (rs := [4]) (by kernel_rfl) (by simp) ?_
  refine AllReady.cons rfl (fun K hK => ?_) ?_
  · go_simp
    refine hK _ _ ?_
    clear hK K
    refine wpAny_ready (rs := [9]) (by kernel_rfl) (by simp) ?_
    refine AllReady.cons rfl (fun K hK => ?_) ?_
    · go_simp
      go_wp2_with (go_at_call 78; refine (HAF.out).mono ?_; rintro e w2 ⟨rfl, hh2, hg2⟩; have HH2 := Lib.hid hh2; have HG2 := Lib.hid hg2; obtain ⟨k1, k2, k3, k4, k5⟩ := hh2.word0; have fk := hh2.free; clear hh2 hg2)
      refine take_at 10 43 (v := ?_) rfl rfl (by kernel_rfl) (by kernel_rfl) (by kernel_rfl) (fun _ _ _ h => h) (Or.inl ⟨by rfl, ?_⟩) ?_
      rotate_left
      · (intro wx; go_simp) <;> with_reducible rfl
      simp only [Act.put, List.setIfInBounds_toArray, List.set_cons_zero, List.set_cons_succ]
      refine take_at 11 44 (v := ?_) rfl rfl (by kernel_rfl) (by kernel_rfl) (by kernel_rfl) (fun _ _ _ h => h) (Or.inl ⟨by rfl, ?_⟩) ?_
      rotate_left
      · (intro wx; go_simp) <;> with_reducible rfl
      simp only [Act.put, List.setIfInBounds_toArray, List.set_cons_zero, List.set_cons_succ]
      refine wpAny_ready (rs := [12]) (by kernel_rfl) (by simp) ?_
      refine AllReady.cons rfl (fun K hK => ?_) ?_
      · go_simp
        refine hK _ _ ?_
        clear hK K
        refine wpAny_done (by kernel_rfl) ?_ _
        refine NoPanic.normal ?_
        obtain ⟨hh3, hg3⟩ := HH2.out.setw X
        have hgw : w.grownBy (((((w2.setCell ⟨g, 1, none⟩ (.int .u32 X.a)).setCell ⟨g, 2, none⟩ (.int .u32 X.b)).setCell ⟨g, 3, none⟩ (.int .u32 X.c)).setCell ⟨g, 4, none⟩ (.int .u32 X.d)).setCell ⟨g, 5, none⟩ (.int .u32 X.e)) (some g) := grownBy_trans (grownBy_trans HA.out.2 HG2.out) hg3
        generalize (((((w2.setCell ⟨g, 1, none⟩ (.int .u32 X.a)).setCell ⟨g, 2, none⟩ (.int .u32 X.b)).setCell ⟨g, 3, none⟩ (.int .u32 X.c)).setCell ⟨g, 4, none⟩ (.int .u32 X.d)).setCell ⟨g, 5, none⟩ (.int .u32 X.e)) = W3 at hh3 hgw ⊢
        have hq := HQ.out
        have hcap := HCAP.out
        have R0 : AbsRel w g X (fillT tail (len % 64) b) ((len + b.length) % 18446744073709551616) (b.drop (64 - len % 64)) (.slice (cutA A c (64 - len % 64)) (b.length - (64 - len % 64)) (c - (64 - len % 64))) W3 := by
          have hx0 : BAt w w.heap.size (cutA A c (64 - len % 64)) (b.drop (64 - len % 64)) := HBAT.out.cut (by omega) hcap
          have hn0 := cut_ne (k := 64 - len % 64) HBAT.out hcap HNE.out
          refine ⟨0, cutA A c (64 - len % 64), c - (64 - len % 64), by omega, by rw [Nat.mul_zero, Nat.sub_zero, List.length_drop], by rw [List.length_drop]; omega, ?_, ?_, hh3, hgw⟩
          · rw [Nat.mul_zero, List.drop_zero]
            exact (hx0.grown (Nat.le_refl _) hgw hn0).more hgw.size
          · rw [Nat.mul_zero, List.drop_zero]
            exact hn0
        have HR0 := Lib.hid R0
        have hcut : ∀ W, (Instr.slice 29 (.slice A b.length c) (some (.int .i64 ((64 - len % 64 : Nat) : Int))) none none).run Try.prog W = .ok (.slice (cutA A c (64 - len % 64)) (b.length - (64 - len % 64)) (c - (64 - len % 64))) W := fun W => run_cut A b.length c (64 - len % 64) (by omega) W
        clear hh3 hg3 hgw R0 k1 k2 k3 k4 k5 fk HAF HH2 HG2 HA HP HR HN HF H1 HCS c1 c2 c3 c4 c5 hsl cl fl hq hcap hta
        go_wp2
        clear hcut
        obtain ⟨r, hr⟩ : ∃ r, b.drop (64 - len % 64) = r := ⟨_, rfl⟩
        obtain ⟨T, hT⟩ : ∃ T, fillT tail (len % 64) b = T := ⟨_, rfl⟩
        obtain ⟨L, hL⟩ : ∃ L, (len + b.length) % 18446744073709551616 = L := ⟨_, rfl⟩
        have hrl : r.length ≤ 900000 := by rw [← hr, List.length_drop]; have := HBL.out; omega
        rw [hr, hT, hL] at HR0
        have HE := Lib.hid (show AbsB w g v tail len b = AbsE w g X T L r from by unfold AbsB; rw [hr, hT, hL, ← hT, ← HX.out])
        clear HX HBAT HNE HQ HCAP HBL hr hT hL hl hlen
        go_loopw [1] (AbsRel w g X T L r) (fun v _ => sliceLen v)
        case atStart => exact HR0.out
        case round =>
          obtain ⟨i, A', c', hi, rfl, hc', hx, hn, hh, hgw⟩ := hrel
          clear HR0
          by_cases hge : 64 ≤ r.length - 64 * i
          · have hxl : ((r.drop (64 * i)).take 64).length = 64 := by rw [List.length_take, List.length_drop]; omega
            have hdl : (r.drop (64 * i)).length = r.length - 64 * i := List.length_drop
            obtain ⟨X', hX'⟩ : ∃ X', X' = aftI ((r.drop (64 * i)).take 64) (blkI X r i) := ⟨_, rfl⟩
            have R : ∀ w2, HashIs w2 g (blkI X r i) T L → wr.grownBy w2 (some g) → AbsRel w g X T L r (.slice (cutA A' c' 64) (r.length - 64 * i - 64) (c' - 64)) (((((w2.setCell ⟨g, 1, none⟩ (.int .u32 X'.a)).setCell ⟨g, 2, none⟩ (.int .u32 X'.b)).setCell ⟨g, 3, none⟩ (.int .u32 X'.c)).setCell ⟨g, 4, none⟩ (.int .u32 X'.d)).setCell ⟨g, 5, none⟩ (.int .u32 X'.e)) := by
              intro w2 h2 g2
              obtain ⟨h3, g3⟩ := h2.setw X'
              have g4 := grownBy_trans g2 g3
              refine ⟨i + 1, cutA A' c' 64, c' - 64, by omega, by rw [show r.length - 64 * (i + 1) = r.length - 64 * i - 64 from by omega], by omega, ?_, ?_, ?_, grownBy_trans hgw g4⟩
              · have hx1 := hx.cut (k := 64) (c := c') (by omega) (by omega)
                have hn1 := cut_ne (k := 64) (c := c') hx (by omega) hn
                rw [List.drop_drop, show 64 * i + 64 = 64 * (i + 1) from by omega] at hx1 hn1
                exact (hx1.grown (Nat.le_refl _) g4 hn1).more g4.size
              · have hn1 := cut_ne (k := 64) (c := c') hx (by omega) hn
                rw [List.drop_drop, show 64 * i + 64 = 64 * (i + 1) from by omega] at hn1
                exact hn1
              · rw [show blkI X r (i + 1) = X' from hX'.symm]
                exact h3
            have HR := Lib.hid R
            obtain ⟨c1, c2, c3, c4, c5⟩ := hh.word0
            have HAF := Lib.hid (fun W hb => after_hash hh (headA A' c') c' _ W hb (hx.head (k := 64) (by omega)) hxl X' hX')
            have hhead : ∀ W, (Instr.slice 29 (.slice A' (r.length - 64 * i) c') none (some (.int .i64 64)) none).run Try.prog W = .ok (.slice (headA A' c') 64 c') W := fun W => run_head A' (r.length - 64 * i) c' 64 (by omega) W
            have hcut : ∀ W, (Instr.slice 29 (.slice A' (r.length - 64 * i) c') (some (.int .i64 64)) none none).run Try.prog W = .ok (.slice (cutA A' c' 64) (r.length - 64 * i - 64) (c' - 64)) W := fun W => run_cut A' (r.length - 64 * i) c' 64 (by omega) W
            obtain ⟨n, hn'⟩ : ∃ n, r.length - 64 * i = n := ⟨_, rfl⟩
            rw [hn'] at hge HR hhead hcut ⊢
            have hn9 : n ≤ 900000 := by omega
            clear hx hn hh hgw R hxl hdl hX' hc' hi
            go_wp2
            refine wp_region_noPanic ?_
            refine wp_region_any (by kernel_rfl) ?_
            try (change wpAny _ _ _ _ _ _ _ (World.drew _))
            refine take_at 0 51 (v := ?_) rfl rfl (by kernel_rfl) (by kernel_rfl) (by kernel_rfl) (fun _ _ _ h => h) (Or.inl ⟨by rfl, ?_⟩) ?_
            rotate_left
            · (intro wx; go_simp) <;> with_reducible rfl
            simp only [Act.put, List.setIfInBounds_toArray, List.set_cons_zero, List.set_cons_succ]
            refine take_at 1 52 (v := ?_) rfl rfl (by kernel_rfl) (by kernel_rfl) (by kernel_rfl) (fun _ _ _ h => h) (Or.inl ⟨by rfl, ?_⟩) ?_
            rotate_left
            · (intro wx; go_simp) <;> with_reducible rfl
            simp only [Act.put, List.setIfInBounds_toArray, List.set_cons_zero, List.set_cons_succ]
            refine take_at 2 53 (v := ?_) rfl rfl (by kernel_rfl) (by kernel_rfl) (by kernel_rfl) (fun _ _ _ h => h) (Or.inl ⟨by rfl, ?_⟩) ?_
            rotate_left
            · (intro wx; go_simp) <;> with_reducible rfl
            simp only [Act.put, List.setIfInBounds_toArray, List.set_cons_zero, List.set_cons_succ]
            refine take_at 3 54 (v := ?_) rfl rfl (by kernel_rfl) (by kernel_rfl) (by kernel_rfl) (fun _ _ _ h => h) (Or.inl ⟨by rfl, ?_⟩) ?_
            rotate_left
            · (intro wx; go_simp) <;> with_reducible rfl
            simp only [Act.put, List.setIfInBounds_toArray, List.set_cons_zero, List.set_cons_succ]
            refine take_at 5 56 (v := ?_) rfl rfl (by kernel_rfl) (by kernel_rfl) (by kernel_rfl) (fun _ _ _ h => h) (Or.inl ⟨by rfl, ?_⟩) ?_
            rotate_left
            · (intro wx; go_simp) <;> with_reducible rfl
            simp only [Act.put, List.setIfInBounds_toArray, List.set_cons_zero, List.set_cons_succ]
            refine take_at 6 57 (v := ?_) rfl rfl (by kernel_rfl) (by kernel_rfl) (by kernel_rfl) (fun _ _ _ h => h) (Or.inl ⟨by rfl, ?_⟩) ?_
            rotate_left
            · (intro wx; go_simp) <;> with_reducible rfl
            simp only [Act.put, List.setIfInBounds_toArray, List.set_cons_zero, List.set_cons_succ]
            refine wpAny_ready (rs := [4]) (by kernel_rfl) (by simp) ?_
            refine AllReady.cons rfl (fun K hK => ?_) ?_
            · go_simp
              refine hK _ _ ?_
              clear hK K
              refine wpAny_ready (rs := [7]) (by kernel_rfl) (by simp) ?_
              refine AllReady.cons rfl (fun K hK => ?_) ?_
              · go_simp
                go_wp2_with (go_at_call 78; refine (HAF.out _ ((Below.refl _ wr).drew)).mono ?_; rintro e w2 ⟨rfl, hh2, hg2⟩; have HH2 := Lib.hid hh2; have HG2 := Lib.hid hg2; obtain ⟨k1, k2, k3, k4, k5⟩ := hh2.word0; have fk := hh2.free; clear hh2 hg2)
                refine take_at 8 59 (v := ?_) rfl rfl (by kernel_rfl) (by kernel_rfl) (by kernel_rfl) (fun _ _ _ h => h) (Or.inl ⟨by rfl, ?_⟩) ?_
                rotate_left
                · (intro wx; go_simp) <;> with_reducible rfl
                simp only [Act.put, List.setIfInBounds_toArray, List.set_cons_zero, List.set_cons_succ]
                refine take_at 9 60 (v := ?_) rfl rfl (by kernel_rfl) (by kernel_rfl) (by kernel_rfl) (fun _ _ _ h => h) (Or.inl ⟨by rfl, ?_⟩) ?_
                rotate_left
                · (intro wx; go_simp) <;> with_reducible rfl
                simp only [Act.put, List.setIfInBounds_toArray, List.set_cons_zero, List.set_cons_succ]
                refine wpAny_ready (rs := [10]) (by kernel_rfl) (by simp) ?_
                refine AllReady.cons rfl (fun K hK => ?_) ?_
                · go_simp
                  refine hK _ _ ?_
                  clear hK K
                  refine wpAny_done (by kernel_rfl) ?_ _
                  refine NoPanic.normal ?_
                  have HRX := Lib.hid (HR.out w2 HH2.out HG2.out)
                  generalize (((((w2.setCell ⟨g, 1, none⟩ (.int .u32 X'.a)).setCell ⟨g, 2, none⟩ (.int .u32 X'.b)).setCell ⟨g, 3, none⟩ (.int .u32 X'.c)).setCell ⟨g, 4, none⟩ (.int .u32 X'.d)).setCell ⟨g, 5, none⟩ (.int .u32 X'.e)) = W3 at HRX ⊢
                  clear k1 k2 k3 k4 k5 fk HAF HH2 HG2 HR c1 c2 c3 c4 c5 hhead
                  go_wp2
                  go_roundw
                  case rel => exact HRX.out
                  case measure => simp only [sliceLen]; omega
                exact AllReady.nil
              exact AllReady.nil
            exact AllReady.nil
          · have hdl : (r.drop (64 * i)).length = r.length - 64 * i := List.length_drop
            have hi' : r.length / 64 = i := by omega
            have hbl : (bcells (r.drop (64 * i))).length = r.length - 64 * i := by rw [bcells_length, hdl]
            have hTl : T.length = 64 := hh.2.1
            have R : ∀ w2, w2.heap[g]? = some (.cells (splice (hcells (blkI X r i) T L) (6 + 0) (bcells (r.drop (64 * i)))).toArray 113 (0, 0)) → wr.grownBy w2 (some g) → AbsE w g X T L r w2 := by
              intro w2 h2 g2
              rw [hcells_splice _ _ _ _ _ (by omega)] at h2
              unfold AbsE
              rw [hi']
              exact ⟨⟨h2, by rw [length_splice _ _ _ (by omega)]; exact hTl, hh.2.2⟩, grownBy_trans hgw g2⟩
            have HR := Lib.hid R
            have HH := Lib.hid hh.1
            have HP : Hid (0 < (bcells (r.drop (64 * i))).length → ∃ ad, A' = some ad ∧ ∀ j u, (bcells (r.drop (64 * i)))[j]? = some u → wr.cell? (ad.add j) = some u) := Lib.hid (fun hp => hx.cells hp)
            have HN : Hid ((bcells (r.drop (64 * i))).length = Nat.min (r.length - 64 * i) 64) := Lib.hid (by rw [hbl]; exact (Nat.min_eq_left (by omega)).symm)
            have HF : Hid (6 + 0 + (bcells (r.drop (64 * i))).length ≤ (hcells (blkI X r i) T L).length) := Lib.hid (by rw [hbl, hcells_len _ T _ hTl]; omega)
            have hta := fun W => run_tail_all (g := g) W
            obtain ⟨n, hn'⟩ : ∃ n, r.length - 64 * i = n := ⟨_, rfl⟩
            rw [hn'] at hge HN ⊢
            have hn9 : n ≤ 900000 := by omega
            clear hx hn hh hgw R hdl hc' hi hi' hbl hTl hcap
            go_wp2_with ((with_reducible refine wpList_copy_row (o := ⟨some 68, _, _, _, _, _⟩) rfl (.tmp 66) (.tmp 67) 29 29 rfl 5 Try.underlying29 ?_ (some ⟨g, 6 + 0, none⟩) A' 64 64 n c' ?_ ?_ g (6 + 0) _ 113 HH.out _ HN.out (fun hp => ⟨rfl, HP.out hp⟩) HF.out (bcells_one _) ?_); kernel_rfl; rfl; rfl; intro w2 q1 q2; have HA := Lib.hid (HR.out w2 q1 q2); clear q1 q2)
            refine bodyPost_end (results_none rfl _ _ _) rfl ?_
            exact ⟨rfl, by rw [HE.out]; exact HA.out⟩
      exact AllReady.nil
    exact AllReady.nil
  exact AllReady.nil
end
end Go.Proofs.Ytjiiignbejbiiaa
end
