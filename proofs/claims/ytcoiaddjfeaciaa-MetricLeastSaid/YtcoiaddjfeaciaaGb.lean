/- Contracts of the small functions of package ident: places, masks, leading zeros. Conditions: numbers are ints. Contract of Bit of package ident. Conditions: an id has 20 bytes. One step of a region that draws its order, with its slot given: plain lemmas over any program. No condition. A reader of package octet in memory, and contracts of the calls that read: Num, Take, Text, Left, Bad, Done. Conditions: the bytes that are left are fewer than 900,000. Contracts of Take and Text of a reader of package octet that was opened, and of Open. Conditions: the bytes that are left are fewer than 900,000; a number that comes in is an int. One step of a region that draws its order, with its slot given: plain lemmas over any program. No condition. A reader of the program and one of the reference side by side in memory. Conditions: the bytes are fewer than 900,000; a number that comes in is an int. Numbers and texts that are put and read again: plain lemmas without a program. No condition. The walk of the law OctetBack: its pieces. Conditions: the arguments are values of their types. -/
import Derived.Test.YtcoiaddjfeaciaaGa
import Derived.LoopTactic
import Derived.Deep.MidRow
import Derived.BigQuiet
import Derived.RegionTactic
import Derived.RegionCalls
import Derived.WalkKit
import Derived.Deep.RegionHeld3
import Derived.Deep.QuietTactic
section
namespace Go.Proofs.Ytcoiaddjfeaciaa
set_option maxRecDepth 100000
open Go.RowKit

theorem isPlace_yes (i : Int) (w : World) (h1 : 0 ≤ i) (h2 : i < 160) : Calls Try.prog 62 #[.int .i64 i] w fun e w' => e = .returned (.bool true) ∧ w = w' := by
  go_enter Try.func62, Try.ntmps62
  go_wp2
  go_ret
  exact ⟨rfl, rfl⟩
theorem isPlace_no (i : Int) (w : World) (h : ¬ (0 ≤ i ∧ i < 160)) : Calls Try.prog 62 #[.int .i64 i] w fun e w' => e = .returned (.bool false) ∧ w = w' := by
  by_cases h1 : 0 ≤ i
  · have h2 : ¬ i < 160 := by omega
    clear h
    go_enter Try.func62, Try.ntmps62
    go_wp2
    go_ret
    exact ⟨rfl, rfl⟩
  · clear h
    go_enter Try.func62, Try.ntmps62
    go_wp2
    go_ret
    exact ⟨rfl, rfl⟩
theorem pow_mask (j : Nat) : ((2 : Int) ^ (7 - j % 8) % 256) = ((2 ^ (7 - j % 8) : Nat) : Int) := by
  have h : j % 8 = 0 ∨ j % 8 = 1 ∨ j % 8 = 2 ∨ j % 8 = 3 ∨ j % 8 = 4 ∨ j % 8 = 5 ∨ j % 8 = 6 ∨ j % 8 = 7 := by omega
  rcases h with h | h | h | h | h | h | h | h <;> rw [h] <;> rfl
theorem mask_any (j : Nat) (w : World) (h : j < 160) : Calls Try.prog 63 #[.int .i64 (j : Int)] w fun e w' => e = .returned (.int .u8 ((2 ^ (7 - j % 8) : Nat) : Int)) ∧ w = w' := by
  go_enter Try.func63, Try.ntmps63
  go_wp2
  go_ret
  exact ⟨congrArg (fun x => Ending.returned (.int .u8 x)) (pow_mask j), rfl⟩
theorem ba_get (t : ByteArray) (n : Nat) (h : n < t.size) : t[n] = t.data.toList.getD n 0 := by
  have h' : n < t.data.toList.length := h
  rw [List.getD_eq_getElem?_getD, List.getElem?_eq_getElem h']
  rfl
theorem len8_any (z : UInt8) (w : World) : Calls Try.prog 84 #[.int .u8 (z.toNat : Int)] w fun e w' => e = .returned (.int .i64 ((8 - lz8 z : Nat) : Int)) ∧ w = w' := by
  have hz : (z.toNat : Int) < 256 := by have := z.toNat_lt; omega
  go_enter Try.func84, Try.ntmps84
  go_wp2
  go_ret
  refine ⟨congrArg (fun x => Ending.returned (.int .i64 x)) ?_, rfl⟩
  rw [ba_get]
  clear hz
  obtain ⟨⟨⟨n, hn⟩⟩⟩ := z
  revert n
  decide +kernel
theorem lz_any (z : UInt8) (w : World) : Calls Try.prog 64 #[.int .u8 (z.toNat : Int)] w fun e w' => e = .returned (.int .i64 (lz8 z : Int)) ∧ w = w' := by
  have h8 : lz8 z ≤ 8 := by unfold lz8; repeat (first | omega | split)
  have HL := Lib.hid (len8_any z)
  have e1 : ((8 - lz8 z : Nat) : Int) = 8 - (lz8 z : Int) := by omega
  rw [e1] at HL
  generalize hn : (lz8 z : Int) = n at HL ⊢
  have h0 : 0 ≤ n ∧ n ≤ 8 := by omega
  clear hn e1 h8
  go_enter Try.func64, Try.ntmps64
  go_wp2_with (go_at_call 84; refine (HL.out _).mono ?_; rintro e w1 ⟨rfl, rfl⟩)
  go_ret
  refine ⟨congrArg (fun x => Ending.returned (.int .i64 x)) ?_, rfl⟩
  omega
end Go.Proofs.Ytcoiaddjfeaciaa
end
section
namespace Go.Proofs.Ytcoiaddjfeaciaa
set_option maxRecDepth 100000
set_option maxHeartbeats 1000000
open Go.RowKit

theorem and_mask : ∀ (z : Fin 256) (k : Fin 8), bits .and .u8 (z.val : Int) ((2 ^ k.val : Nat) : Int) = if z.val.testBit k.val then ((2 ^ k.val : Nat) : Int) else 0 := by decide +kernel
theorem and_mask' (z : UInt8) (k : Nat) (h : k < 8) : bits .and .u8 (z.toNat : Int) ((2 ^ k : Nat) : Int) = if z.toNat.testBit k then ((2 ^ k : Nat) : Int) else 0 := and_mask ⟨z.toNat, z.toNat_lt⟩ ⟨k, h⟩

theorem quiet_l {P : Program} {f : FuncId} {args : Array Value} {w : World} {n : Nat} {v : Value} (h : ∀ W, Calls P f args W fun e w' => e = .returned v ∧ W = w') : Calls P f args (w.drewN n) fun e w' => e = .returned v ∧ ∃ m, w' = w.drewN m :=
  (h _).mono (by rintro e w' ⟨rfl, rfl⟩; exact ⟨rfl, n, rfl⟩)
theorem below_drewN {B : Nat} {a w : World} (h : Below B a w) (n : Nat) : Below B a (w.drewN n) := ⟨h.os, h.tape, h.output, h.size, h.block⟩
theorem bit_yes (xs : List UInt8) (hx : xs.length = 20) (j : Nat) (hj : j < 160) (w : World) :
    Calls Try.prog 24 #[.agg (bcells xs).toArray, .int .i64 (j : Int)] w fun e w' => e = .returned (.int .i64 (if bitL xs j then 1 else 0)) ∧ Below w.heap.size w w' := by
  obtain ⟨X, hX⟩ : ∃ X, X = (bcells xs).toArray := ⟨_, rfl⟩
  have hm := and_mask' (xs.getD (j / 8) 0) (7 - j % 8) (by omega)
  rw [show (xs.getD (j / 8) 0).toNat.testBit (7 - j % 8) = bitL xs j from rfl] at hm
  have HMK := Lib.hid (fun W => mask_any j W hj)
  obtain ⟨q, hq⟩ : ∃ q, j / 8 = q := ⟨_, rfl⟩
  rw [hq] at hm
  have hq2 : q < 20 := by omega
  have hc : ∀ W : World, (W.alloc (.cells X 26)).cell? ⟨W.heap.size, q, none⟩ = some (.int .u8 ((xs.getD q 0).toNat : Int)) := fun W => by
    rw [cell_of_row _ _ q _ 26 (0, 0) (heap_alloc_new W _), hX, List.getElem?_toArray, bcells_get xs _ (by omega), List.getD_eq_getElem?_getD, List.getElem?_eq_getElem (by omega)]
    rfl
  generalize (xs.getD q 0).toNat = b at hc hm
  generalize hM : ((2 ^ (7 - j % 8) : Nat) : Int) = M at hm
  have hMp : M ≠ 0 := by rw [← hM]; have := Nat.two_pow_pos (7 - j % 8); omega
  rw [hM] at HMK
  have HP := Lib.hid (fun W => isPlace_yes (j : Int) W (by omega) (by omega))
  have hd : (j : Int) / 8 = (q : Int) := by omega
  rw [← hX]
  clear hX hx hM hq hj
  cases hbit : bitL xs j
  · rw [hbit] at hm
    go_enter Try.func24, Try.ntmps24
    go_wp2
    go_quiet (first | (go_at_call 62; exact quiet_l HP.out) | (go_at_call 63; exact quiet_l HMK.out))
    go_wp2
    go_ret
    exact ⟨rfl, below_drewN ((Below.refl _ w).alloc (Nat.le_refl _) _) _⟩
  · rw [hbit] at hm
    go_enter Try.func24, Try.ntmps24
    go_wp2
    go_quiet (first | (go_at_call 62; exact quiet_l HP.out) | (go_at_call 63; exact quiet_l HMK.out))
    go_wp2
    go_ret
    exact ⟨rfl, below_drewN ((Below.refl _ w).alloc (Nat.le_refl _) _) _⟩
theorem bit_no (X : Array Value) (i : Int) (h : ¬ (0 ≤ i ∧ i < 160)) (w : World) :
    Calls Try.prog 24 #[.agg X, .int .i64 i] w fun e w' => e = .returned (.int .i64 0) ∧ Below w.heap.size w w' := by
  have HP := Lib.hid (fun W => isPlace_no i W h)
  clear h
  go_enter Try.func24, Try.ntmps24
  go_wp2
  go_quiet ((go_at_call 62; exact quiet_l HP.out))
  go_wp2
  go_ret
  exact ⟨rfl, below_drewN ((Below.refl _ w).alloc (Nat.le_refl _) _) _⟩
end Go.Proofs.Ytcoiaddjfeaciaa
end
section
namespace Go.Proofs.Ytcoiaddjfeaciaa
set_option maxRecDepth 100000

theorem take_at {P : Program} {md : Region.Mode} {ops : Array Oper} {Q : Exit → Act → World → Prop} (i d : Nat) {oi : Oper} {v : Value} {fuel : Nat} {listed : Array Bool} {a : Act} {w : World} (hi : ops[i]? = some oi) (hd : oi.dst = some d)
    (hs : Region.noSelect ops = true) (hf : Region.free md ops listed i = true) (hr : (Region.ready md ops listed).contains i = true)
    (hQ : ∀ c a w, Q (.panic c) (a.put (some d) v) w → Q (.panic c) a w) (hy : Yields P ops oi v a)
    (h : wpAny P md ops Q fuel (listed.setIfInBounds i true) (a.put (some d) v) w) : wpAny P md ops Q (fuel + 1) listed a w :=
  wpAny_take hi hs hf hr (by rw [hd]; exact hQ) hy (by rw [hd]; exact h)

end Go.Proofs.Ytcoiaddjfeaciaa
end
section
namespace Go.Proofs.Ytcoiaddjfeaciaa
set_option maxRecDepth 100000
open Go.RowKit
set_option linter.unusedVariables false

/-- Where a slice lies from place k on, and up to a place. -/
def cutA (A : Option Addr) (c k : Nat) : Option Addr := if c = k then A else A.map (·.add k)
def headA (A : Option Addr) (c : Nat) : Option Addr := if c = 0 then A else A.map (·.add 0)

theorem addr_add (g off k : Nat) : (⟨g, off, none⟩ : Addr).add k = ⟨g, off + k, none⟩ := by
  unfold Addr.add
  split <;> simp_all

theorem BAt.cut {w : World} {B c k : Nat} {A : Option Addr} {ys : List UInt8} (h : BAt w B A ys) (hk : k ≤ ys.length) (hc : ys.length ≤ c) : BAt w B (cutA A c k) (ys.drop k) := by
  by_cases hn : ys.length = k
  · left
    exact List.drop_eq_nil_of_le (by omega)
  · obtain ⟨g, off, rfl, hg, hcell⟩ := h.some_ (by omega)
    right
    refine ⟨g, off + k, by unfold cutA; rw [if_neg (by omega), Option.map_some, addr_add], hg, fun j hj => ?_⟩
    rw [List.length_drop] at hj
    rw [Nat.add_assoc, hcell (k + j) (by omega), List.getElem_drop]
theorem BAt.head {w : World} {B c k : Nat} {A : Option Addr} {ys : List UInt8} (h : BAt w B A ys) (hc : ys.length ≤ c) : BAt w B (headA A c) (ys.take k) := by
  by_cases hn : (ys.take k).length = 0
  · left
    exact List.eq_nil_of_length_eq_zero hn
  · rw [List.length_take] at hn
    obtain ⟨g, off, rfl, hg, hcell⟩ := h.some_ (by omega)
    right
    refine ⟨g, off, by unfold headA; rw [if_neg (by omega), Option.map_some, addr_add, Nat.add_zero], hg, fun j hj => ?_⟩
    rw [List.length_take] at hj
    rw [hcell j (by omega), List.getElem_take]

theorem size5 (W : World) : (sizeOf (Try.prog.elem 22)).run Try.prog W = .ok 1 W := by
  obtain ⟨i0, hi, hz0, hz1, hz2⟩ := info_parts info5
  have : Try.prog.elem 22 = 5 := by kernel_rfl
  rw [this]
  simp [sizeOf, typeInfo, hi, hz1]
theorem under22 : Try.prog.underlying 22 = some (.slice (Try.prog.elem 22)) := by kernel_rfl

theorem run_cut (A : Option Addr) (n c k : Nat) (hk : k ≤ n) (W : World) :
    (Instr.slice 22 (.slice A n c) (some (.int .i64 (k : Int))) none none).run Try.prog W = .ok (.slice (cutA A c k) (n - k) (c - k)) W := by
  rw [run_slice_l W 22 A n c under22 .i64 k (by omega) (by omega), size5]
  simp [Result.andThen, sliced, cutA]
theorem run_head (A : Option Addr) (n c k : Nat) (hk : k ≤ c) (W : World) :
    (Instr.slice 22 (.slice A n c) none (some (.int .i64 (k : Int))) none).run Try.prog W = .ok (.slice (headA A c) k c) W := by
  rw [run_slice_h W 22 A n c under22 .i64 k (by omega) (by omega), size5]
  simp [Result.andThen, sliced, headA]

theorem grownBy_setCell {w w1 : World} {g : Nat} (h : w.grownBy w1 (some g)) (j : Nat) (u : Value) : w.grownBy (w1.setCell ⟨g, j, none⟩ u) (some g) :=
  ⟨h.os, h.tape, h.output, by simpa [World.setCell] using h.size, fun i hi hne => (Below.heap_setCell w1 ⟨g, j, none⟩ u i (by rintro rfl; exact hne rfl)).trans (h.block i hi hne)⟩

theorem BAt.set {w : World} {B g j : Nat} {A : Option Addr} {ys : List UInt8} (h : BAt w B A ys) (u : Value) (hne : ∀ g' off, A = some ⟨g', off, none⟩ → ys ≠ [] → g' ≠ g) : BAt (w.setCell ⟨g, j, none⟩ u) B A ys := by
  rcases h with rfl | ⟨g', off, rfl, hg, hc⟩
  · exact .inl rfl
  · by_cases hy : ys = []
    · exact .inl hy
    · exact .inr ⟨g', off, rfl, hg, fun i hi => (World.cell?_setCell_other w _ _ u (fun e => by
        have := hne g' off rfl hy
        simp only [Addr.mk.injEq] at e
        exact this e.1.symm)).trans (hc i hi)⟩

end Go.Proofs.Ytcoiaddjfeaciaa
end
section
namespace Go.Proofs.Ytcoiaddjfeaciaa
set_option maxRecDepth 100000
open Go.RowKit
set_option linter.unusedVariables false

section
variable {w w' : World} {g : Nat}
theorem grownBy_trans {a b c : World} {row : Option Nat} (h : a.grownBy b row) (k : b.grownBy c row) : a.grownBy c row :=
  ⟨k.os.trans h.os, k.tape.trans h.tape, k.output.trans h.output, Nat.le_trans h.size k.size, fun i hi hn => (k.block i (Nat.lt_of_lt_of_le hi h.size) hn).trans (h.block i hi hn)⟩

end
end Go.Proofs.Ytcoiaddjfeaciaa
end
section
namespace Go.Proofs.Ytcoiaddjfeaciaa
set_option maxRecDepth 100000

theorem takeH_at {P : Program} {md : Region.Mode} {ops : Array Oper} {Q : Exit → Act → World → Prop} {S : World → Prop} (i d : Nat) {oi : Oper} {v : Value} {fuel : Nat} {listed : Array Bool} {a : Act} {w : World} (hi : ops[i]? = some oi) (hd : oi.dst = some d)
    (hs : Region.noSelect ops = true) (hf : Region.free md ops listed i = true) (hr : (Region.ready md ops listed).contains i = true)
    (hQ : ∀ c a w, Q (.panic c) (a.put (some d) v) w → Q (.panic c) a w) (hy : YieldsIf P ops S oi v a) (hS : S w)
    (h : wpAnyH P md ops Q S fuel (listed.setIfInBounds i true) (a.put (some d) v) w) : wpAnyH P md ops Q S (fuel + 1) listed a w :=
  wpAnyH_take hi hs hf hr (by rw [hd]; exact hQ) hy hS (by rw [hd]; exact h)

end Go.Proofs.Ytcoiaddjfeaciaa
end
section
namespace Go.Proofs.Ytcoiaddjfeaciaa
set_option maxRecDepth 100000
open Go.RowKit
set_option linter.unusedVariables false

section
variable {w w' : World} {g h : Nat} {A : Option Addr} {c : Nat} {xs : List UInt8}

theorem BAt.grown {B x : Nat} {ys : List UInt8} (hx : BAt w B A ys) (hB : B ≤ w.heap.size) (hg : w.grownBy w' (some x)) (hne : ∀ g' off, A = some ⟨g', off, none⟩ → ys ≠ [] → g' ≠ x) : BAt w' B A ys := by
  by_cases hy : ys = []
  · exact .inl hy
  · obtain ⟨g', off, rfl, hlt, hc⟩ := hx.some_ (List.length_pos_iff.2 hy)
    exact .inr ⟨g', off, rfl, hlt, fun j hj => hg.cell (hc j hj) (fun e => hne g' off rfl hy (by injection e))⟩

variable {w0 : World}
end
end Go.Proofs.Ytcoiaddjfeaciaa
end
section
namespace Go.Proofs.Ytcoiaddjfeaciaa
set_option maxRecDepth 100000

theorem putB_succ (N k : Nat) : putB N (k + 1) = putB (N / 256) k ++ [UInt8.ofNat N] := by
  unfold putB
  rw [List.range_succ, List.map_append]
  congr 1
  · apply List.map_congr_left
    intro i hi
    have hi : i < k := by simpa using hi
    congr 1
    rw [Nat.div_div_eq_div_mul, show (256 : Nat) = 2 ^ 8 from rfl, ← Nat.pow_add]
    congr 2
    omega
  · simp

theorem getN_putB (k : Nat) : ∀ N : Nat, getN (putB N k) = N % 256 ^ k := by
  induction k with
  | zero => intro N; simp [putB, getN, Nat.mod_one]
  | succ k ih =>
    intro N
    rw [putB_succ, getN_snoc, ih]
    have h1 : (UInt8.ofNat N).toNat = N % 256 := by simp
    rw [h1, Nat.pow_succ, Nat.mul_comm (256 ^ k) 256, Nat.mod_mul]
    omega

theorem putB_getN (k : Nat) : ∀ ys : List UInt8, ys.length = k → putB (getN ys) k = ys := by
  induction k with
  | zero => intro ys h; have := List.eq_nil_of_length_eq_zero h; subst this; rfl
  | succ k ih =>
    intro ys h
    have hne : ys ≠ [] := by intro e; subst e; simp at h
    have hy := List.dropLast_concat_getLast hne
    rw [putB_succ]
    rw [← hy, getN_snoc]
    have hb := (ys.getLast hne).toNat_lt
    have e1 : (getN ys.dropLast * 256 + (ys.getLast hne).toNat) / 256 = getN ys.dropLast := by omega
    rw [e1, ih _ (by rw [List.length_dropLast]; omega)]
    congr 2
    apply UInt8.toNat.inj
    simp

/-- Parts that are put one behind the other. -/
def cat (f : Nat → List UInt8) (j : Nat) : List UInt8 := (List.range j).flatMap f
theorem cat_succ (f : Nat → List UInt8) (j : Nat) : cat f (j + 1) = cat f j ++ f j := by simp [cat, List.range_succ]
theorem cat_length (f : Nat → List UInt8) (B : Nat) (h : ∀ i, (f i).length ≤ B) (j : Nat) : (cat f j).length ≤ B * j := by
  induction j with
  | zero => simp [cat]
  | succ j ih =>
    rw [cat_succ, List.length_append, Nat.mul_succ]
    have := h j
    omega

/-- A number shifted to the left and back again. -/
theorem shift_back (N k : Nat) (h1 : 1 ≤ k) (h8 : k ≤ 8) : N * 2 ^ (64 - 8 * k) % 18446744073709551616 / 2 ^ (64 - 8 * k) = N % 256 ^ k := by
  have e1 : (18446744073709551616 : Nat) = 2 ^ (64 - 8 * k) * 256 ^ k := by
    rw [show (256 : Nat) = 2 ^ 8 from rfl, ← Nat.pow_mul, ← Nat.pow_add, show 64 - 8 * k + 8 * k = 64 from by omega]
  rw [e1, Nat.mul_comm N, Nat.mul_mod_mul_left, Nat.mul_div_cancel_left _ (Nat.two_pow_pos _)]
end Go.Proofs.Ytcoiaddjfeaciaa
end
section
namespace Go.Proofs.Ytcoiaddjfeaciaa
set_option maxRecDepth 100000
open Go.RowKit
set_option linter.unusedVariables false

/-- The address leads to the values f 0, f 1, .. (n of them), in a block below B. -/
def ValsAt (w : World) (B : Nat) (A : Option Addr) (n : Nat) (f : Nat → Value) : Prop :=
  n = 0 ∨ ∃ b off, A = some ⟨b, off, none⟩ ∧ b < B ∧ ∀ j, j < n → w.cell? ⟨b, off + j, none⟩ = some (f j)
theorem ValsAt.below {w w' : World} {B n : Nat} {A : Option Addr} {f : Nat → Value} (h : ValsAt w B A n f) (hb : Below B w w') : ValsAt w' B A n f := by
  rcases h with h | ⟨b, off, ha, hB, hc⟩
  · exact .inl h
  · exact .inr ⟨b, off, ha, hB, fun j hj => (hb.cell (p := ⟨b, off + j, none⟩) hB).trans (hc j hj)⟩

/-- A slice of bytes of the call's own, written out. -/
def OwnS (w W : World) (A : Option Addr) (c : Nat) (ys : List UInt8) : Prop := W.ownsRow w.heap.size 5 1 (.slice A ys.length c) ys.length (bcells ys)
theorem OwnS.below {w W W' : World} {A : Option Addr} {c B : Nat} {ys : List UInt8} (h : OwnS w W A c ys) (hb : Below B W W') (hB : W.heap.size ≤ B) : OwnS w W' A c ys := own_below h hb hB
theorem OwnS.bat {w W : World} {A : Option Addr} {c : Nat} {ys : List UInt8} (h : OwnS w W A c ys) : BAt W W.heap.size A ys := BAt.of_own h (Nat.le_refl _)
def PutS (w W : World) (zs : List UInt8) (e : Ending) (w' : World) : Prop :=
  ∃ A1 c1 ys', e = .returned (.slice A1 (ys' : List UInt8).length c1) ∧ Hid (ys' = zs) ∧ OwnS w w' A1 c1 ys' ∧ Below W.heap.size W w'
theorem put_sl {w W : World} {A : Option Addr} {c : Nat} {ys : List UInt8} (h : OwnS w W A c ys) (hw : w.heap.size ≤ W.heap.size) (N k : Nat) (hl : ys.length ≤ 900000) (hN : N < 18446744073709551616) (h1 : 1 ≤ k) (h8 : k ≤ 8) :
    Calls Try.prog 58 #[.slice A ys.length c, .int .u64 (N : Int), .int .i64 (k : Int)] W (PutS w W (ys ++ putB N k)) :=
  (put_yes A c N k ys W h.bat (by omega) hN h1 h8).mono fun e w' ⟨v, he, ho, hb⟩ => by
    obtain ⟨A1, c1, rfl⟩ := slice_of_own ho
    exact ⟨A1, c1, _, he, rfl, own_base ho hw, hb⟩
section
variable {w W W' : World} {g1 g2 : Nat}
variable {A : Option Addr} {c : Nat} {o : List UInt8}
end
end Go.Proofs.Ytcoiaddjfeaciaa
end
