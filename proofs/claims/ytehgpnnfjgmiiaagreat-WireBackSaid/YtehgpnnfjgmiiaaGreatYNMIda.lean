/- Bits, distances and prefixes of ids, as lists of bytes: plain lemmas without a program. No condition. Contracts of the small functions of package ident: places, masks, leading zeros. Conditions: numbers are ints. Contract of Bit of package ident. Conditions: an id has 20 bytes. Contract of the schedule of package sha. Conditions: a block has 64 bytes. Contracts of firstWords, New, isMade and id of package sha. No condition. Contract of Xor of package ident. Conditions: an id has 20 bytes. Contract of Prefix of package ident. Conditions: an id has 20 bytes. A hash that no call made has nothing: for every text. Every call of a nil hash, and of one that is a plain Hash, answers its zero value. No condition. Regions that draw their order and whose calls only make memory of their own: one walk, in every world that keeps what lay below a bound. No condition. The walk of the statement IdentFar of this seat: it answers true for every three ids. No condition. Contracts of the reference's Bit. Conditions: an id has 20 bytes. -/
import Derived.Test.YtehgpnnfjgmiiaaGreatYOja
import Derived.Test.YtehgpnnfjgmiiaaGreatYOcb
import Derived.Test.YtehgpnnfjgmiiaaGreatYOga
import Derived.Test.YtehgpnnfjgmiiaaGreatYRIis
import Derived.Test.YtehgpnnfjgmiiaaGreatYRERefc
import Derived.Test.YtehgpnnfjgmiiaaGreatYRIip
import Derived.Test.YtehgpnnfjgmiiaaGreatYREOcta
import Derived.Test.YtehgpnnfjgmiiaaGreatYNAPSrb
import Derived.Test.YtehgpnnfjgmiiaaGreatYNCcc
import Derived.Deep.RegionHeld3
import Derived.Test.YtehgpnnfjgmiiaaGreatYNCsa
import Derived.WalkKit
import Derived.Deep.AppendSrc
import Derived.Laws.BytesString
import Derived.Laws.CopyOwn
import Derived.Deep.AppendLies
import Derived.Deep.Draws
import Derived.WalkSpells
import Derived.Test.YtehgpnnfjgmiiaaGreatRows
import Derived.WalkLawsBesides
import Derived.Lib.Hide
import Derived.Outline
import Derived.Laws.BitsAllLaws
import Derived.Laws.BitsLemmas
import Derived.Laws.Bits64
import Derived.LoopTactic
import Derived.Deep.MidRow
import Derived.BigQuiet
import Derived.RegionTactic
import Derived.RegionCalls
import Derived.Deep.QuietTactic
import Derived.Deep.DeepCutAuto
import Derived.Great.BuildSlice
import Derived.Lib.SlBytesConst
import Derived.Stop.BytesEq
import Derived.Lib.ConvBytes
section
namespace Go.Proofs.YtehgpnnfjgmiiaaGreat
set_option maxRecDepth 100000
open Go.RowKit

/-- Bit i of an id, the most significant one of its first byte being 0. -/
def bitL (xs : List UInt8) (i : Nat) : Bool := (xs.getD (i / 8) 0).toNat.testBit (7 - i % 8)
def xorL (xs ys : List UInt8) : List UInt8 := List.zipWith (· ^^^ ·) xs ys
/-- The zeros ahead of a byte's first one. -/
def lz8 (z : UInt8) : Nat :=
  if 128 ≤ z.toNat then 0 else if 64 ≤ z.toNat then 1 else if 32 ≤ z.toNat then 2 else if 16 ≤ z.toNat then 3
  else if 8 ≤ z.toNat then 4 else if 4 ≤ z.toNat then 5 else if 2 ≤ z.toNat then 6 else if 1 ≤ z.toNat then 7 else 8
/-- The bits that two ids have in common. -/
def pfxN : List UInt8 → List UInt8 → Nat
  | x :: xs, y :: ys => if x = y then 8 + pfxN xs ys else lz8 (x ^^^ y)
  | _, _ => 0

theorem lz8_fin : ∀ z : Fin 256, z.val ≠ 0 → lz8 (UInt8.ofNat z.val) < 8 ∧ (∀ i : Fin 8, i.val < lz8 (UInt8.ofNat z.val) → z.val.testBit (7 - i.val) = false) ∧ z.val.testBit (7 - lz8 (UInt8.ofNat z.val)) = true := by decide +kernel
theorem lz8_spec (z : UInt8) (h : z ≠ 0) : lz8 z < 8 ∧ (∀ i, i < lz8 z → z.toNat.testBit (7 - i) = false) ∧ z.toNat.testBit (7 - lz8 z) = true := by
  have hz : z.toNat ≠ 0 := fun e => h (UInt8.toNat.inj (by simpa using e))
  have hl := z.toNat_lt
  obtain ⟨h1, h2, h3⟩ := lz8_fin ⟨z.toNat, hl⟩ hz
  simp only [UInt8.ofNat_toNat] at h1 h2 h3
  exact ⟨h1, fun i hi => h2 ⟨i, by omega⟩ hi, h3⟩

theorem xor_eq_zero {x y : UInt8} (h : x ^^^ y = 0) : x = y := UInt8.xor_eq_zero_iff.1 h

theorem byte_diff {x y : UInt8} (h : x ≠ y) : lz8 (x ^^^ y) < 8 ∧ (∀ i, i < lz8 (x ^^^ y) → x.toNat.testBit (7 - i) = y.toNat.testBit (7 - i)) ∧ x.toNat.testBit (7 - lz8 (x ^^^ y)) ≠ y.toNat.testBit (7 - lz8 (x ^^^ y)) := by
  obtain ⟨h1, h2, h3⟩ := lz8_spec (x ^^^ y) (fun e => h (xor_eq_zero e))
  refine ⟨h1, fun i hi => ?_, ?_⟩
  · have := h2 i hi
    rw [UInt8.toNat_xor, Nat.testBit_xor] at this
    simpa using this
  · rw [UInt8.toNat_xor, Nat.testBit_xor] at h3
    simpa using h3

theorem bitL_head (x : UInt8) (xs : List UInt8) (i : Nat) (h : i < 8) : bitL (x :: xs) i = x.toNat.testBit (7 - i) := by
  unfold bitL
  rw [Nat.div_eq_of_lt h, Nat.mod_eq_of_lt h]
  rfl
theorem bitL_tail (x : UInt8) (xs : List UInt8) (i : Nat) : bitL (x :: xs) (8 + i) = bitL xs i := by
  unfold bitL
  have e1 : (8 + i) / 8 = i / 8 + 1 := by omega
  have e2 : (8 + i) % 8 = i % 8 := by omega
  rw [e1, e2]
  rfl

theorem pfxN_spec : ∀ (xs ys : List UInt8), xs.length = ys.length →
    pfxN xs ys ≤ 8 * xs.length ∧ (∀ i, i < pfxN xs ys → bitL xs i = bitL ys i) ∧ (xs ≠ ys → pfxN xs ys < 8 * xs.length ∧ bitL xs (pfxN xs ys) ≠ bitL ys (pfxN xs ys)) ∧ (xs = ys → pfxN xs ys = 8 * xs.length)
  | [], [], _ => ⟨by simp [pfxN], fun i hi => by simp [pfxN] at hi, fun h => absurd rfl h, fun _ => rfl⟩
  | x :: xs, y :: ys, h => by
    have hl : xs.length = ys.length := by simpa using h
    obtain ⟨i1, i2, i3, i4⟩ := pfxN_spec xs ys hl
    unfold pfxN
    by_cases hxy : x = y
    · subst hxy
      rw [if_pos rfl]
      refine ⟨by rw [List.length_cons]; omega, fun i hi => ?_, fun hne => ?_, fun he => ?_⟩
      · by_cases h8 : i < 8
        · rw [bitL_head _ _ _ h8, bitL_head _ _ _ h8]
        · have e : i = 8 + (i - 8) := by omega
          rw [e, bitL_tail, bitL_tail]
          exact i2 _ (by omega)
      · obtain ⟨j1, j2⟩ := i3 (fun e => hne (by rw [e]))
        refine ⟨by rw [List.length_cons]; omega, ?_⟩
        rw [bitL_tail, bitL_tail]
        exact j2
      · rw [List.length_cons, i4 (by injection he)]
        omega
    · rw [if_neg hxy]
      obtain ⟨j1, j2, j3⟩ := byte_diff hxy
      refine ⟨by rw [List.length_cons]; omega, fun i hi => ?_, fun _ => ⟨by rw [List.length_cons]; omega, ?_⟩, fun he => absurd (by injection he) hxy⟩
      · rw [bitL_head _ _ _ (by omega), bitL_head _ _ _ (by omega)]
        exact j2 i hi
      · rw [bitL_head _ _ _ j1, bitL_head _ _ _ j1]
        exact j3

/-- A prefix is told by where the bits are the same. -/
theorem pfxN_unique {xs ys : List UInt8} (h : xs.length = ys.length) (n : Nat) (h1 : n ≤ 8 * xs.length) (h2 : ∀ i, i < n → bitL xs i = bitL ys i) (h3 : n < 8 * xs.length → bitL xs n ≠ bitL ys n) : pfxN xs ys = n := by
  obtain ⟨i1, i2, i3, i4⟩ := pfxN_spec xs ys h
  by_cases he : xs = ys
  · have := i4 he
    by_cases hn : n < 8 * xs.length
    · exact absurd (by rw [he]) (h3 hn)
    · omega
  · obtain ⟨j1, j2⟩ := i3 he
    by_cases hlt : n < pfxN xs ys
    · exact absurd (i2 n hlt) (h3 (by omega))
    · by_cases hgt : pfxN xs ys < n
      · exact absurd (h2 _ hgt) j2
      · omega
theorem pfxN_comm (xs ys : List UInt8) (h : xs.length = ys.length) : pfxN xs ys = pfxN ys xs := by
  obtain ⟨i1, i2, i3, i4⟩ := pfxN_spec ys xs h.symm
  refine pfxN_unique h _ (by omega) (fun i hi => (i2 i hi).symm) (fun hlt => ?_)
  by_cases he : xs = ys
  · have := i4 he.symm
    omega
  · exact (i3 (Ne.symm he)).2.symm

theorem xorL_length {xs ys : List UInt8} (h : xs.length = ys.length) : (xorL xs ys).length = xs.length := by simp [xorL, h]
/-- Which one of two ids is below. -/
def cmpL (xs ys : List UInt8) : Int := if xs = ys then 0 else if bitL xs (pfxN xs ys) then 1 else -1
theorem cmpL_neg (xs ys : List UInt8) (h : xs.length = ys.length) : cmpL xs ys = -cmpL ys xs := by
  unfold cmpL
  by_cases he : xs = ys
  · rw [if_pos he, if_pos he.symm]
    rfl
  · rw [if_neg he, if_neg (Ne.symm he), pfxN_comm ys xs h.symm]
    have := ((pfxN_spec xs ys h).2.2.1 he).2
    cases e1 : bitL xs (pfxN xs ys) <;> cases e2 : bitL ys (pfxN xs ys) <;> simp_all
end Go.Proofs.YtehgpnnfjgmiiaaGreat
end
section
namespace Go.Proofs.YtehgpnnfjgmiiaaGreat
set_option maxRecDepth 100000
open Go.RowKit

theorem isPlace_yes (i : Int) (w : World) (h1 : 0 ≤ i) (h2 : i < 160) : Calls Tryz.prog 142 #[.int .i64 i] w fun e w' => e = .returned (.bool true) ∧ w = w' := by
  go_enter Tryz.func142, Tryz.ntmps142
  go_wp2
  go_ret
  exact ⟨rfl, rfl⟩
theorem pow_mask (j : Nat) : ((2 : Int) ^ (7 - j % 8) % 256) = ((2 ^ (7 - j % 8) : Nat) : Int) := by
  have h : j % 8 = 0 ∨ j % 8 = 1 ∨ j % 8 = 2 ∨ j % 8 = 3 ∨ j % 8 = 4 ∨ j % 8 = 5 ∨ j % 8 = 6 ∨ j % 8 = 7 := by omega
  rcases h with h | h | h | h | h | h | h | h <;> rw [h] <;> rfl
theorem mask_any (j : Nat) (w : World) (h : j < 160) : Calls Tryz.prog 143 #[.int .i64 (j : Int)] w fun e w' => e = .returned (.int .u8 ((2 ^ (7 - j % 8) : Nat) : Int)) ∧ w = w' := by
  go_enter Tryz.func143, Tryz.ntmps143
  go_wp2
  go_ret
  exact ⟨congrArg (fun x => Ending.returned (.int .u8 x)) (pow_mask j), rfl⟩
theorem ba_get (t : ByteArray) (n : Nat) (h : n < t.size) : t[n] = t.data.toList.getD n 0 := by
  have h' : n < t.data.toList.length := h
  rw [List.getD_eq_getElem?_getD, List.getElem?_eq_getElem h']
  rfl
theorem len8_any (z : UInt8) (w : World) : Calls Tryz.prog 147 #[.int .u8 (z.toNat : Int)] w fun e w' => e = .returned (.int .i64 ((8 - lz8 z : Nat) : Int)) ∧ w = w' := by
  have hz : (z.toNat : Int) < 256 := by have := z.toNat_lt; omega
  have hsz : Lib.len8tab.size = 256 := by decide +kernel
  go_enter Tryz.func147, Tryz.ntmps147
  go_wp2
  go_ret
  refine ⟨congrArg (fun x => Ending.returned (.int .i64 x)) ?_, rfl⟩
  rw [ba_get]
  clear hz hsz
  obtain ⟨⟨⟨n, hn⟩⟩⟩ := z
  revert n
  decide +kernel
theorem lz_any (z : UInt8) (w : World) : Calls Tryz.prog 144 #[.int .u8 (z.toNat : Int)] w fun e w' => e = .returned (.int .i64 (lz8 z : Int)) ∧ w = w' := by
  have h8 : lz8 z ≤ 8 := by unfold lz8; repeat (first | omega | split)
  have HL := Lib.hid (len8_any z)
  have e1 : ((8 - lz8 z : Nat) : Int) = 8 - (lz8 z : Int) := by omega
  rw [e1] at HL
  generalize hn : (lz8 z : Int) = n at HL ⊢
  have h0 : 0 ≤ n ∧ n ≤ 8 := by omega
  clear hn e1 h8
  go_enter Tryz.func144, Tryz.ntmps144
  go_wp2_with (go_at_call 147; refine (HL.out _).mono ?_; rintro e w1 ⟨rfl, rfl⟩)
  go_ret
  refine ⟨congrArg (fun x => Ending.returned (.int .i64 x)) ?_, rfl⟩
  omega
end Go.Proofs.YtehgpnnfjgmiiaaGreat
end
section
namespace Go.Proofs.YtehgpnnfjgmiiaaGreat
set_option maxRecDepth 100000
set_option maxHeartbeats 1000000
open Go.RowKit

theorem and_mask : ∀ (z : Fin 256) (k : Fin 8), bits .and .u8 (z.val : Int) ((2 ^ k.val : Nat) : Int) = if z.val.testBit k.val then ((2 ^ k.val : Nat) : Int) else 0 := by decide +kernel
theorem and_mask' (z : UInt8) (k : Nat) (h : k < 8) : bits .and .u8 (z.toNat : Int) ((2 ^ k : Nat) : Int) = if z.toNat.testBit k then ((2 ^ k : Nat) : Int) else 0 := and_mask ⟨z.toNat, z.toNat_lt⟩ ⟨k, h⟩

theorem quiet_l {P : Program} {f : FuncId} {args : Array Value} {w : World} {n : Nat} {v : Value} (h : ∀ W, Calls P f args W fun e w' => e = .returned v ∧ W = w') : Calls P f args (w.drewN n) fun e w' => e = .returned v ∧ ∃ m, w' = w.drewN m :=
  (h _).mono (by rintro e w' ⟨rfl, rfl⟩; exact ⟨rfl, n, rfl⟩)
end Go.Proofs.YtehgpnnfjgmiiaaGreat
end
section
namespace Go.Proofs.YtehgpnnfjgmiiaaGreat
set_option maxRecDepth 100000
open Go.RowKit
set_option linter.unusedVariables false

theorem below_cells {B b : Nat} {a : World} (hb : B ≤ b) : ∀ (vs : List Value) (o : Nat) (w : World), Below B a w → Below B a (w.setCells b o vs)
  | [], _, _, h => h
  | _ :: vs, o, w, h => below_cells hb vs (o + 1) _ (h.setCell (p := ⟨b, o, none⟩) hb _)
end Go.Proofs.YtehgpnnfjgmiiaaGreat
end
section
namespace Go.Proofs.YtehgpnnfjgmiiaaGreat
set_option maxRecDepth 100000
open Go.RowKit Go.Great
set_option linter.unusedVariables false
set_option linter.unusedSimpArgs false

theorem size61 : (Tryz.prog.info? 24).map (·.size) = some 20 := by kernel_rfl
set_option maxRecDepth 100000 in
theorem zero61 (W : World) : (zeroValue 24).run Tryz.prog W = .ok (.agg (bcells (List.replicate 20 0)).toArray) W := by
  have hi : (Tryz.prog.info? 24).bind (·.zero) = some (.agg (bcells (List.replicate 20 0)).toArray) := by kernel_rfl
  cases h : Tryz.prog.info? 24 with
  | none => simp [h] at hi
  | some i =>
    rw [h] at hi
    simp only [Option.bind_some] at hi
    simp [zeroValue, typeInfo, h, hi]
end Go.Proofs.YtehgpnnfjgmiiaaGreat
end
section
namespace Go.Proofs.YtehgpnnfjgmiiaaGreat
set_option maxRecDepth 100000
set_option maxHeartbeats 1000000
open Go.RowKit

/-- Two ids, the first j bytes mixed. -/
def mixL (xs ys : List UInt8) (j : Nat) : List UInt8 := (List.range 20).map fun i => if i < j then xs.getD i 0 ^^^ ys.getD i 0 else xs.getD i 0
theorem mixL_length (xs ys : List UInt8) (j : Nat) : (mixL xs ys j).length = 20 := by simp [mixL]
theorem mixL_zero (xs ys : List UInt8) (hx : xs.length = 20) : mixL xs ys 0 = xs := by
  apply List.ext_getElem
  · rw [mixL_length, hx]
  · intro i h1 h2
    simp [mixL, List.getElem?_eq_getElem h2]
theorem mixL_full (xs ys : List UInt8) (hx : xs.length = 20) (hy : ys.length = 20) : mixL xs ys 20 = xorL xs ys := by
  apply List.ext_getElem
  · rw [mixL_length, xorL_length (hx.trans hy.symm), hx]
  · intro i h1 h2
    have h3 : i < 20 := by rwa [mixL_length] at h1
    simp [mixL, xorL, h3, List.getElem?_eq_getElem (show i < xs.length by omega), List.getElem?_eq_getElem (show i < ys.length by omega)]
theorem mixL_get (xs ys : List UInt8) (j : Nat) (hj : j < 20) : (bcells (mixL xs ys j))[j]? = some (.int .u8 ((xs.getD j 0).toNat : Int)) := by
  simp [bcells, mixL, hj]
theorem mixL_succ (xs ys : List UInt8) (j : Nat) (hj : j < 20) : (bcells (mixL xs ys j)).toArray.setIfInBounds j (.int .u8 ((xs.getD j 0 ^^^ ys.getD j 0).toNat : Int)) = (bcells (mixL xs ys (j + 1))).toArray := by
  rw [List.setIfInBounds_toArray]
  congr 1
  apply List.ext_getElem
  · simp [bcells, mixL]
  · intro i h1 h2
    have h3 : i < 20 := by simpa [bcells, mixL] using h2
    rw [List.getElem_set]
    by_cases hij : j = i
    · subst hij
      simp [bcells, mixL]
    · rw [if_neg hij]
      simp only [bcells, mixL, List.getElem_map, List.getElem_range]
      by_cases hlt : i < j
      · rw [if_pos hlt, if_pos (by omega)]
      · rw [if_neg hlt, if_neg (by omega)]

theorem zero26 (W : World) : (zeroValue 24).run Tryz.prog W = .ok (.agg (bcells (List.replicate 20 0)).toArray) W := zero61 W
theorem size26 : (Tryz.prog.info? 24).map (·.size) = some 20 := size61

def XorRel (w : World) (xs ys : List UInt8) (i : Value) (wr : World) : Prop :=
  ∃ j : Nat, j ≤ 20 ∧ i = .int .i64 (j : Int) ∧ wr.heap[w.heap.size]? = some (.cells (bcells (mixL xs ys j)).toArray 24 (0, 0)) ∧ wr.heap[w.heap.size + 1]? = some (.cells (bcells ys).toArray 24 (0, 0)) ∧ wr.heap[w.heap.size + 1 + 1]? = some (.cells (bcells (List.replicate 20 0)).toArray 24 (0, 0)) ∧ Below w.heap.size w wr

theorem heap3 (w : World) (a b x : Obj) :
    (((w.alloc a).alloc b).alloc x).heap[w.heap.size]? = some a ∧ (((w.alloc a).alloc b).alloc x).heap[w.heap.size + 1]? = some b ∧ (((w.alloc a).alloc b).alloc x).heap[w.heap.size + 1 + 1]? = some x ∧ Below w.heap.size w (((w.alloc a).alloc b).alloc x) := by
  refine ⟨?_, ?_, ?_, ((((Below.refl _ w).alloc (Nat.le_refl _) _).alloc (by simp) _).alloc (by simp; omega) _)⟩
  all_goals
    show (((w.heap.push a).push b).push x)[_]? = _
    simp only [Array.getElem?_push, Array.size_push]
    repeat (first | rw [if_pos trivial] | rw [if_pos (by omega)] | rw [if_neg (by omega)])

end Go.Proofs.YtehgpnnfjgmiiaaGreat
end
section
namespace Go.Proofs.YtehgpnnfjgmiiaaGreat
set_option maxRecDepth 100000
set_option maxHeartbeats 1000000
open Go.RowKit

theorem pfxN_at : ∀ (j : Nat) (xs ys : List UInt8), (∀ k, k < j → xs.getD k 0 = ys.getD k 0) → j < xs.length → j < ys.length → xs.getD j 0 ≠ ys.getD j 0 → pfxN xs ys = 8 * j + lz8 (xs.getD j 0 ^^^ ys.getD j 0)
  | 0, x :: xs, y :: ys, _, _, _, h => by
    have h : x ≠ y := h
    unfold pfxN
    rw [if_neg h]
    show _ = 8 * 0 + lz8 (x ^^^ y)
    omega
  | j + 1, x :: xs, y :: ys, hk, hx, hy, h => by
    have h0 : x = y := hk 0 (by omega)
    have ih := pfxN_at j xs ys (fun k hkj => hk (k + 1) (by omega)) (by simpa using hx) (by simpa using hy) h
    unfold pfxN
    rw [if_pos h0, ih]
    show _ = 8 * (j + 1) + lz8 (xs.getD j 0 ^^^ ys.getD j 0)
    omega
theorem eq_of_getD {xs ys : List UInt8} (h : xs.length = ys.length) (hk : ∀ k, k < xs.length → xs.getD k 0 = ys.getD k 0) : xs = ys := by
  apply List.ext_getElem h
  intro i h1 h2
  have := hk i h1
  simpa [List.getElem?_eq_getElem h1, List.getElem?_eq_getElem h2] using this
theorem quiet_l2 {P : Program} {f : FuncId} {args : Array Value} {w : World} {a n : Nat} {v : Value} (h : ∀ W, Calls P f args W fun e w' => e = .returned v ∧ W = w') : Calls P f args (w.drewN (a + n)) fun e w' => e = .returned v ∧ ∃ m, w' = w.drewN (a + m) :=
  (h _).mono (by rintro e w' ⟨rfl, rfl⟩; exact ⟨rfl, n, rfl⟩)

def PfxRel (w : World) (xs ys : List UInt8) (i : Value) (wr : World) : Prop :=
  ∃ j : Nat, j ≤ 20 ∧ i = .int .i64 (j : Int) ∧ (∀ k, k < j → xs.getD k 0 = ys.getD k 0) ∧ wr.heap[w.heap.size]? = some (.cells (bcells xs).toArray 24 (0, 0)) ∧ wr.heap[w.heap.size + 1]? = some (.cells (bcells ys).toArray 24 (0, 0)) ∧ Below w.heap.size w wr
theorem row_byte {w : World} {g : Nat} {xs : List UInt8} {ty : TypeId} (h : w.heap[g]? = some (.cells (bcells xs).toArray ty (0, 0))) (j : Nat) (hj : j < xs.length) : w.cell? ⟨g, j, none⟩ = some (.int .u8 ((xs.getD j 0).toNat : Int)) := by
  rw [cell_of_row w _ j _ ty (0, 0) h, List.getElem?_toArray, bcells_get xs j hj, List.getD_eq_getElem?_getD, List.getElem?_eq_getElem hj]
  rfl

end Go.Proofs.YtehgpnnfjgmiiaaGreat
end
section
namespace Go.Proofs.YtehgpnnfjgmiiaaGreat
set_option maxRecDepth 100000
open Go.RowKit Go.Great
set_option linter.unusedVariables false
set_option linter.unusedSimpArgs false

theorem eq61 (xs ys : List UInt8) (hx : xs.length = 20) (hy : ys.length = 20) (W : World) : (Op.equalIn 10000 24 (.agg (bcells xs).toArray) (.agg (bcells ys).toArray)).run Tryz.prog W = .ok (xs == ys) W :=
  run_equalIn_bytes W 9998 24 5 20 Tryz.underlying24 Tryz.underlying5 (fun w => by
    obtain ⟨i0, hi, hz0, hz1, hz2⟩ := info_parts info5
    simp [sizeOf, typeInfo, hi, hz1]) xs ys hx hy
end Go.Proofs.YtehgpnnfjgmiiaaGreat
end
section
namespace Go.Proofs.YtehgpnnfjgmiiaaGreat
set_option maxRecDepth 100000
open Go.RowKit

theorem load26 {w : World} {g : Nat} {xs : List UInt8} (hx : xs.length = 20) (h : w.heap[g]? = some (.cells (bcells xs).toArray 24 (0, 0))) : (loadVar 24 ⟨g, 0, none⟩).run Tryz.prog w = .ok (.agg (bcells xs).toArray) w :=
  run_loadVar_mid w g 0 24 (bcells xs) _ (row_range h) Tryz.underlying24 rfl (by rw [bcells_length, hx]; exact size26)

end Go.Proofs.YtehgpnnfjgmiiaaGreat
end
section
namespace Go.Proofs.YtehgpnnfjgmiiaaGreat
set_option maxRecDepth 100000
set_option maxHeartbeats 400000
open Go.RowKit Go.Great

theorem xor_len {a b : List UInt8} (ha : a.length = 20) (hb : b.length = 20) : (xorL a b).length = 20 := (xorL_length (ha.trans hb.symm)).trans ha

end Go.Proofs.YtehgpnnfjgmiiaaGreat
end
section
namespace Go.Proofs.YtehgpnnfjgmiiaaGreat
set_option maxRecDepth 100000
set_option maxHeartbeats 400000
open Go.RowKit Go.Great

end Go.Proofs.YtehgpnnfjgmiiaaGreat
end
