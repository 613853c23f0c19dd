/- Contract of Xor of package ident. Conditions: an id has 20 bytes. Contract of Prefix of package ident. Conditions: an id has 20 bytes. A hash that no call made has nothing: for every text. Every call of a nil hash, and of one that is a plain Hash, answers its zero value. No condition. Regions that draw their order and whose calls only make memory of their own: one walk, in every world that keeps what lay below a bound. No condition. The walk of the statement IdentFar of this seat: it answers true for every three ids. No condition. Contracts of the reference's Bit. Conditions: an id has 20 bytes. Contracts of package ident that say how memory grows: what stood stays, and draws only add up. Conditions: an id has 20 bytes. Contracts of Cmp of package ident and of the closure that sorts, that say how memory grows. Conditions: an id has 20 bytes. -/
import Derived.Test.YtehgpnnfjgmiiaaGreatVOja
import Derived.Test.YtehgpnnfjgmiiaaGreatVObd
import Derived.Test.YtehgpnnfjgmiiaaGreatVIiv
import Derived.Test.YtehgpnnfjgmiiaaGreatVObc
import Derived.Test.YtehgpnnfjgmiiaaGreatVROcc
import Derived.Test.YtehgpnnfjgmiiaaGreatVRERefb
import Derived.Test.YtehgpnnfjgmiiaaGreatVRKCdk
import Derived.Test.YtehgpnnfjgmiiaaGreatVRIip
import Derived.Test.YtehgpnnfjgmiiaaGreatVREOctc
import Derived.Test.YtehgpnnfjgmiiaaGreatVNAAcb
import Derived.Laws.BitsAllLaws
import Derived.Lib.SlBytesConst
import Derived.LoopTactic
import Derived.Stop.BytesEq
import Derived.BigQuiet
import Derived.Lib.ConvBytes
import Derived.StillTailTactics
import Derived.Sort.Grow
section
namespace Go.Proofs.YtehgpnnfjgmiiaaGreat
set_option maxRecDepth 100000
set_option maxHeartbeats 1000000
open Go.RowKit

/-- Two ids, the first j bytes mixed. -/
def mixL (xs ys : List UInt8) (j : Nat) : List UInt8 := (List.range 20).map fun i => if i < j then xs.getD i 0 ^^^ ys.getD i 0 else xs.getD i 0
theorem mixL_length (xs ys : List UInt8) (j : Nat) : (mixL xs ys j).length = 20 := by simp [mixL]
theorem mixL_zero (xs ys : List UInt8) (hx : xs.length = 20) : mixL xs ys 0 = xs := by
  apply List.ext_getElem
  · rw [mixL_length, hx]
  · intro i h1 h2
    simp [mixL, List.getElem?_eq_getElem h2]
theorem mixL_full (xs ys : List UInt8) (hx : xs.length = 20) (hy : ys.length = 20) : mixL xs ys 20 = xorL xs ys := by
  apply List.ext_getElem
  · rw [mixL_length, xorL_length (hx.trans hy.symm), hx]
  · intro i h1 h2
    have h3 : i < 20 := by rwa [mixL_length] at h1
    simp [mixL, xorL, h3, List.getElem?_eq_getElem (show i < xs.length by omega), List.getElem?_eq_getElem (show i < ys.length by omega)]
theorem mixL_get (xs ys : List UInt8) (j : Nat) (hj : j < 20) : (bcells (mixL xs ys j))[j]? = some (.int .u8 ((xs.getD j 0).toNat : Int)) := by
  simp [bcells, mixL, hj]
theorem mixL_succ (xs ys : List UInt8) (j : Nat) (hj : j < 20) : (bcells (mixL xs ys j)).toArray.setIfInBounds j (.int .u8 ((xs.getD j 0 ^^^ ys.getD j 0).toNat : Int)) = (bcells (mixL xs ys (j + 1))).toArray := by
  rw [List.setIfInBounds_toArray]
  congr 1
  apply List.ext_getElem
  · simp [bcells, mixL]
  · intro i h1 h2
    have h3 : i < 20 := by simpa [bcells, mixL] using h2
    rw [List.getElem_set]
    by_cases hij : j = i
    · subst hij
      simp [bcells, mixL]
    · rw [if_neg hij]
      simp only [bcells, mixL, List.getElem_map, List.getElem_range]
      by_cases hlt : i < j
      · rw [if_pos hlt, if_pos (by omega)]
      · rw [if_neg hlt, if_neg (by omega)]

theorem zero26 (W : World) : (zeroValue 24).run Tryz.prog W = .ok (.agg (bcells (List.replicate 20 0)).toArray) W := zero61 W
theorem size26 : (Tryz.prog.info? 24).map (·.size) = some 20 := size61

def XorRel (w : World) (xs ys : List UInt8) (i : Value) (wr : World) : Prop :=
  ∃ j : Nat, j ≤ 20 ∧ i = .int .i64 (j : Int) ∧ wr.heap[w.heap.size]? = some (.cells (bcells (mixL xs ys j)).toArray 24 (0, 0)) ∧ wr.heap[w.heap.size + 1]? = some (.cells (bcells ys).toArray 24 (0, 0)) ∧ wr.heap[w.heap.size + 1 + 1]? = some (.cells (bcells (List.replicate 20 0)).toArray 24 (0, 0)) ∧ Below w.heap.size w wr

theorem heap3 (w : World) (a b x : Obj) :
    (((w.alloc a).alloc b).alloc x).heap[w.heap.size]? = some a ∧ (((w.alloc a).alloc b).alloc x).heap[w.heap.size + 1]? = some b ∧ (((w.alloc a).alloc b).alloc x).heap[w.heap.size + 1 + 1]? = some x ∧ Below w.heap.size w (((w.alloc a).alloc b).alloc x) := by
  refine ⟨?_, ?_, ?_, ((((Below.refl _ w).alloc (Nat.le_refl _) _).alloc (by simp) _).alloc (by simp; omega) _)⟩
  all_goals
    show (((w.heap.push a).push b).push x)[_]? = _
    simp only [Array.getElem?_push, Array.size_push]
    repeat (first | rw [if_pos trivial] | rw [if_pos (by omega)] | rw [if_neg (by omega)])

end Go.Proofs.YtehgpnnfjgmiiaaGreat
end
section
namespace Go.Proofs.YtehgpnnfjgmiiaaGreat
set_option maxRecDepth 100000
set_option maxHeartbeats 1000000
open Go.RowKit

theorem pfxN_at : ∀ (j : Nat) (xs ys : List UInt8), (∀ k, k < j → xs.getD k 0 = ys.getD k 0) → j < xs.length → j < ys.length → xs.getD j 0 ≠ ys.getD j 0 → pfxN xs ys = 8 * j + lz8 (xs.getD j 0 ^^^ ys.getD j 0)
  | 0, x :: xs, y :: ys, _, _, _, h => by
    have h : x ≠ y := h
    unfold pfxN
    rw [if_neg h]
    show _ = 8 * 0 + lz8 (x ^^^ y)
    omega
  | j + 1, x :: xs, y :: ys, hk, hx, hy, h => by
    have h0 : x = y := hk 0 (by omega)
    have ih := pfxN_at j xs ys (fun k hkj => hk (k + 1) (by omega)) (by simpa using hx) (by simpa using hy) h
    unfold pfxN
    rw [if_pos h0, ih]
    show _ = 8 * (j + 1) + lz8 (xs.getD j 0 ^^^ ys.getD j 0)
    omega
theorem eq_of_getD {xs ys : List UInt8} (h : xs.length = ys.length) (hk : ∀ k, k < xs.length → xs.getD k 0 = ys.getD k 0) : xs = ys := by
  apply List.ext_getElem h
  intro i h1 h2
  have := hk i h1
  simpa [List.getElem?_eq_getElem h1, List.getElem?_eq_getElem h2] using this
theorem quiet_l2 {P : Program} {f : FuncId} {args : Array Value} {w : World} {a n : Nat} {v : Value} (h : ∀ W, Calls P f args W fun e w' => e = .returned v ∧ W = w') : Calls P f args (w.drewN (a + n)) fun e w' => e = .returned v ∧ ∃ m, w' = w.drewN (a + m) :=
  (h _).mono (by rintro e w' ⟨rfl, rfl⟩; exact ⟨rfl, n, rfl⟩)

def PfxRel (w : World) (xs ys : List UInt8) (i : Value) (wr : World) : Prop :=
  ∃ j : Nat, j ≤ 20 ∧ i = .int .i64 (j : Int) ∧ (∀ k, k < j → xs.getD k 0 = ys.getD k 0) ∧ wr.heap[w.heap.size]? = some (.cells (bcells xs).toArray 24 (0, 0)) ∧ wr.heap[w.heap.size + 1]? = some (.cells (bcells ys).toArray 24 (0, 0)) ∧ Below w.heap.size w wr
theorem row_byte {w : World} {g : Nat} {xs : List UInt8} {ty : TypeId} (h : w.heap[g]? = some (.cells (bcells xs).toArray ty (0, 0))) (j : Nat) (hj : j < xs.length) : w.cell? ⟨g, j, none⟩ = some (.int .u8 ((xs.getD j 0).toNat : Int)) := by
  rw [cell_of_row w _ j _ ty (0, 0) h, List.getElem?_toArray, bcells_get xs j hj, List.getD_eq_getElem?_getD, List.getElem?_eq_getElem hj]
  rfl

end Go.Proofs.YtehgpnnfjgmiiaaGreat
end
section
namespace Go.Proofs.YtehgpnnfjgmiiaaGreat
set_option maxRecDepth 100000
open Go.RowKit Go.Great
set_option linter.unusedVariables false
set_option linter.unusedSimpArgs false

theorem eq61 (xs ys : List UInt8) (hx : xs.length = 20) (hy : ys.length = 20) (W : World) : (Op.equalIn 10000 24 (.agg (bcells xs).toArray) (.agg (bcells ys).toArray)).run Tryz.prog W = .ok (xs == ys) W :=
  run_equalIn_bytes W 9998 24 5 20 Tryz.underlying24 Tryz.underlying5 (fun w => by
    obtain ⟨i0, hi, hz0, hz1, hz2⟩ := info_parts info5
    simp [sizeOf, typeInfo, hi, hz1]) xs ys hx hy
end Go.Proofs.YtehgpnnfjgmiiaaGreat
end
section
namespace Go.Proofs.YtehgpnnfjgmiiaaGreat
set_option maxRecDepth 100000
open Go.RowKit

theorem load26 {w : World} {g : Nat} {xs : List UInt8} (hx : xs.length = 20) (h : w.heap[g]? = some (.cells (bcells xs).toArray 24 (0, 0))) : (loadVar 24 ⟨g, 0, none⟩).run Tryz.prog w = .ok (.agg (bcells xs).toArray) w :=
  run_loadVar_mid w g 0 24 (bcells xs) _ (row_range h) Tryz.underlying24 rfl (by rw [bcells_length, hx]; exact size26)

end Go.Proofs.YtehgpnnfjgmiiaaGreat
end
section
namespace Go.Proofs.YtehgpnnfjgmiiaaGreat
set_option maxRecDepth 100000
set_option maxHeartbeats 400000
open Go.RowKit Go.Great

theorem xor_len {a b : List UInt8} (ha : a.length = 20) (hb : b.length = 20) : (xorL a b).length = 20 := (xorL_length (ha.trans hb.symm)).trans ha

end Go.Proofs.YtehgpnnfjgmiiaaGreat
end
section
namespace Go.Proofs.YtehgpnnfjgmiiaaGreat
set_option maxRecDepth 100000
set_option maxHeartbeats 400000
open Go.RowKit Go.Great

theorem size42 : (Tryz.prog.info? 87).map (·.size) = some 20 := by kernel_rfl
end Go.Proofs.YtehgpnnfjgmiiaaGreat
end
section
namespace Go.Proofs.YtehgpnnfjgmiiaaGreat
set_option maxRecDepth 100000
set_option maxHeartbeats 1000000
open Go.RowKit

/-- w' is w, some draws and some blocks on. -/
def Grows (w w' : World) : Prop := Below w.heap.size w w' ∧ w.drawn ≤ w'.drawn
theorem Grows.refl (w : World) : Grows w w := ⟨Below.refl _ _, Nat.le_refl _⟩
theorem Grows.trans {a b c : World} (h : Grows a b) (k : Grows b c) : Grows a c := ⟨h.1.trans (k.1.mono h.1.size), Nat.le_trans h.2 k.2⟩
theorem Grows.alloc (w : World) (o : Obj) : Grows w (w.alloc o) := ⟨(Below.refl _ w).alloc (Nat.le_refl _) _, Nat.le_refl _⟩
theorem Grows.drewN (w : World) (n : Nat) : Grows w (w.drewN n) := ⟨below_drewN (Below.refl _ _) n, Nat.le_add_right _ _⟩
theorem Grows.form {w w' : World} (h : Grows w w') : ∃ q os', w' = Sort.grow (w.drewN q) os' := by
  refine ⟨w'.drawn - w.drawn, w'.heap.extract w.heap.size w'.heap.size, ?_⟩
  obtain ⟨hb, hd⟩ := h
  have hh : w'.heap = w.heap ++ w'.heap.extract w.heap.size w'.heap.size := by
    apply Array.ext_getElem?
    intro i
    by_cases hi : i < w.heap.size
    · rw [Array.getElem?_append_left hi]
      exact hb.block i hi
    · rw [Array.getElem?_append_right (by omega), Array.getElem?_extract]
      by_cases h2 : i < w'.heap.size
      · rw [if_pos (by omega)]
        congr 1
        omega
      · rw [if_neg (by omega), Array.getElem?_eq_none (by omega)]
  cases w'
  simp only [Sort.grow, World.drewN] at *
  have e1 := hb.os
  have e2 := hb.tape
  have e3 := hb.output
  simp only at e1 e2 e3
  congr 1
  · omega

theorem bit_g (xs : List UInt8) (hx : xs.length = 20) (j : Nat) (hj : j < 160) (w : World) :
    Calls Tryz.prog 136 #[.agg (bcells xs).toArray, .int .i64 (j : Int)] w fun e w' => e = .returned (.int .i64 (if bitL xs j then 1 else 0)) ∧ Grows w w' := by
  obtain ⟨X, hX⟩ : ∃ X, X = (bcells xs).toArray := ⟨_, rfl⟩
  have hm := and_mask' (xs.getD (j / 8) 0) (7 - j % 8) (by omega)
  rw [show (xs.getD (j / 8) 0).toNat.testBit (7 - j % 8) = bitL xs j from rfl] at hm
  have HMK := Lib.hid (fun W => mask_any j W hj)
  obtain ⟨q, hq⟩ : ∃ q, j / 8 = q := ⟨_, rfl⟩
  rw [hq] at hm
  have hq2 : q < 20 := by omega
  have hc : ∀ W : World, (W.alloc (.cells X 24)).cell? ⟨W.heap.size, q, none⟩ = some (.int .u8 ((xs.getD q 0).toNat : Int)) := fun W => by
    rw [cell_of_row _ _ q _ 24 (0, 0) (heap_alloc_new W _), hX, List.getElem?_toArray, bcells_get xs _ (by omega), List.getD_eq_getElem?_getD, List.getElem?_eq_getElem (by omega)]
    rfl
  generalize (xs.getD q 0).toNat = b at hc hm
  generalize hM : ((2 ^ (7 - j % 8) : Nat) : Int) = M at hm
  have hMp : M ≠ 0 := by rw [← hM]; have := Nat.two_pow_pos (7 - j % 8); omega
  rw [hM] at HMK
  have HP := Lib.hid (fun W => isPlace_yes (j : Int) W (by omega) (by omega))
  have hd : (j : Int) / 8 = (q : Int) := by omega
  rw [← hX]
  clear hX hx hM hq hj
  cases hbit : bitL xs j
  all_goals
    rw [hbit] at hm
    go_enter Tryz.func136, Tryz.ntmps136
    go_wp2
    go_quiet (first | (go_at_call 142; exact quiet_l HP.out) | (go_at_call 143; exact quiet_l HMK.out))
    go_wp2
    go_ret
    exact ⟨rfl, (Grows.alloc w _).trans (Grows.drewN _ _)⟩

def PfxRelG (w : World) (xs ys : List UInt8) (i : Value) (wr : World) : Prop := PfxRel w xs ys i wr ∧ w.drawn ≤ wr.drawn
theorem prefix_g (xs ys : List UInt8) (hx : xs.length = 20) (hy : ys.length = 20) (w : World) :
    Calls Tryz.prog 137 #[.agg (bcells xs).toArray, .agg (bcells ys).toArray] w fun e w' => e = .returned (.int .i64 (pfxN xs ys : Int)) ∧ Grows w w' := by
  obtain ⟨X, hX⟩ : ∃ X, X = (bcells xs).toArray := ⟨_, rfl⟩
  obtain ⟨Y, hY⟩ : ∃ Y, Y = (bcells ys).toArray := ⟨_, rfl⟩
  rw [← hX, ← hY]
  have HE := Lib.hid (And.intro hX (And.intro hY (And.intro hx hy)))
  clear hX hY hx hy
  go_enter Tryz.func137, Tryz.ntmps137
  go_wp2
  have R0 : PfxRelG w xs ys (.int .i64 0) ((w.alloc (.cells X 24)).alloc (.cells Y 24)) := by
    obtain ⟨h1, h2, h4⟩ := heap2 w (.cells X 24) (.cells Y 24)
    obtain ⟨e1, e2, e4, e5⟩ := HE.out
    refine ⟨⟨0, by omega, rfl, fun k hk => by omega, ?_, ?_, h4⟩, ((Grows.alloc w _).trans (Grows.alloc _ _)).2⟩
    · rw [h1, e1]
    · rw [h2, e2]
  have HR0 := Lib.hid R0
  clear R0
  go_loopw [6] (PfxRelG w xs ys) (fun i _ => 20 - (intOf i).toNat)
  case atStart => exact HR0.out
  case round =>
    obtain ⟨⟨j, hj, rfl, hk, hq, hr, hb⟩, hdr⟩ := hrel
    clear HR0
    obtain ⟨_, _, hx, hy⟩ := HE.out
    by_cases hlt : j < 20
    · have c1 := row_byte hq j (by omega)
      have c2 := row_byte hr j (by omega)
      by_cases hne : xs.getD j 0 = ys.getD j 0
      · have R : ∀ n, PfxRelG w xs ys (.int .i64 ((j : Int) + 1)) (wr.drewN n) := by
          intro n
          refine ⟨⟨j + 1, by omega, by go_num, fun k hkj => ?_, hq, hr, below_drewN hb n⟩, Nat.le_trans hdr (Nat.le_add_right _ _)⟩
          by_cases hkj' : k = j
          · rw [hkj']
            exact hne
          · exact hk k (by omega)
        have HR := Lib.hid R
        rw [← hne] at c2
        generalize (xs.getD j 0).toNat = a at c1 c2
        clear hq hr hb R HE hx hy hk hne hdr
        go_wp2
        go_quiet (fail)
        go_wp2
        go_roundw
        case rel => exact HR.out _
        case measure => simp [intOf]; omega
      · have hp := pfxN_at j xs ys hk (by omega) (by omega) hne
        have hbx : bits .xor .u8 ((xs.getD j 0).toNat : Int) ((ys.getD j 0).toNat : Int) = ((xs.getD j 0 ^^^ ys.getD j 0).toNat : Int) := by
          rw [u8_xor_nat _ _ (UInt8.toNat_lt _) (UInt8.toNat_lt _), UInt8.toNat_xor]
        have hnn : ((xs.getD j 0).toNat : Int) ≠ ((ys.getD j 0).toNat : Int) := fun e => hne (UInt8.toNat.inj (by omega))
        have hl8 : lz8 (xs.getD j 0 ^^^ ys.getD j 0) ≤ 8 := by unfold lz8; repeat (first | omega | split)
        have HL := Lib.hid (fun W => lz_any (xs.getD j 0 ^^^ ys.getD j 0) W)
        have HB : Hid (∀ n, Grows w (wr.drewN n)) := Lib.hid (fun n => ⟨below_drewN hb n, Nat.le_trans hdr (Nat.le_add_right _ _)⟩)
        have HP := Lib.hid hp
        generalize lz8 (xs.getD j 0 ^^^ ys.getD j 0) = l at HP HL hl8
        generalize (xs.getD j 0 ^^^ ys.getD j 0).toNat = c at hbx HL
        generalize (xs.getD j 0).toNat = a at c1 hbx hnn
        generalize (ys.getD j 0).toNat = b at c2 hbx hnn
        clear hq hr hb HE hx hy hk hne hp hdr
        go_wp2
        go_quiet (fail)
        go_wp2
        go_quiet (first | (go_at_call 144; exact quiet_l HL.out) | (go_at_call 144; exact quiet_l2 HL.out))
        go_wp2
        go_ret
        refine ⟨congrArg (fun x => Ending.returned (.int .i64 x)) ?_, (HB.out _).trans (Grows.drewN _ _)⟩
        have := HP.out
        omega
    · obtain rfl : j = 20 := by omega
      have he := eq_of_getD (hx.trans hy.symm) (fun k hkx => hk k (by omega))
      have hp := (pfxN_spec xs ys (hx.trans hy.symm)).2.2.2 he
      rw [hx] at hp
      have HB : Hid (Grows w wr) := Lib.hid ⟨hb, hdr⟩
      have HP := Lib.hid hp
      clear hq hr hb hk he hp HE hx hy hdr
      go_wp2
      go_ret
      exact ⟨by rw [HP.out]; rfl, HB.out⟩
end Go.Proofs.YtehgpnnfjgmiiaaGreat
end
section
namespace Go.Proofs.YtehgpnnfjgmiiaaGreat
set_option maxRecDepth 100000
set_option maxHeartbeats 1000000
open Go.RowKit

structure KeptD (W0 : World) where
  val : World
  property : Grows W0 val
instance (W0 : World) : Nonempty (KeptD W0) := ⟨⟨W0, Grows.refl _⟩⟩
theorem wp_region_keptD {P : Program} {id : Nat} {Q : Exit → Act → World → Prop} {a : Act} {w : World} {l : List Oper} (W0 : World) (hW : Grows W0 w) (hm : P.follows .mixedOrders = true) (hB : Region.lexB .any l.toArray = true)
    (h : wpQuiet P l.toArray (fun w' => ∃ n : KeptD W0, w' = n.val) (fun a' => ∀ w', (∃ n : KeptD W0, w' = n.val) → Q .normal a' w') l a) : (Code.region id l.toArray true).wp P Q a w :=
  wp_region_quiet (C := fun w' => ∃ n : KeptD W0, w' = n.val) hm hB ⟨⟨w.drewN 1, hW.trans (Grows.drewN _ _)⟩, rfl⟩ (by simpa using h)
theorem keptD_of {P : Program} {f : FuncId} {args : Array Value} {v : Value} {W0 : World} (h : ∀ W, Calls P f args W fun e w' => e = .returned v ∧ Grows W w') (n : KeptD W0) :
    Calls P f args n.val fun e w' => e = .returned v ∧ ∃ m : KeptD W0, w' = m.val :=
  (h n.val).mono (by rintro e w' ⟨rfl, hb⟩; exact ⟨rfl, ⟨w', n.property.trans hb⟩, rfl⟩)
theorem keptD_row {g : Nat} {W0 : World} {o : Obj} (h : W0.heap[g]? = some o) (hg : g < W0.heap.size) (n : KeptD W0) : n.val.heap[g]? = some o := (n.property.1.block g hg).trans h
theorem quiet_loadD {P : Program} {W0 : World} {o : Oper} {a : Act} {K : Act → Prop} (ty : TypeId) (x : Operand) (ho : o.op = .load ty x) (p : Addr) (hx : a.eval x = .pointer (some p)) (v : Value) (hl : ∀ n : KeptD W0, (loadVar ty p).run P n.val = .ok v n.val)
    (hk : K (a.put o.dst v)) : o.quiet P a (fun w' => ∃ n : KeptD W0, w' = n.val) K :=
  ⟨v, fun w ⟨n, hn⟩ => by
    subst hn
    unfold Oper.quietAt execOp
    simp only [ho, hx, Instr.loadAt, Instr.sureAddr, Sem.run_bind, Sem.run_pure, Result.andThen_ok, hl n]
    exact ⟨rfl, rfl⟩, hk⟩

theorem cmp_g (xs ys : List UInt8) (hx : xs.length = 20) (hy : ys.length = 20) (w : World) :
    Calls Tryz.prog 128 #[.agg (bcells xs).toArray, .agg (bcells ys).toArray] w fun e w' => e = .returned (.int .i64 (cmpL xs ys)) ∧ Grows w w' := by
  have hP := fun W => prefix_g xs ys hx hy W
  have hBt := fun (p : Nat) (hp : p < 160) W => bit_g xs hx p hp W
  have he : ∀ W, (Op.equalIn 10000 24 (.agg (bcells xs).toArray) (.agg (bcells ys).toArray)).run Tryz.prog W = .ok (xs == ys) W := fun W => eq61 xs ys hx hy W
  obtain ⟨X, hX⟩ : ∃ X, X = (bcells xs).toArray := ⟨_, rfl⟩
  obtain ⟨Y, hY⟩ : ∃ Y, Y = (bcells ys).toArray := ⟨_, rfl⟩
  obtain ⟨W0, hW0⟩ : ∃ W0, W0 = (w.alloc (.cells X 24)).alloc (.cells Y 24) := ⟨_, rfl⟩
  obtain ⟨h1, h2, _⟩ := heap2 w (.cells X 24) (.cells Y 24)
  have h4 := (Grows.alloc w (.cells X 24)).trans (Grows.alloc _ (.cells Y 24))
  rw [← hW0] at h1 h2 h4
  have hs0 : W0.heap.size = w.heap.size + 2 := by rw [hW0]; simp
  have l1 : ∀ n : KeptD W0, (loadVar 24 ⟨w.heap.size, 0, none⟩).run Tryz.prog n.val = .ok (.agg X) n.val := fun n => by
    rw [hX] at h1 ⊢
    exact load26 hx (keptD_row h1 (by omega) n)
  have l2 : ∀ n : KeptD W0, (loadVar 24 ⟨w.heap.size + 1, 0, none⟩).run Tryz.prog n.val = .ok (.agg Y) n.val := fun n => by
    rw [hY] at h2 ⊢
    exact load26 hy (keptD_row h2 (by omega) n)
  have HL1 := Lib.hid l1
  have HL2 := Lib.hid l2
  have HK1 : Hid ((loadVar 24 ⟨w.heap.size, 0, none⟩).run Tryz.prog ((w.alloc (.cells X 24)).alloc (.cells Y 24)) = .ok (.agg X) ((w.alloc (.cells X 24)).alloc (.cells Y 24))) := Lib.hid (by rw [← hW0]; exact l1 ⟨W0, Grows.refl _⟩)
  have HK2 : Hid ((loadVar 24 ⟨w.heap.size + 1, 0, none⟩).run Tryz.prog ((w.alloc (.cells X 24)).alloc (.cells Y 24)) = .ok (.agg Y) ((w.alloc (.cells X 24)).alloc (.cells Y 24))) := Lib.hid (by rw [← hW0]; exact l2 ⟨W0, Grows.refl _⟩)
  simp only [← hX, ← hY] at hP he ⊢
  simp only [← hX] at hBt
  have HP := Lib.hid hP
  have HB := Lib.hid hBt
  have HW := Lib.hid hW0
  have HBL := Lib.hid h4
  clear hP hBt h1 h2 h4 hX hY l1 l2 hW0 hs0
  by_cases hxy : xs = ys
  · have he' : ∀ W, (Op.equalIn 10000 24 (.agg X) (.agg Y)).run Tryz.prog W = .ok true W := fun W => by rw [he, hxy]; simp
    have hc : cmpL xs ys = 0 := by unfold cmpL; rw [if_pos hxy]
    rw [hc]
    clear he hc hxy
    go_enter Tryz.func128, Tryz.ntmps128
    go_wp2_with (first
      | ((with_reducible refine wpList_loadV (op := ⟨some 5, _, _, _, _, _⟩) rfl 24 (.tmp 2) rfl _ ?_ _ HK1.out ?_); rfl)
      | ((with_reducible refine wpList_loadV (op := ⟨some 6, _, _, _, _, _⟩) rfl 24 (.tmp 3) rfl _ ?_ _ HK2.out ?_); rfl))
    go_ret
    exact ⟨rfl, by rw [← HW.out]; exact HBL.out⟩
  · have he' : ∀ W, (Op.equalIn 10000 24 (.agg X) (.agg Y)).run Tryz.prog W = .ok false W := fun W => by rw [he]; simp [hxy]
    have hp := ((pfxN_spec xs ys (hx.trans hy.symm)).2.2.1 hxy).1
    rw [hx] at hp
    have hc : cmpL xs ys = if bitL xs (pfxN xs ys) then 1 else -1 := by unfold cmpL; rw [if_neg hxy]
    have HB2 := Lib.hid (fun W => HB.out (pfxN xs ys) (by omega) W)
    rw [hc]
    generalize pfxN xs ys = p at HB2 HP ⊢
    clear he hc hxy HB hp hx hy
    cases hb : bitL xs p
    all_goals
      rw [hb] at HB2
      simp only [Bool.false_eq_true, if_false, if_true] at HB2 ⊢
      clear hb
      go_enter Tryz.func128, Tryz.ntmps128
      go_wp2_with (first
        | ((with_reducible refine wpList_loadV (op := ⟨some 5, _, _, _, _, _⟩) rfl 24 (.tmp 2) rfl _ ?_ _ HK1.out ?_); rfl)
        | ((with_reducible refine wpList_loadV (op := ⟨some 6, _, _, _, _, _⟩) rfl 24 (.tmp 3) rfl _ ?_ _ HK2.out ?_); rfl))
      rw [← HW.out]
      refine wp_region_keptD W0 (Grows.refl _) (by kernel_rfl) (by kernel_rfl) ?_
      repeat (first
        | (go_big_quiet_want; (with_reducible refine quiet_loadD 24 (.tmp 2) rfl _ ?_ _ HL1.out ?_); rfl; simp only [Act.put, List.setIfInBounds_toArray, List.set_cons_zero, List.set_cons_succ]; go_big_quiet_on)
        | (go_big_quiet_want; (with_reducible refine quiet_loadD 24 (.tmp 3) rfl _ ?_ _ HL2.out ?_); rfl; simp only [Act.put, List.setIfInBounds_toArray, List.set_cons_zero, List.set_cons_succ]; go_big_quiet_on)
        | go_big_quiet_step (first | (go_at_call 137; exact keptD_of HP.out _) | (go_at_call 136; exact keptD_of HB2.out _)))
      refine wpQuiet_nil ?_
      rintro _ ⟨⟨wk, hwk⟩, rfl⟩
      go_wp2
      go_ret
      exact ⟨rfl, HBL.out.trans hwk⟩

end Go.Proofs.YtehgpnnfjgmiiaaGreat
end
