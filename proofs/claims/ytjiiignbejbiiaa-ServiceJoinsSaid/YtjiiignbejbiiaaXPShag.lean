/- A hash holds what was written: its words are those of the full blocks, its tail the rest; absorb appends. Conditions: fewer than 2^64 bytes in all, at most 900,000 at once. Contracts of firstWords, New, isMade and id of package sha. No condition. Contracts of the hash's Sum and of Sum of package sha. Conditions: at most 900,000 bytes. Contract of Xor of package ident. Conditions: an id has 20 bytes. Contract of Prefix of package ident. Conditions: an id has 20 bytes. -/
import Derived.Test.YtjiiignbejbiiaaXPShae
import Derived.Great.BuildSlice
import Derived.Laws.BitsAllLaws
section
namespace Go.Proofs.Ytjiiignbejbiiaa
set_option maxRecDepth 100000
open Go.RowKit
set_option linter.unusedVariables false
set_option linter.unusedSimpArgs false

theorem blkI_append (v : V5) (r s : List UInt8) (i : Nat) (h : 64 * i ≤ r.length) : blkI v (r ++ s) i = blkI v r i := by
  induction i with
  | zero => rfl
  | succ i ih =>
    unfold blkI
    rw [ih (by omega), List.drop_append_of_le_length (by omega), List.take_append_of_le_length (by rw [List.length_drop]; omega)]
theorem blkI_add (v : V5) (r : List UInt8) (i j : Nat) : blkI v r (i + j) = blkI (blkI v r i) (r.drop (64 * i)) j := by
  induction j with
  | zero => rfl
  | succ j ih =>
    rw [← Nat.add_assoc]
    show aftI ((r.drop (64 * (i + j))).take 64) (blkI v r (i + j)) = aftI (((r.drop (64 * i)).drop (64 * j)).take 64) _
    rw [ih, List.drop_drop, Nat.mul_add]
def V0 : V5 := ⟨1732584193, 4023233417, 2562383102, 271733878, 3285377520⟩
/-- The words behind a text's full blocks. -/
def wordsOf (m : List UInt8) : V5 := blkI V0 m (m.length / 64)
/-- The hash at g has been written m. -/
def HashOf (w : World) (g : Nat) (m : List UInt8) : Prop :=
  ∃ tail, HashIs w g (wordsOf m) tail m.length ∧ tail.take (m.length % 64) = m.drop (64 * (m.length / 64))

theorem splice_take (tail cs : List UInt8) (q : Nat) (h : q + cs.length ≤ tail.length) : (splice tail q cs).take (q + cs.length) = tail.take q ++ cs := by
  unfold splice
  rw [← List.append_assoc, List.take_append_of_le_length (by rw [List.length_append, List.length_take]; omega), List.take_of_length_le (by rw [List.length_append, List.length_take]; omega)]

section
variable {w w' : World} {g : Nat} {m : List UInt8}
theorem small_of (h : HashOf w g m) (b : List UInt8) (hlen : m.length + b.length < 18446744073709551616) (hq : m.length % 64 + b.length < 64) (tail : List UInt8) (ht : tail.length = 64) (hT : tail.take (m.length % 64) = m.drop (64 * (m.length / 64))) {w1 : World} (hr : AbsR w g (wordsOf m) tail m.length b w1) : HashOf w1 g (m ++ b) ∧ w.grownBy w1 (some g) := by
  obtain ⟨h1, h2⟩ := hr
  refine ⟨⟨fillT tail (m.length % 64) b, ?_, ?_⟩, h2⟩
  · have e1 : (m ++ b).length / 64 = m.length / 64 := by rw [List.length_append]; omega
    have e2 : wordsOf (m ++ b) = wordsOf m := by unfold wordsOf; rw [e1, blkI_append _ _ _ _ (by omega)]
    rw [e2, List.length_append]
    rw [Nat.mod_eq_of_lt hlen] at h1
    exact h1
  · have e1 : (m ++ b).length / 64 = m.length / 64 := by rw [List.length_append]; omega
    have e3 : (m ++ b).length % 64 = m.length % 64 + b.length := by rw [List.length_append]; omega
    have e4 : b.take (64 - m.length % 64) = b := List.take_of_length_le (by omega)
    rw [e1, e3]
    unfold fillT
    rw [e4, splice_take _ _ _ (by omega), hT, List.drop_append_of_le_length (by omega)]
theorem big_of (h : HashOf w g m) (b : List UInt8) (hlen : m.length + b.length < 18446744073709551616) (hq : 64 ≤ m.length % 64 + b.length) (tail : List UInt8) (ht : tail.length = 64) (hT : tail.take (m.length % 64) = m.drop (64 * (m.length / 64))) {w1 : World} (hr : AbsB w g (wordsOf m) tail m.length b w1) : HashOf w1 g (m ++ b) ∧ w.grownBy w1 (some g) := by
  obtain ⟨h1, h2⟩ := hr
  have hm : (m ++ b).length = m.length + b.length := List.length_append
  have hdm : m.drop (64 * (m.length / 64)) ++ b = (m ++ b).drop (64 * (m.length / 64)) := (List.drop_append_of_le_length (by omega)).symm
  have hdl : (m.drop (64 * (m.length / 64))).length = m.length % 64 := by rw [List.length_drop]; omega
  have hF : fillT tail (m.length % 64) b = ((m ++ b).drop (64 * (m.length / 64))).take 64 := by
    have l1 : (b.take (64 - m.length % 64)).length = 64 - m.length % 64 := by rw [List.length_take]; omega
    have l2 := fillT_length tail (m.length % 64) b ht (by omega)
    have := splice_take tail (b.take (64 - m.length % 64)) (m.length % 64) (by omega)
    rw [l1, show m.length % 64 + (64 - m.length % 64) = 64 from by omega, List.take_of_length_le (by unfold fillT at l2; omega)] at this
    unfold fillT
    rw [this, hT, ← hdm, List.take_append, hdl, List.take_of_length_le (l := m.drop (64 * (m.length / 64))) (by omega)]
  have hX : aftI (fillT tail (m.length % 64) b) (wordsOf m) = blkI V0 (m ++ b) (m.length / 64 + 1) := by
    rw [hF]
    unfold wordsOf
    rw [← blkI_append V0 m b (m.length / 64) (by omega)]
    rfl
  have hR : b.drop (64 - m.length % 64) = (m ++ b).drop (64 * (m.length / 64 + 1)) := by
    have dn : (m.drop (64 * (m.length / 64))).drop 64 = [] := List.drop_eq_nil_of_le (by omega)
    rw [Nat.mul_add, Nat.mul_one, ← List.drop_drop, ← hdm, List.drop_append, hdl, dn, List.nil_append]
  have hRl : (b.drop (64 - m.length % 64)).length = m.length + b.length - 64 * (m.length / 64 + 1) := by rw [hR, List.length_drop, hm]
  have hn : (m ++ b).length / 64 = m.length / 64 + 1 + (b.drop (64 - m.length % 64)).length / 64 := by rw [hm, hRl]; omega
  refine ⟨⟨splice (fillT tail (m.length % 64) b) 0 ((b.drop (64 - m.length % 64)).drop (64 * ((b.drop (64 - m.length % 64)).length / 64))), ?_, ?_⟩, h2⟩
  · have e : wordsOf (m ++ b) = blkI (aftI (fillT tail (m.length % 64) b) (wordsOf m)) (b.drop (64 - m.length % 64)) ((b.drop (64 - m.length % 64)).length / 64) := by
      unfold wordsOf
      rw [hn, blkI_add, ← hR]
      rw [show aftI (fillT tail (m.length % 64) b) (blkI V0 m (m.length / 64)) = blkI V0 (m ++ b) (m.length / 64 + 1) from hX]
    rw [e, hm]
    rw [Nat.mod_eq_of_lt hlen] at h1
    exact h1
  · have l2 := fillT_length tail (m.length % 64) b ht (by omega)
    have l3 : ((b.drop (64 - m.length % 64)).drop (64 * ((b.drop (64 - m.length % 64)).length / 64))).length = (m ++ b).length % 64 := by rw [List.length_drop, hRl, hm]; omega
    have := splice_take (fillT tail (m.length % 64) b) ((b.drop (64 - m.length % 64)).drop (64 * ((b.drop (64 - m.length % 64)).length / 64))) 0 (by omega)
    rw [l3, Nat.zero_add, List.take_zero, List.nil_append] at this
    rw [this, hn]
    rw [hR, List.drop_drop]
    congr 1
    omega

theorem absorb_of (h : HashOf w g m) (A : Option Addr) (c : Nat) (b : List UInt8) (hb : BAt w w.heap.size A b) (hc : b.length ≤ c) (hl : b.length ≤ 900000) (hm : m.length ≤ 900000) (hne : ∀ g' off, A = some ⟨g', off, none⟩ → b ≠ [] → g' ≠ g) :
    Calls Try.prog 69 #[.pointer (some ⟨g, 0, none⟩), .slice A b.length c] w fun e w' => e = .returned (.tuple #[]) ∧ HashOf w' g (m ++ b) ∧ w.grownBy w' (some g) := by
  obtain ⟨tail, hh, hT⟩ := h
  by_cases hq : m.length % 64 + b.length < 64
  · exact (absorb_small hh A c b hb hl hne hq).mono fun e w' ⟨he, hr⟩ => ⟨he, small_of ⟨tail, hh, hT⟩ b (by omega) hq tail hh.2.1 hT hr⟩
  · exact (absorb_big hh A c b hb hl hc hne (by omega)).mono fun e w' ⟨he, hr⟩ => ⟨he, big_of ⟨tail, hh, hT⟩ b (by omega) (by omega) tail hh.2.1 hT hr⟩

/-- No bytes yet. -/
theorem first_of (h : w.heap[g]? = some (.cells (hcells V0 (List.replicate 64 0) 0).toArray 113 (0, 0))) : HashOf w g [] := ⟨List.replicate 64 0, ⟨h, by simp, by simp⟩, by simp⟩

theorem HashOf.lt (h : HashOf w g m) : g < w.heap.size := h.elim fun _ h => h.1.lt
theorem HashOf.below {B : Nat} (h : HashOf w g m) (hb : Below B w w') (hB : g < B) : HashOf w' g m := h.elim fun t h => ⟨t, ⟨(hb.block g hB).trans h.1.1, h.1.2⟩, h.2⟩
end

end Go.Proofs.Ytjiiignbejbiiaa
end
section
namespace Go.Proofs.Ytjiiignbejbiiaa
set_option maxRecDepth 100000
open Go.RowKit Go.Great
set_option linter.unusedVariables false
set_option linter.unusedSimpArgs false

set_option maxRecDepth 100000 in
theorem firstWords_any (w : World) : Calls Try.prog 77 #[] w fun e w' => e = .returned (.agg #[.int .u32 1732584193, .int .u32 4023233417, .int .u32 2562383102, .int .u32 271733878, .int .u32 3285377520]) ∧ Below w.heap.size w w' := by
  go_enter Try.func77, Try.ntmps77
  go_wp2
  refine bodyPost_ret (v := .agg #[.int .u32 1732584193, .int .u32 4023233417, .int .u32 2562383102, .int .u32 271733878, .int .u32 3285377520]) ?_ rfl ⟨rfl, ?_⟩
  · refine results_cell1 (p := 0) (ty := 109) rfl _ _ w.heap.size 0 [.int .u32 1732584193, .int .u32 4023233417, .int .u32 2562383102, .int .u32 271733878, .int .u32 3285377520] _ rfl (fun i v hv => ?_) Try.underlying109 rfl size77
    rw [Nat.zero_add, cell_of_row _ _ i _ 109 (0, 0) (heap_alloc_new w _)]
    simpa using hv
  · exact (Below.refl _ w).alloc (Nat.le_refl _) _

theorem zero80 (W : World) : (zeroValue 113).run Try.prog W = .ok (.agg (.bool false :: .int .u32 0 :: .int .u32 0 :: .int .u32 0 :: .int .u32 0 :: .int .u32 0 :: (bcells (List.replicate 64 0) ++ [.int .u64 0])).toArray) W := by
  have hi : (Try.prog.info? 113).bind (·.zero) = some (.agg (.bool false :: .int .u32 0 :: .int .u32 0 :: .int .u32 0 :: .int .u32 0 :: .int .u32 0 :: (bcells (List.replicate 64 0) ++ [.int .u64 0])).toArray) := by kernel_rfl
  cases h : Try.prog.info? 113 with
  | none => simp [h] at hi
  | some i =>
    rw [h] at hi
    simp only [Option.bind_some] at hi
    simp [zeroValue, typeInfo, h, hi]

set_option maxRecDepth 100000 in
theorem new_any (w : World) : Calls Try.prog 68 #[] w fun e w' => ∃ g, e = .returned (.pointer (some ⟨g, 0, none⟩)) ∧ w.heap.size ≤ g ∧ HashOf w' g [] ∧ Below w.heap.size w w' := by
  obtain ⟨R, hR⟩ : ∃ R, R = bcells (List.replicate 64 0) ++ [.int .u64 0] := ⟨_, rfl⟩
  have hz := fun W => zero80 W
  rw [← hR] at hz
  have HR := Lib.hid hR
  clear hR
  go_enter Try.func68, Try.ntmps68
  go_wp2_with (go_at_call 77; refine (firstWords_any _).mono ?_; rintro e w1 ⟨rfl, hb1⟩)
  go_ret
  refine ⟨_, rfl, hb1.size, first_of ?_, hb1.alloc hb1.size _⟩
  rw [HR.out]
  exact heap_alloc_new w1 _

theorem isMade_yes (w : World) (g : Nat) (h : w.cell? ⟨g, 0, none⟩ = some (.bool true)) : Calls Try.prog 79 #[.pointer (some ⟨g, 0, none⟩)] w fun e w' => e = .returned (.bool true) ∧ w = w' := by
  go_enter Try.func79, Try.ntmps79
  go_wp2
  go_ret
  exact ⟨rfl, rfl⟩

/-- The bytes of the words. -/
def nW (x : Int) : Nat := (x % 18446744073709551616).toNat
theorem nW_lt (x : Int) : nW x < 18446744073709551616 := by unfold nW; omega
theorem nW_wrap (x : Int) : IntKind.u64.wrap x = (nW x : Int) := by rw [IntKind.wrap_u64]; unfold nW; omega
def wAt (v : V5) : Nat → Int
  | 0 => v.a
  | 1 => v.b
  | 2 => v.c
  | 3 => v.d
  | _ => v.e
def idJ (v : V5) : Nat → List UInt8
  | 0 => []
  | j + 1 => idJ v j ++ putB (nW (wAt v j)) 4
theorem idJ_length (v : V5) : ∀ j, (idJ v j).length = 4 * j
  | 0 => rfl
  | j + 1 => by rw [idJ, List.length_append, idJ_length v j, putB_length]; omega
def idI (v : V5) : List UInt8 := idJ v 5
theorem idI_length (v : V5) : (idI v).length = 20 := idJ_length v 5
theorem size61 : (Try.prog.info? 51).map (·.size) = some 20 := by kernel_rfl
theorem under61 : Try.prog.underlying 51 = some (.array (Try.prog.arrayLen 51) (Try.prog.elem 51)) := by kernel_rfl
set_option maxRecDepth 100000 in
theorem zero61 (W : World) : (zeroValue 51).run Try.prog W = .ok (.agg (bcells (List.replicate 20 0)).toArray) W := by
  have hi : (Try.prog.info? 51).bind (·.zero) = some (.agg (bcells (List.replicate 20 0)).toArray) := by kernel_rfl
  cases h : Try.prog.info? 51 with
  | none => simp [h] at hi
  | some i =>
    rw [h] at hi
    simp only [Option.bind_some] at hi
    simp [zeroValue, typeInfo, h, hi]
theorem len61 : Try.prog.arrayLen 51 = 20 := by kernel_rfl
theorem run_id_all (g : Nat) (W : World) : (Instr.sliceAt 51 (.pointer (some ⟨g, 0, none⟩)) none none none).run Try.prog W = .ok (.slice (some ⟨g, 0, none⟩) 20 20) W := by
  have hl := len61
  have hs : (sizeOf (Try.prog.elem 51)).run Try.prog W = .ok 1 W := by
    obtain ⟨i0, hi, hz0, hz1, hz2⟩ := info_parts info5
    have : Try.prog.elem 51 = 5 := by kernel_rfl
    rw [this]
    simp [sizeOf, typeInfo, hi, hz1]
  rw [run_sliceAt_array_all W 51 ⟨g, 0, none⟩ under61, hs]
  have e : (⟨g, 0, none⟩ : Addr).add 0 = ⟨g, 0, none⟩ := Addr.add_mid g 0 0
  simp [Result.andThen, slicedAt, hl, e]

theorem run_index5 (v : V5) (j : Nat) (hj : j < 5) (W : World) : (Instr.index 109 (.agg #[.int .u32 v.a, .int .u32 v.b, .int .u32 v.c, .int .u32 v.d, .int .u32 v.e]) (.int .i64 (j : Int))).run Try.prog W = .ok (.int .u32 (wAt v j)) W := by
  obtain ⟨i0, hi0, hz1⟩ : ∃ i0, Try.prog.info? 90 = some i0 ∧ i0.size = 1 := by
    have h : (Try.prog.info? 90).map (·.size) = some 1 := by kernel_rfl
    cases hi : Try.prog.info? 90 with
    | none => rw [hi] at h; cases h
    | some i => exact ⟨i, rfl, by rw [hi] at h; simpa using h⟩
  have ha : (isAgg 90).run Try.prog W = .ok false W := by kernel_rfl
  match j, hj with
  | 0, _ => simp [Instr.index, asIntOf, run_underlying Try.underlying109, sizeOf, typeInfo, hi0, hz1, wAt, part, ha]
  | 1, _ => simp [Instr.index, asIntOf, run_underlying Try.underlying109, sizeOf, typeInfo, hi0, hz1, wAt, part, ha]
  | 2, _ => simp [Instr.index, asIntOf, run_underlying Try.underlying109, sizeOf, typeInfo, hi0, hz1, wAt, part, ha]
  | 3, _ => simp [Instr.index, asIntOf, run_underlying Try.underlying109, sizeOf, typeInfo, hi0, hz1, wAt, part, ha]
  | 4, _ => simp [Instr.index, asIntOf, run_underlying Try.underlying109, sizeOf, typeInfo, hi0, hz1, wAt, part, ha]

def IdRel (w0 : World) (v : V5) (t i : Value) (wr : World) : Prop :=
  ∃ (j : Nat) (ys : List UInt8) (A : Option Addr) (c : Nat), j ≤ 5 ∧ i = .int .i64 (j : Int) ∧ t = .slice A ys.length c ∧ Hid (ys = idJ v j) ∧ OwnS w0 wr A c ys ∧ Below w0.heap.size w0 wr

set_option maxRecDepth 100000 in
theorem id_any (v : V5) (w : World) : Calls Try.prog 81 #[.agg #[.int .u32 v.a, .int .u32 v.b, .int .u32 v.c, .int .u32 v.d, .int .u32 v.e]] w fun e w' => e = .returned (.agg (bcells (idI v)).toArray) ∧ Below w.heap.size w w' := by
  have hz := fun W => zero61 W
  obtain ⟨Z, hZ⟩ : ∃ Z, Z = bcells (List.replicate 20 0) := ⟨_, rfl⟩
  rw [← hZ] at hz
  have HZ := Lib.hid hZ
  clear hZ
  have hsl := fun g W => run_id_all g W
  go_enter Try.func81, Try.ntmps81
  go_wp2
  obtain ⟨w0, hw0⟩ : ∃ w0, w0 = (w.alloc (.cells #[.int .u32 v.a, .int .u32 v.b, .int .u32 v.c, .int .u32 v.d, .int .u32 v.e] 109)).alloc (.cells Z.toArray 51) := ⟨_, rfl⟩
  rw [← hw0]
  have HW0 := Lib.hid hw0
  clear hw0
  go_loopw [3, 8] (IdRel w0 v) (fun _ i _ => 5 - (intOf i).toNat)
  case atStart => exact ⟨0, [], none, 0, Nat.zero_le _, rfl, rfl, rfl, World.ownsRow_nil _ _ _ _, Below.refl _ _⟩
  case round =>
    obtain ⟨j, ys, A, c, hj, rfl, rfl, hys, hown, hbl⟩ := hrel
    by_cases hlt : j < 5
    · have hlen : ys.length ≤ 20 := by rw [hys.out, idJ_length]; omega
      have hP := put_sl hown hbl.size (nW (wAt v j)) 4 (by omega) (nW_lt _) (by omega) (by omega)
      rw [← nW_wrap] at hP
      have R : ∀ A1 c1 ys' w', Hid (ys' = ys ++ putB (nW (wAt v j)) 4) → OwnS w0 w' A1 c1 ys' → Below wr.heap.size wr w' → IdRel w0 v (.slice A1 ys'.length c1) (.int .i64 ((j : Int) + 1)) w' := fun A1 c1 ys' w' q1 q2 q3 =>
        ⟨j + 1, ys', A1, c1, by omega, by go_num, rfl, Lib.hid (by rw [q1.out, hys.out]; rfl), q2, hbl.trans (q3.mono hbl.size)⟩
      have HP := Lib.hid hP
      have HR := Lib.hid R
      clear hP R hys hown hbl hj
      have hidx := fun W => run_index5 v j hlt W
      go_wp2_with (go_at_call 90; refine (HP.out).mono ?_; rintro e w2 ⟨A1', c1', ys', rfl, q1, q2, q3⟩)
      go_roundw
      case rel => exact HR.out _ _ _ _ q1 q2 q3
      case measure => simp [intOf]; omega
    · obtain rfl : j = 5 := by omega
      have hyl : ys.length = 20 := by rw [hys.out, idJ_length]
      have hid : bcells ys = bcells (idI v) := by rw [hys.out]; rfl
      have hbl' : (bcells ys).length = 20 := by rw [bcells_length, hyl]
      have hZl : Z.length = 20 := by rw [HZ.out, bcells_length, List.length_replicate]
      have hw1 : w.heap.size + 1 < w0.heap.size := by rw [HW0.out]; simp
      have hr0 : w0.heap[w.heap.size + 1]? = some (.cells Z.toArray 51 (0, 0)) := by
        rw [HW0.out]
        have := heap_alloc_new (w.alloc (.cells #[.int .u32 v.a, .int .u32 v.b, .int .u32 v.c, .int .u32 v.d, .int .u32 v.e] 109)) (.cells Z.toArray 51)
        simpa using this
      have hb0 : Below w.heap.size w w0 := by rw [HW0.out]; exact ((Below.refl _ w).alloc (Nat.le_refl _) _).alloc (by simp) _
      have hsp : splice Z 0 (bcells ys) = bcells ys := by
        unfold splice
        rw [List.take_zero, Nat.zero_add, List.drop_eq_nil_of_le (by omega)]
        simp
      have R : ∀ w2, w2.heap[wr.heap.size]? = some (.cells (splice Z 0 (bcells ys)).toArray 51 (0, 0)) → (wr.alloc (.cells Z.toArray 51)).grownBy w2 (some wr.heap.size) →
          w2.rangeAt wr.heap.size 0 (bcells (idI v)) ∧ w2.there (w.heap.size + 1) 0 20 ∧ Below w.heap.size w w2 := by
        intro w2 h2 g2
        rw [hsp, hid] at h2
        have hB : Below w0.heap.size w0 w2 := (hbl.alloc hbl.size _).grown g2 (by have := hbl.size; simp; omega) (fun k hk => by have := hbl.size; simp at hk; omega)
        refine ⟨fun i u hu => ?_, fun i hi => ?_, hb0.trans (hB.mono hb0.size)⟩
        · rw [Nat.zero_add, cell_of_row w2 _ i _ 51 (0, 0) h2]
          simpa using hu
        · have hr2 := (hB.block _ hw1).trans hr0
          rw [Nat.zero_add, cell_of_row w2 _ i _ 51 (0, 0) hr2, frozen_of_row w2 _ i _ 51 hr2]
          exact ⟨by simp; omega, rfl⟩
      have HR := Lib.hid R
      have HN : Hid ((bcells ys).length = Nat.min 20 20) := Lib.hid (by rw [hbl']; rfl)
      have HP : Hid (0 < (bcells ys).length → ∃ ad, A = some ad ∧ ∀ j u, (bcells ys)[j]? = some u → (wr.alloc (.cells Z.toArray 51)).cell? (ad.add j) = some u) := Lib.hid (((hown.below ((Below.refl _ wr).alloc (Nat.le_refl _) _) (Nat.le_refl _)).bat).cells)
      have HF : Hid (0 + (bcells ys).length ≤ Z.length) := Lib.hid (by omega)
      have HI : Hid ((bcells (idI v)).length = 20) := Lib.hid (by rw [← hid]; exact hbl')
      have HL : Hid ((bcells ys).length = 20) := Lib.hid hbl'
      have HA : Hid ((wr.alloc (.cells Z.toArray 51)).heap[wr.heap.size]? = some (.cells Z.toArray 51 (0, 0))) := Lib.hid (heap_alloc_new wr _)
      have hI := HI.out
      have HS1 : Hid ((Try.prog.info? 51).map (·.size) = some (bcells (idI v)).length) := Lib.hid (by rw [hI]; exact size61)
      have HS2 : Hid ((Try.prog.info? 51).map (·.size) = some (bcells (idI v)).toArray.size) := Lib.hid (by rw [List.size_toArray, hI]; exact size61)
      have HT : Hid (∀ w2 : World, w2.there (w.heap.size + 1) 0 20 → w2.there (w.heap.size + 1) 0 (bcells (idI v)).toArray.size) := Lib.hid (fun w2 h => by rw [show (bcells (idI v)).toArray.size = 20 from (List.size_toArray).trans hI]; exact h)
      rw [hyl]
      clear hj hlt hys hown hbl hyl hid hbl' hZl hw1 hr0 hb0 hsp R hI
      go_wp2_with (first
        | ((with_reducible refine wpList_copy_row (o := ⟨some 18, _, _, _, _, _⟩) rfl (.tmp 16) (.tmp 17) 29 29 rfl 5 Try.underlying29 ?_ (some ⟨wr.heap.size, 0, none⟩) A 20 20 20 c ?_ ?_ wr.heap.size 0 _ 51 HA.out _ HN.out (fun hp => ⟨rfl, HP.out hp⟩) HF.out (bcells_one _) ?_); kernel_rfl; rfl; rfl; intro w2 q1 q2; have HQ := Lib.hid (HR.out w2 q1 q2); clear q1 q2; rw [HL.out])
        | ((with_reducible refine wpList_load_mid (op := ⟨some 19, _, _, _, _, _⟩) rfl 51 (.tmp 6) rfl wr.heap.size 0 ?_ (bcells (idI v)) _ HQ.out.1 Try.underlying51 rfl HS1.out ?_); rfl; refine wpList_store_mid rfl 51 (.tmp 2) (.tmp 19) rfl (w.heap.size + 1) 0 (bcells (idI v)).toArray rfl rfl (HT.out _ HQ.out.2.1) HS2.out (all_oneCell_toArray (bcells_one _)) ?_))
      refine bodyPost_ret (v := .agg (bcells (idI v)).toArray) ?_ rfl ⟨rfl, ?_⟩
      · exact results_cell1 (p := 2) (ty := 51) rfl _ _ (w.heap.size + 1) 0 (bcells (idI v)) _ rfl (World.rangeAt_setCells_same _ _ _ _ (by rw [HI.out]; exact HQ.out.2.1)) Try.underlying51 rfl HS1.out
      · exact below_cells (by omega) _ 0 _ HQ.out.2.2
end Go.Proofs.Ytjiiignbejbiiaa
end
section
namespace Go.Proofs.Ytjiiignbejbiiaa
set_option maxRecDepth 100000
open Go.RowKit Go.Great
set_option linter.unusedVariables false
set_option linter.unusedSimpArgs false

/-- A text's sum. -/
def shaI (m : List UInt8) : List UInt8 := idI (wordsOf (m ++ padB m.length))
theorem padB_length (n : Nat) : (padB n).length ≤ 72 := by
  unfold padB
  rw [List.length_append, List.length_cons, List.length_replicate, putB_length]
  unfold zerosN
  omega
theorem own_cap {w : World} {base n c : Nat} {A : Option Addr} {xs : List UInt8} (h : w.ownsRow base 5 1 (.slice A n c) n (bcells xs)) : n ≤ c := by
  rcases h.2 with ⟨hv, hn⟩ | ⟨g, cap, cur, hv, _, _, hc, _⟩
  · omega
  · simp only [Value.slice.injEq] at hv
    omega
theorem own_ne {w : World} {base n c : Nat} {A : Option Addr} {xs : List UInt8} (h : w.ownsRow base 5 1 (.slice A n c) n (bcells xs)) (g : Nat) (hg : g < base) : ∀ g' off, A = some ⟨g', off, none⟩ → xs ≠ [] → g' ≠ g := by
  intro g' off e _
  rcases h.2 with ⟨hv, hn⟩ | ⟨g1, cap, cur, hv, hb, _⟩
  · simp only [Value.slice.injEq] at hv
    rw [e] at hv
    cases hv.1
  · simp only [Value.slice.injEq] at hv
    rw [e] at hv
    have := hv.1
    injection this with this
    injection this with this
    omega
theorem size80 : (Try.prog.info? 113).map (·.size) = some 71 := by kernel_rfl
theorem hcells_one (v : V5) (tail : List UInt8) (len : Nat) : ∀ u ∈ hcells v tail len, u.oneCell' = true := by
  intro u hu
  simp only [hcells, V5.cells, List.mem_cons, List.mem_append, List.not_mem_nil, or_false] at hu
  rcases hu with rfl | (rfl | rfl | rfl | rfl | rfl) | hu | rfl
  all_goals first | rfl | exact bcells_one _ _ hu

theorem below_setRow {a w : World} {B g : Nat} (h : Below B a w) (hg : B ≤ g) (cs : Array Value) : Below B a (w.setRow g cs) :=
  ⟨h.os, h.tape, h.output, by have := h.size; simpa [World.setRow] using this, fun k hk => (setRow_other w g k cs (by omega)).trans (h.block k hk)⟩

set_option maxRecDepth 100000 in
theorem hsum_of {w : World} {g : Nat} {m : List UInt8} (h : HashOf w g m) (hm : m.length ≤ 900000) : Calls Try.prog 70 #[.pointer (some ⟨g, 0, none⟩)] w fun e w' => e = .returned (.agg (bcells (shaI m)).toArray) ∧ Below w.heap.size w w' := by
  obtain ⟨tail, hh, hT⟩ := h
  obtain ⟨H, hH⟩ : ∃ H, H = hcells (wordsOf m) tail m.length := ⟨_, rfl⟩
  obtain ⟨Z, hZ⟩ : ∃ Z, Z = bcells (List.replicate 20 0) := ⟨_, rfl⟩
  obtain ⟨Y, hY⟩ : ∃ Y : List Value, Y = (.bool false :: .int .u32 0 :: .int .u32 0 :: .int .u32 0 :: .int .u32 0 :: .int .u32 0 :: (bcells (List.replicate 64 0) ++ [.int .u64 0])) := ⟨_, rfl⟩
  have hz := fun W => zero61 W
  have hy := fun W => zero80 W
  rw [← hZ] at hz
  rw [← hY] at hy
  have hHl : H.length = 71 := by rw [hH]; exact hcells_len _ _ _ hh.2.1
  have hYl : Y.length = 71 := by rw [hY]; simp [bcells]
  have hg := hh.lt
  have hM : Calls Try.prog 79 #[.pointer (some ⟨g, 0, none⟩)] (w.alloc (.cells Z.toArray 51)) fun e w' => e = .returned (.bool true) ∧ (w.alloc (.cells Z.toArray 51)) = w' := isMade_yes _ g (by rw [((Below.refl w.heap.size w).alloc (Nat.le_refl _) (.cells Z.toArray 51)).cell (p := ⟨g, 0, none⟩) hg, hh.cell]; rfl)
  have hg1 : (w.alloc (.cells Z.toArray 51)).heap[g]? = some (.cells H.toArray 113 (0, 0)) := by
    rw [((Below.refl w.heap.size w).alloc (Nat.le_refl _) (.cells Z.toArray 51)).block g hg, hH]
    exact hh.1
  have HRA : Hid ((w.alloc (.cells Z.toArray 51)).rangeAt g 0 H) := Lib.hid (fun i u hu => by
    rw [Nat.zero_add, cell_of_row _ _ i _ 113 (0, 0) hg1]
    simpa using hu)
  have HM := Lib.hid hM
  have HS : Hid ((Try.prog.info? 113).map (·.size) = some H.length) := Lib.hid (by rw [hHl]; exact size80)
  have hal : ((w.alloc (.cells Z.toArray 51)).alloc (.cells Y.toArray 113)).heap[w.heap.size + 1]? = some (.cells Y.toArray 113 (0, 0)) := by
    have := heap_alloc_new (w.alloc (.cells Z.toArray 51)) (.cells Y.toArray 113)
    simpa using this
  obtain ⟨W1, hW1⟩ : ∃ W1, W1 = ((w.alloc (.cells Z.toArray 51)).alloc (.cells Y.toArray 113)).setRow (w.heap.size + 1) H.toArray := ⟨_, rfl⟩
  have f0 : W1.heap.size = w.heap.size + 2 := by rw [hW1]; simp [World.setRow]
  have f1 : HashOf W1 (w.heap.size + 1) m := ⟨tail, ⟨by rw [hW1, ← hH]; exact setRow_heap _ _ _ _ 113 _ hal, hh.2⟩, hT⟩
  have fo : ∀ k, k ≠ w.heap.size + 1 → W1.heap[k]? = ((w.alloc (.cells Z.toArray 51)).alloc (.cells Y.toArray 113)).heap[k]? := fun k hk => by rw [hW1]; exact setRow_other _ _ _ _ hk
  have f3 : Below w.heap.size w W1 := by
    have hb2 := ((Below.refl w.heap.size w).alloc (Nat.le_refl _) (.cells Z.toArray 51)).alloc (by simp) (.cells Y.toArray 113)
    refine ⟨?_, ?_, ?_, by omega, fun k hk => (fo k (by omega)).trans (hb2.block k hk)⟩
    · rw [hW1]; exact hb2.os
    · rw [hW1]; exact hb2.tape
    · rw [hW1]; exact hb2.output
  have f4 : W1.heap[w.heap.size]? = some (.cells Z.toArray 51 (0, 0)) := by
    rw [fo _ (by omega), Below.heap_alloc _ _ _ (by simp)]
    exact heap_alloc_new w _
  have cl : W1.cell? ⟨g, 70, none⟩ = some (.int .u64 (m.length : Int)) := (f3.cell (p := ⟨g, 70, none⟩) hg).trans hh.len_
  have hZl : Z.length = 20 := by rw [hZ, bcells_length, List.length_replicate]
  have P : ∀ v W2, W2.ownsRow W1.heap.size 5 1 v (padB m.length).length (bcells (padB m.length)) → Below W1.heap.size W1 W2 → ∃ A c, v = .slice A (padB m.length).length c ∧
      Hid (Calls Try.prog 69 #[.pointer (some ⟨w.heap.size + 1, 0, none⟩), .slice A (padB m.length).length c] W2 fun e w' => e = .returned (.tuple #[]) ∧ HashOf w' (w.heap.size + 1) (m ++ padB m.length) ∧ W1.grownBy w' (some (w.heap.size + 1))) := by
    intro v W2 ho hb
    obtain ⟨A, c, rfl⟩ := slice_of_own ho
    refine ⟨A, c, rfl, Lib.hid ?_⟩
    have hp := padB_length m.length
    exact (absorb_of (f1.below hb (by omega)) A c (padB m.length) (BAt.of_own ho (Nat.le_refl _)) (own_cap ho) (by omega) hm (own_ne ho _ (by omega))).mono fun e w' ⟨he, h1, h2⟩ => ⟨he, h1, grownBy_trans (grownBy_of_below hb (Nat.le_refl _) _) h2⟩
  have hlen64 : m.length < 18446744073709551616 := by omega
  have HPAD := Lib.hid (pad_any m.length hlen64 W1)
  have HP := Lib.hid P
  have HW1 := Lib.hid hW1
  have HAL := Lib.hid hal
  have HSZ : Hid (Y.toArray.size = H.toArray.size) := Lib.hid (by simp [hYl, hHl])
  have HS' : Hid ((Try.prog.info? 113).map (·.size) = some H.toArray.size) := Lib.hid (by rw [List.size_toArray, hHl]; exact size80)
  have H1 : Hid (H.toArray.all (·.oneCell') = true) := Lib.hid (all_oneCell_toArray (by rw [hH]; exact hcells_one _ _ _))
  have HF : Hid (W1.heap.size = w.heap.size + 2 ∧ Below w.heap.size w W1 ∧ W1.heap[w.heap.size]? = some (.cells Z.toArray 51 (0, 0))) := Lib.hid ⟨f0, f3, f4⟩
  have HZL := Lib.hid hZl
  have hB3 : ∀ w3, W1.grownBy w3 (some (w.heap.size + 1)) → Below (w.heap.size + 1) W1 w3 ∧ w.heap.size + 2 ≤ w3.heap.size := fun w3 hg3 => by
    have := (Below.refl (w.heap.size + 1) W1).grown hg3 (by omega) (fun k hk => by simp at hk; omega)
    exact ⟨this, by have := this.size; omega⟩
  have hC : ∀ w3 w4 : World, (Below (w.heap.size + 1) W1 w3 ∧ w.heap.size + 2 ≤ w3.heap.size) → Below w3.heap.size w3 w4 → w4.heap[w.heap.size]? = some (.cells Z.toArray 51 (0, 0)) ∧ Below w.heap.size w w4 := fun w3 w4 h3 h4 => by
    refine ⟨(h4.block _ (by omega)).trans ((h3.1.block _ (by omega)).trans f4), ?_⟩
    exact f3.trans ((h3.1.mono (by omega)).trans (h4.mono (by omega)))
  have HB := Lib.hid hB3
  have HC := Lib.hid hC
  have hsl : (bcells (shaI m)).length = 20 := by rw [bcells_length]; exact idI_length _
  have HS1 : Hid ((Try.prog.info? 51).map (·.size) = some (bcells (shaI m)).length) := Lib.hid (by rw [hsl]; exact size61)
  have HS2 : Hid ((Try.prog.info? 51).map (·.size) = some (bcells (shaI m)).toArray.size) := Lib.hid (by rw [List.size_toArray, hsl]; exact size61)
  have HSZ2 : Hid (Z.toArray.size = (bcells (shaI m)).toArray.size) := Lib.hid (by simp [hZl, hsl])
  have HS3 : Hid ((bcells (shaI m)).toArray.all (·.oneCell') = true) := Lib.hid (all_oneCell_toArray (bcells_one _))
  clear hB3 hC hsl
  clear hM hH hZ hY hh hT hYl hHl hg1 hal hW1 f0 f1 fo f3 f4 hZl P
  go_enter Try.func70, Try.ntmps70
  go_wp2_with (first
    | (go_at_call 79; refine (HM.out).mono ?_; rintro e w1 ⟨rfl, rfl⟩)
    | ((with_reducible refine wpList_load_mid (op := ⟨some 10, _, _, _, _, _⟩) rfl 113 (.tmp 9) rfl g 0 ?_ H _ HRA.out Try.underlying113 rfl HS.out ?_); rfl)
    | ((with_reducible refine wpList_store_row rfl 113 (.tmp 3) (.tmp 10) rfl (w.heap.size + 1) H.toArray ?_ ?_ 113 Y.toArray HAL.out HS'.out HSZ.out H1.out ?_); rfl; rfl; rw [← HW1.out])
    | (go_at_call 80; refine (HPAD.out).mono ?_; rintro e w2 ⟨v2, rfl, ho2, hb2⟩; obtain ⟨A2, c2, rfl, HAB⟩ := HP.out v2 w2 ho2 hb2; clear ho2 hb2)
    | (go_at_call 69; refine (HAB.out).mono ?_; rintro e w3 ⟨rfl, ⟨t3, hh3, ht3⟩, hg3⟩; obtain ⟨k1, k2, k3, k4, k5⟩ := hh3.word0; have HB3 := Lib.hid (HB.out w3 hg3); clear hh3 ht3 hg3)
    | (go_at_call 81; refine (id_any _ _).mono ?_; rintro e w4 ⟨rfl, hb4⟩; have H4 := Lib.hid (HC.out w3 w4 HB3.out hb4); clear hb4)
    | ((with_reducible refine wpList_store_row rfl 51 (.tmp 2) (.tmp 19) rfl w.heap.size (bcells (shaI m)).toArray ?_ ?_ 51 Z.toArray H4.out.1 HS2.out HSZ2.out HS3.out ?_); rfl; rfl))
  refine bodyPost_ret (v := .agg (bcells (shaI m)).toArray) ?_ rfl ⟨rfl, ?_⟩
  · refine results_cell1 (p := 2) (ty := 51) rfl _ _ w.heap.size 0 (bcells (shaI m)) _ rfl (fun i u hu => ?_) Try.underlying51 rfl HS1.out
    rw [Nat.zero_add, cell_of_row _ _ i _ 51 (0, 0) (setRow_heap _ _ _ _ 51 _ H4.out.1)]
    simpa using hu
  · exact below_setRow H4.out.2 (Nat.le_refl _) _
theorem BAt.lt_ {w : World} {B : Nat} {A : Option Addr} {b : List UInt8} (h : BAt w B A b) : ∀ g' off, A = some ⟨g', off, none⟩ → b ≠ [] → g' < B := by
  intro g' off e hb
  obtain ⟨ga, o, e2, hg, _⟩ := h.some_ (List.length_pos_iff.2 hb)
  rw [e] at e2
  injection e2 with e2
  injection e2 with e2
  omega

set_option maxRecDepth 100000 in
theorem sum_any {w : World} (A : Option Addr) (c : Nat) (b : List UInt8) (hx : BAt w w.heap.size A b) (hc : b.length ≤ c) (hl : b.length ≤ 900000) : Calls Try.prog 60 #[.slice A b.length c] w fun e w' => e = .returned (.agg (bcells (shaI b)).toArray) ∧ Below w.heap.size w w' := by
  obtain ⟨Z, hZ⟩ : ∃ Z, Z = bcells (List.replicate 20 0) := ⟨_, rfl⟩
  have hz := fun W => zero61 W
  rw [← hZ] at hz
  have hZl : Z.length = 20 := by rw [hZ, bcells_length, List.length_replicate]
  have hb0 : Below w.heap.size w (w.alloc (.cells Z.toArray 51)) := (Below.refl w.heap.size w).alloc (Nat.le_refl _) _
  have f4 := heap_alloc_new w (.cells Z.toArray 51)
  have hs0 : (w.alloc (.cells Z.toArray 51)).heap.size = w.heap.size + 1 := by simp
  have hN : ∀ w1 g, w.heap.size + 1 ≤ g → HashOf w1 g [] → Below (w.heap.size + 1) (w.alloc (.cells Z.toArray 51)) w1 → Calls Try.prog 69 #[.pointer (some ⟨g, 0, none⟩), .slice A b.length c] w1 fun e w' => e = .returned (.tuple #[]) ∧ HashOf w' g b ∧ Below (w.heap.size + 1) (w.alloc (.cells Z.toArray 51)) w' := by
    intro w1 g hg h1 hb1
    have hx1 : BAt w1 w1.heap.size A b := (hx.below (hb0.trans (hb1.mono (by omega)))).more (by have := hb1.size; omega)
    refine (absorb_of h1 A c b hx1 hc hl (by simp) (fun g' off e hb => by have := hx.lt_ g' off e hb; omega)).mono ?_
    rintro e w' ⟨he, h2, h3⟩
    exact ⟨he, by simpa using h2, hb1.grown h3 (by have := hb1.size; omega) (fun k hk => by simp at hk; omega)⟩
  have hF : ∀ w3 w4 : World, Below (w.heap.size + 1) (w.alloc (.cells Z.toArray 51)) w3 → Below w3.heap.size w3 w4 → w4.heap[w.heap.size]? = some (.cells Z.toArray 51 (0, 0)) ∧ Below w.heap.size w w4 := fun w3 w4 h3 h4 => by
    have l3 := h3.size
    exact ⟨(h4.block _ (by omega)).trans ((h3.block _ (by omega)).trans f4), hb0.trans ((h3.mono (by omega)).trans (h4.mono (by omega)))⟩
  have HN := Lib.hid hN
  have HF := Lib.hid hF
  have hsl : (bcells (shaI b)).length = 20 := by rw [bcells_length]; exact idI_length _
  have HS1 : Hid ((Try.prog.info? 51).map (·.size) = some (bcells (shaI b)).length) := Lib.hid (by rw [hsl]; exact size61)
  have HS2 : Hid ((Try.prog.info? 51).map (·.size) = some (bcells (shaI b)).toArray.size) := Lib.hid (by rw [List.size_toArray, hsl]; exact size61)
  have HSZ2 : Hid (Z.toArray.size = (bcells (shaI b)).toArray.size) := Lib.hid (by simp [hZl, hsl])
  have HS3 : Hid ((bcells (shaI b)).toArray.all (·.oneCell') = true) := Lib.hid (all_oneCell_toArray (bcells_one _))
  have HL := Lib.hid hl
  clear hx hZ hZl hb0 f4 hs0 hN hF hsl hl hc
  go_enter Try.func60, Try.ntmps60
  go_wp2_with (first
    | (go_at_call 68; refine (new_any _).mono ?_; rintro e w1 ⟨g, rfl, hg, hh, hb1⟩; have HA := Lib.hid (HN.out w1 g (by simpa using hg) hh (by simpa using hb1)); clear hg hh hb1)
    | (go_at_call 69; refine (HA.out).mono ?_; rintro e w2 ⟨rfl, hh2, hb2⟩; have HH2 := Lib.hid hh2; have HB2 := Lib.hid hb2; clear hh2 hb2)
    | (go_at_call 70; refine (hsum_of HH2.out HL.out).mono ?_; rintro e w3 ⟨rfl, hb3⟩; have H4 := Lib.hid (HF.out _ _ HB2.out hb3); clear hb3)
    | ((with_reducible refine wpList_store_row rfl 51 (.tmp 2) (.tmp 9) rfl w.heap.size (bcells (shaI b)).toArray ?_ ?_ 51 Z.toArray H4.out.1 HS2.out HSZ2.out HS3.out ?_); rfl; rfl))
  refine bodyPost_ret (v := .agg (bcells (shaI b)).toArray) ?_ rfl ⟨rfl, ?_⟩
  · refine results_cell1 (p := 2) (ty := 51) rfl _ _ w.heap.size 0 (bcells (shaI b)) _ rfl (fun i u hu => ?_) Try.underlying51 rfl HS1.out
    rw [Nat.zero_add, cell_of_row _ _ i _ 51 (0, 0) (setRow_heap _ _ _ _ 51 _ H4.out.1)]
    simpa using hu
  · exact below_setRow H4.out.2 (Nat.le_refl _) _

end Go.Proofs.Ytjiiignbejbiiaa
end
section
namespace Go.Proofs.Ytjiiignbejbiiaa
set_option maxRecDepth 100000
set_option maxHeartbeats 1000000
open Go.RowKit

theorem row_range {w : World} {g : Nat} {cs : List Value} {ty : TypeId} (h : w.heap[g]? = some (.cells cs.toArray ty (0, 0))) : w.rangeAt g 0 cs := fun i v hv => by
  rw [Nat.zero_add, cell_of_row w _ i _ ty (0, 0) h]
  simpa using hv
theorem row_there {w : World} {g : Nat} {cs : List Value} {ty : TypeId} (h : w.heap[g]? = some (.cells cs.toArray ty (0, 0))) : w.there g 0 cs.length := fun i hi => by
  rw [Nat.zero_add, cell_of_row w _ i _ ty (0, 0) h, frozen_of_row w _ i _ ty h]
  exact ⟨by simp; omega, rfl⟩

theorem heap3 (w : World) (a b x : Obj) :
    (((w.alloc a).alloc b).alloc x).heap[w.heap.size]? = some a ∧ (((w.alloc a).alloc b).alloc x).heap[w.heap.size + 1]? = some b ∧ (((w.alloc a).alloc b).alloc x).heap[w.heap.size + 1 + 1]? = some x ∧ Below w.heap.size w (((w.alloc a).alloc b).alloc x) := by
  refine ⟨?_, ?_, ?_, ((((Below.refl _ w).alloc (Nat.le_refl _) _).alloc (by simp) _).alloc (by simp; omega) _)⟩
  all_goals
    show (((w.heap.push a).push b).push x)[_]? = _
    simp only [Array.getElem?_push, Array.size_push]
    repeat (first | rw [if_pos trivial] | rw [if_pos (by omega)] | rw [if_neg (by omega)])

end Go.Proofs.Ytjiiignbejbiiaa
end
section
namespace Go.Proofs.Ytjiiignbejbiiaa
set_option maxRecDepth 100000
set_option maxHeartbeats 1000000
open Go.RowKit

theorem heap2 (w : World) (a b : Obj) : ((w.alloc a).alloc b).heap[w.heap.size]? = some a ∧ ((w.alloc a).alloc b).heap[w.heap.size + 1]? = some b ∧ Below w.heap.size w ((w.alloc a).alloc b) := by
  refine ⟨?_, ?_, (((Below.refl _ w).alloc (Nat.le_refl _) _).alloc (by simp) _)⟩
  all_goals
    show ((w.heap.push a).push b)[_]? = _
    simp only [Array.getElem?_push, Array.size_push]
    repeat (first | rw [if_pos trivial] | rw [if_pos (by omega)] | rw [if_neg (by omega)])
end Go.Proofs.Ytjiiignbejbiiaa
end
