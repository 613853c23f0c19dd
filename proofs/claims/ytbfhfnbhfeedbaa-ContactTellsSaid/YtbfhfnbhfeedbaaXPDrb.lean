/- Contracts of the source of the reference (layer 7): Left, Byte, Word. Conditions: the bytes are at most 900,000. Contracts of the source of the reference (layer 7): Byte, Word, over what is left of the bytes. Conditions: the bytes are at most 900,000. Plain facts on drawing, for layer 7: what is left of the bytes is the state. No program, no condition. Contract of the source of the reference (layer 7): Num. Conditions: the bytes are at most 900,000; the number that comes in is an int. -/
import Derived.Test.YtbfhfnbhfeedbaaXPPPRwa
import Derived.Deep.QuietTactic
import Derived.BigQuiet
import Derived.LoopTactic
import Derived.Laws.BitsAllLaws
import Derived.WalkKit
import Derived.Lib.Hide
section
namespace Go.Proofs.Ytbfhfnbhfeedbaa
set_option maxRecDepth 100000
open Go.RowKit

theorem grownBy_setCell {w w1 : World} {g : Nat} (h : w.grownBy w1 (some g)) (j : Nat) (u : Value) : w.grownBy (w1.setCell ⟨g, j, none⟩ u) (some g) :=
  ⟨h.os, h.tape, h.output, by simpa [World.setCell] using h.size, fun i hi hne => (Below.heap_setCell w1 ⟨g, j, none⟩ u i (by rintro rfl; exact hne rfl)).trans (h.block i hi hne)⟩
theorem grownBy_trans {a b c : World} {row : Option Nat} (h : a.grownBy b row) (k : b.grownBy c row) : a.grownBy c row :=
  ⟨k.os.trans h.os, k.tape.trans h.tape, k.output.trans h.output, Nat.le_trans h.size k.size, fun i hi hn => (k.block i (Nat.lt_of_lt_of_le hi h.size) hn).trans (h.block i hi hn)⟩
theorem grownBy_drewN {w : World} (n : Nat) (row : Option Nat) : w.grownBy (w.drewN n) row := ⟨rfl, rfl, rfl, Nat.le_refl _, fun _ _ _ => rfl⟩
/-- What lies in bytes lies in no block of a source. -/
theorem BAt.ne2 {w : World} {B g : Nat} {A : Option Addr} {ys : List UInt8} {a b : Value} {t : TypeId} (h : BAt w B A ys) (hg : w.heap[g]? = some (.cells #[a, b] t (0, 0)))
    (ha : ∀ n, a ≠ .int .u8 n) (hb : ∀ n, b ≠ .int .u8 n) : ∀ g' off, A = some ⟨g', off, none⟩ → ys ≠ [] → g' ≠ g := by
  rintro g' off rfl hy rfl
  rcases h with e | ⟨g2, off2, he, _, hcell⟩
  · exact hy e
  injection he with he
  injection he with h1 h2
  subst h1 h2
  have hp : 0 < ys.length := List.length_pos_iff.2 hy
  have := hcell 0 hp
  rw [cell_of_row w g' _ _ t (0, 0) hg, Nat.add_zero] at this
  match off, this with
  | 0, this => simp at this; exact ha _ this
  | 1, this => simp at this; exact hb _ this
  | n + 2, this => simp at this

/-- The reference's source in block h: its bytes, and where one is. -/
def RSrc (w : World) (h : Nat) (A : Option Addr) (c : Nat) (xs : List UInt8) (k : Nat) : Prop :=
  w.heap[h]? = some (.cells #[.slice A xs.length c, .int .i64 (k : Int)] 29 (0, 0)) ∧ BAt w w.heap.size A xs ∧ k ≤ xs.length ∧ xs.length ≤ 900000

section
variable {w w' : World} {h : Nat} {A : Option Addr} {c : Nat} {xs : List UInt8} {k : Nat}
theorem RSrc.cells (r : RSrc w h A c xs k) : w.cell? ⟨h, 0, none⟩ = some (.slice A xs.length c) ∧ w.cell? ⟨h, 1, none⟩ = some (.int .i64 (k : Int)) ∧ (∀ i, w.frozen? ⟨h, i, none⟩ = false) := by
  have c0 := cell_of_row w h 0 _ 29 (0, 0) r.1
  have c1 := cell_of_row w h 1 _ 29 (0, 0) r.1
  simp at c0 c1
  exact ⟨c0, c1, fun i => frozen_of_row w h i _ 29 r.1⟩
theorem RSrc.drewN (r : RSrc w h A c xs k) (n : Nat) : RSrc (w.drewN n) h A c xs k := r
theorem RSrc.lt (r : RSrc w h A c xs k) : h < w.heap.size := (Array.getElem?_eq_some_iff.1 r.1).1
theorem RSrc.below {B : Nat} (r : RSrc w h A c xs k) (hb : Below B w w') (hB : w.heap.size ≤ B) : RSrc w' h A c xs k :=
  ⟨(hb.block h (Nat.lt_of_lt_of_le r.lt hB)).trans r.1, (r.2.1.below (hb.mono hB)).more hb.size, r.2.2⟩
theorem RSrc.moved (r : RSrc w h A c xs k) {m : Nat} (hm : m ≤ xs.length) : RSrc (w.setCell ⟨h, 1, none⟩ (.int .i64 (m : Int))) h A c xs m := by
  obtain ⟨hh, hx, hk, hl⟩ := r
  have s1 := heap_setCell_same w h 1 _ 29 (.int .i64 (m : Int)) hh
  refine ⟨by simpa using s1, ?_, hm, hl⟩
  have hne := hx.ne2 hh (by simp) (by simp)
  have := hx.set (j := 1) (.int .i64 (m : Int)) hne
  simpa [World.setCell] using this

theorem rleft_any (r : RSrc w h A c xs k) : Calls Try.prog 24 #[.pointer (some ⟨h, 0, none⟩)] w fun e w' => e = .returned (.int .i64 ((xs.length - k : Nat) : Int)) ∧ ∃ n, w' = w.drewN n := by
  obtain ⟨c0, c1, f⟩ := r.cells
  obtain ⟨_, _, hk, hl⟩ := r
  have e1 : ((xs.length - k : Nat) : Int) = (xs.length : Int) - (k : Int) := by omega
  rw [e1]
  have hk' : (k : Int) ≤ (xs.length : Int) := by omega
  clear e1
  go_enter Try.func24, Try.ntmps24
  go_wp2
  go_quiet (fail)
  go_wp2
  go_ret
  exact ⟨rfl, nq, rfl⟩

/-- What Byte tells, and leaves. -/
def RByteP (w : World) (h : Nat) (A : Option Addr) (c : Nat) (xs : List UInt8) (k : Nat) (e : Ending) (w' : World) : Prop :=
  e = .returned (.int .u8 (((xs.drop k).headD 0).toNat : Int)) ∧ RSrc w' h A c xs (min (k + 1) xs.length) ∧ w.grownBy w' (some h)
theorem rbyte_end (r : RSrc w h A c xs xs.length) : Calls Try.prog 13 #[.pointer (some ⟨h, 0, none⟩)] w (RByteP w h A c xs xs.length) := by
  obtain ⟨c0, c1, f⟩ := r.cells
  have hl := r.2.2.2
  have R : ∀ n, RByteP w h A c xs xs.length (.returned (.int .u8 0)) (w.drewN n) := fun n => ⟨by simp, by rw [Nat.min_eq_right (by omega)]; exact r.drewN n, grownBy_drewN n _⟩
  have HR := Lib.hid R
  clear r R
  go_enter Try.func13, Try.ntmps13
  go_wp2
  go_quiet (fail)
  go_wp2
  go_ret
  exact HR.out nq
theorem rbyte_more (r : RSrc w h A c xs k) (hk : k < xs.length) : Calls Try.prog 13 #[.pointer (some ⟨h, 0, none⟩)] w (RByteP w h A c xs k) := by
  obtain ⟨c0, c1, f⟩ := r.cells
  have hl := r.2.2.2
  have hne := r.2.1.ne2 r.1 (by simp) (by simp)
  obtain ⟨g', off, rfl, hg, hcell⟩ : ∃ g off, A = some ⟨g, off, none⟩ ∧ g < w.heap.size ∧ ∀ j (h : j < xs.length), w.cell? ⟨g, off + j, none⟩ = some (.int .u8 (xs[j].toNat : Int)) := by
    rcases r.2.1 with e | x
    · subst e; simp at hk
    · exact x
  have hgh : g' ≠ h := hne g' off rfl (by intro e; subst e; simp at hk)
  have hc := hcell k hk
  have hd : ((xs.drop k).headD 0) = xs[k] := by rw [List.drop_eq_getElem_cons hk]; rfl
  have hk' : ¬ (xs.length : Int) ≤ (k : Int) := by omega
  have R : ∀ n m w', ((w.drewN n).setCell ⟨h, 1, none⟩ (.int .i64 ((k : Int) + 1))).drewN m = w' → RByteP w h (some ⟨g', off, none⟩) c xs k (.returned (.int .u8 (xs[k].toNat : Int))) w' := by
    rintro n m w' rfl
    have e : ((k : Int) + 1) = ((k + 1 : Nat) : Int) := by omega
    rw [e]
    exact ⟨by rw [hd], by rw [Nat.min_eq_left (by omega)]; exact ((r.drewN n).moved (by omega)).drewN m, grownBy_trans (grownBy_setCell (grownBy_drewN n _) _ _) (grownBy_drewN m _)⟩
  have HR := Lib.hid R
  have hc2 : ∀ n, ((w.drewN n).setCell ⟨h, 1, none⟩ (.int .i64 ((k : Int) + 1))).cell? ⟨g', off + k, none⟩ = some (.int .u8 (xs[k].toNat : Int)) := fun n => (World.cell?_setCell_other (w.drewN n) _ _ _ (by intro e; simp only [Addr.mk.injEq] at e; exact hgh e.1.symm)).trans hc
  have HS : Hid (∀ n, ((w.drewN n).setCell ⟨h, 1, none⟩ (.int .i64 ((k : Int) + 1))).cell? ⟨h, 0, none⟩ = some (.slice (some ⟨g', off, none⟩) xs.length c) ∧ ((w.drewN n).setCell ⟨h, 1, none⟩ (.int .i64 ((k : Int) + 1))).cell? ⟨h, 1, none⟩ = some (.int .i64 ((k : Int) + 1))) := Lib.hid (fun n => by
    have e : ((k : Int) + 1) = ((k + 1 : Nat) : Int) := by omega
    rw [e]
    have := ((r.drewN n).moved (m := k + 1) (by omega)).cells
    exact ⟨this.1, this.2.1⟩)
  clear hne hcell hd R r hg
  generalize xs[k].toNat = x at *
  go_enter Try.func13, Try.ntmps13
  go_wp2
  go_quiet (fail)
  go_wp2
  have d0 : ((w.drewN nq).setCell ⟨h, 1, none⟩ (.int .i64 ((k : Int) + 1))).cell? ⟨h, 0, none⟩ = some (.slice (some ⟨g', off, none⟩) xs.length c) := (HS.out nq).1
  have d1 : ((w.drewN nq).setCell ⟨h, 1, none⟩ (.int .i64 ((k : Int) + 1))).cell? ⟨h, 1, none⟩ = some (.int .i64 ((k : Int) + 1)) := (HS.out nq).2
  have d2 := hc2 nq
  replace HR := Lib.hid (HR.out nq)
  generalize (w.drewN nq).setCell ⟨h, 1, none⟩ (.int .i64 ((k : Int) + 1)) = W1 at d0 d1 d2 HR ⊢
  clear hc2 hc c0 c1 f HS
  go_quiet (fail)
  go_wp2
  go_ret
  exact HR.out _ _ rfl
end
end Go.Proofs.Ytbfhfnbhfeedbaa
end
section
namespace Go.Proofs.Ytbfhfnbhfeedbaa
set_option maxRecDepth 100000
open Go.RowKit

/-- The reference's source as it stands: r is left of its bytes. -/
def RS (w : World) (h : Nat) (A : Option Addr) (c : Nat) (xs r : List UInt8) : Prop := ∃ k, RSrc w h A c xs k ∧ r = xs.drop k
section
variable {w w' : World} {h : Nat} {A : Option Addr} {c : Nat} {xs r : List UInt8}
theorem RS.drewN (s : RS w h A c xs r) (n : Nat) : RS (w.drewN n) h A c xs r := s
theorem RS.below {B : Nat} (s : RS w h A c xs r) (hb : Below B w w') (hB : w.heap.size ≤ B) : RS w' h A c xs r := by
  obtain ⟨k, a, b⟩ := s
  exact ⟨k, a.below hb hB, b⟩
theorem sleft_any (s : RS w h A c xs r) : Calls Try.prog 24 #[.pointer (some ⟨h, 0, none⟩)] w fun e w' => e = .returned (.int .i64 (r.length : Int)) ∧ ∃ n, w' = w.drewN n := by
  obtain ⟨k, a, rfl⟩ := s
  rw [List.length_drop]
  exact rleft_any a
theorem sbyte_any (s : RS w h A c xs r) : Calls Try.prog 13 #[.pointer (some ⟨h, 0, none⟩)] w fun e w' => e = .returned (.int .u8 ((r.headD 0).toNat : Int)) ∧ RS w' h A c xs r.tail ∧ w.grownBy w' (some h) := by
  obtain ⟨k, a, rfl⟩ := s
  by_cases hk : k = xs.length
  · subst hk
    refine (rbyte_end a).mono ?_
    rintro e w' ⟨rfl, b, g⟩
    rw [Nat.min_eq_right (by omega)] at b
    exact ⟨rfl, ⟨_, b, by simp⟩, g⟩
  · have hk' : k < xs.length := by have := a.2.2.1; omega
    refine (rbyte_more a hk').mono ?_
    rintro e w' ⟨rfl, b, g⟩
    rw [Nat.min_eq_left (by omega)] at b
    exact ⟨rfl, ⟨_, b, by rw [List.tail_drop]⟩, g⟩

/-- j bytes as a number, and what is left. -/
def eat : Nat → List UInt8 → Nat × List UInt8
  | 0, r => (0, r)
  | j + 1, r => ((eat j r).1 * 256 + ((eat j r).2.headD 0).toNat, (eat j r).2.tail)
theorem eat_lt (j : Nat) (r : List UInt8) : (eat j r).1 < 256 ^ j := by
  induction j with
  | zero => simp [eat]
  | succ j ih =>
    have := ((eat j r).2.headD 0).toNat_lt
    rw [eat, Nat.pow_succ]
    simp only
    omega

def WdRel (w : World) (h : Nat) (A : Option Addr) (c : Nat) (xs r : List UInt8) (v i : Value) (w' : World) : Prop :=
  ∃ j : Nat, j ≤ 4 ∧ i = .int .i64 (j : Int) ∧ v = .int .u32 ((eat j r).1 : Int) ∧ RS w' h A c xs (eat j r).2 ∧ w.grownBy w' (some h)
theorem sword_any (s : RS w h A c xs r) : Calls Try.prog 17 #[.pointer (some ⟨h, 0, none⟩)] w fun e w' => e = .returned (.int .u32 ((eat 4 r).1 : Int)) ∧ RS w' h A c xs (eat 4 r).2 ∧ w.grownBy w' (some h) := by
  have R0 : Hid (WdRel w h A c xs r (.int .u32 0) (.int .i64 0) w) := Lib.hid ⟨0, by omega, rfl, rfl, s, World.grownBy.refl _ _⟩
  clear s
  go_enter Try.func17, Try.ntmps17
  go_upto_region 3 with fail
  go_loopw [3, 4] (WdRel w h A c xs r) (fun _ i _ => 4 - (intOf i).toNat)
  case atStart => exact R0.out
  case round =>
    obtain ⟨j, hj, rfl, rfl, hs, hg⟩ := hrel
    clear R0
    by_cases hlt : j < 4
    · have hlt' : (j : Int) < 4 := by omega
      have hb := ((eat j r).2.headD 0).toNat_lt
      have hx : (eat j r).1 < 16777216 := by
        have := eat_lt j r
        have h2 : 256 ^ j ≤ 256 ^ 3 := Nat.pow_le_pow_right (by omega) (by omega)
        omega
      have HB := Lib.hid (sbyte_any hs)
      have HREL : Hid (∀ w', RS w' h A c xs (eat j r).2.tail → wr.grownBy w' (some h) → WdRel w h A c xs r (.int .u32 (((eat j r).1 : Int) * 256 + (((eat j r).2.headD 0).toNat : Int))) (.int .i64 ((j : Int) + 1)) w') := Lib.hid (fun w' a b => ⟨j + 1, by omega, by go_num, by rw [eat]; go_num, by rw [eat]; exact a, grownBy_trans hg b⟩)
      clear hs hg
      generalize (eat j r).1 = x at *
      generalize ((eat j r).2.headD 0).toNat = b at *
      generalize (eat j r).2.tail = r2 at *
      have hx1 : (x : Int) * 256 < 4294967296 := by omega
      have hx2 : (x : Int) * 256 + (b : Int) < 4294967296 := by omega
      go_upto_region 4 with (go_at_call 13; (with_reducible refine HB.out.mono ?_); rintro e w2 ⟨rfl, hs2, hg2⟩)
      have HR2 := Lib.hid (HREL.out _ hs2 hg2)
      clear HREL hs2 hg2 HB
      go_wp2
      go_roundw
      case rel => exact HR2.out
      case measure => simp [intOf]; omega
    · obtain rfl : j = 4 := by omega
      have HF := Lib.hid (And.intro hs hg)
      clear hs hg
      go_wp2
      go_ret
      exact ⟨rfl, HF.out⟩
end
end Go.Proofs.Ytbfhfnbhfeedbaa
end
section
namespace Go.Proofs.Ytbfhfnbhfeedbaa

/-- The number of a draw's bytes, read on from x: m counts what is to come. -/
def numX : Nat → Nat → List UInt8 → Nat × List UInt8
  | 0, x, r => (x, r)
  | m + 1, x, r => numX ((m + 1) / 256) (x * 256 + (r.headD 0).toNat) r.tail
termination_by m => m
decreasing_by omega

theorem numX_zero (x : Nat) (r : List UInt8) : numX 0 x r = (x, r) := by unfold numX; rfl
theorem numX_step {m : Nat} (h : 0 < m) (x : Nat) (r : List UInt8) : numX m x r = numX (m / 256) (x * 256 + (r.headD 0).toNat) r.tail := by
  obtain ⟨k, rfl⟩ : ∃ k, m = k + 1 := ⟨m - 1, by omega⟩
  rw [numX]

/-- A number below n, and what is left. -/
def numL (n : Int) (r : List UInt8) : Nat × List UInt8 :=
  if n < 2 then (0, r) else ((numX (n.toNat - 1) 0 r).1 % n.toNat, (numX (n.toNat - 1) 0 r).2)

theorem numL_lt {n : Int} (h : 1 ≤ n) (r : List UInt8) : (numL n r).1 < n.toNat := by
  unfold numL
  split
  · simp only; omega
  · exact Nat.mod_lt _ (by omega)
theorem numL_small {n : Int} (h : n < 2) (r : List UInt8) : numL n r = (0, r) := by unfold numL; rw [if_pos h]

/-- x stays below 256 to the number of bytes read. -/
theorem numX_bound (k : Nat) : ∀ (m x : Nat) (r : List UInt8) (B : Nat), m < 256 ^ k → x < B → (numX m x r).1 < B * 256 ^ k := by
  induction k with
  | zero =>
    intro m x r B hm hx
    obtain rfl : m = 0 := by simp at hm; exact hm
    rw [numX_zero]; simpa using hx
  | succ k ih =>
    intro m x r B hm hx
    by_cases h : m = 0
    · subst h
      rw [numX_zero]
      have : 0 < 256 ^ (k + 1) := Nat.pow_pos (by omega)
      exact Nat.lt_of_lt_of_le hx (Nat.le_mul_of_pos_right _ this)
    · rw [numX_step (by omega)]
      have hb : (r.headD 0).toNat < 256 := (r.headD 0).toNat_lt
      have hm' : m / 256 < 256 ^ k := by
        rw [Nat.pow_succ] at hm
        exact Nat.div_lt_of_lt_mul (by rw [Nat.mul_comm]; exact hm)
      have := ih (m / 256) (x * 256 + (r.headD 0).toNat) r.tail (B * 256) hm' (by omega)
      rw [Nat.pow_succ, Nat.mul_comm (256 ^ k), ← Nat.mul_assoc]
      exact this

/-- One byte tells a number below up to 256. -/
theorem numL_byte {n : Nat} (h1 : 2 ≤ n) (h2 : n ≤ 256) {c : Nat} (hc : c < n) (r : List UInt8) : numL (n : Int) (UInt8.ofNat c :: r) = (c, r) := by
  unfold numL
  rw [if_neg (by omega), Int.toNat_natCast, numX_step (by omega), show (n - 1) / 256 = 0 from by omega, numX_zero]
  simp only [List.headD_cons, List.tail_cons, Nat.zero_mul, Nat.zero_add]
  rw [UInt8.toNat_ofNat', Nat.mod_eq_of_lt (show c < 2 ^ 8 by omega), Nat.mod_eq_of_lt hc]

/-- The order that is drawn of l, k numbers of it. -/
def ordG : Nat → List Nat → List UInt8 → List Nat × List UInt8
  | 0, _, r => ([], r)
  | k + 1, l, r => (l.getD (numL l.length r).1 0 :: (ordG k (l.eraseIdx (numL l.length r).1) (numL l.length r).2).1, (ordG k (l.eraseIdx (numL l.length r).1) (numL l.length r).2).2)

theorem getD_erase_perm {l : List Nat} : ∀ {i : Nat}, i < l.length → (l.getD i 0 :: l.eraseIdx i).Perm l := by
  induction l with
  | nil => intro i h; cases h
  | cons a l ih =>
    intro i h
    cases i with
    | zero => exact .refl _
    | succ i =>
      rw [List.getD_cons_succ, List.eraseIdx_cons_succ]
      exact (List.Perm.swap _ _ _).trans ((ih (Nat.lt_of_succ_lt_succ h)).cons a)

theorem ordG_perm : ∀ (k : Nat) (l : List Nat) (r : List UInt8), l.length = k → ((ordG k l r).1).Perm l := by
  intro k
  induction k with
  | zero => intro l r h; rw [List.length_eq_zero_iff.1 h]; exact .nil
  | succ k ih =>
    intro l r h
    have hlt : (numL l.length r).1 < l.length := by
      have := numL_lt (n := (l.length : Int)) (by omega) r
      omega
    have hl : (l.eraseIdx (numL l.length r).1).length = k := by rw [List.length_eraseIdx_of_lt hlt]; omega
    exact ((ih _ (numL l.length r).2 hl).cons _).trans (getD_erase_perm hlt)

/-- The bytes that tell an order. -/
def codeL : List Nat → List UInt8
  | [] => []
  | [_] => []
  | x :: y :: t => UInt8.ofNat (((y :: t).filter (· < x)).length) :: codeL (y :: t)

theorem sorted_at {L : List Nat} (hs : L.Pairwise (· < ·)) {x : Nat} (hx : x ∈ L) : (L.filter (· < x)).length < L.length ∧ L.getD (L.filter (· < x)).length 0 = x := by
  induction L with
  | nil => cases hx
  | cons a L ih =>
    rw [List.pairwise_cons] at hs
    rcases List.mem_cons.1 hx with e | hx'
    · subst e
      have : L.filter (· < x) = [] := by
        rw [List.filter_eq_nil_iff]
        intro y hy
        have := hs.1 y hy
        simp; omega
      rw [List.filter_cons_of_neg (by simp), this]
      exact ⟨by simp, by simp⟩
    · have hlt := hs.1 x hx'
      rw [List.filter_cons_of_pos (by simp [hlt])]
      have := ih hs.2 hx'
      refine ⟨by simp only [List.length_cons]; omega, ?_⟩
      simp only [List.length_cons, List.getD_cons_succ]
      exact this.2

theorem ordG_code : ∀ (l L : List Nat), L.Pairwise (· < ·) → L.Perm l → L.length ≤ 256 → ordG L.length L (codeL l) = (l, []) := by
  intro l
  induction l with
  | nil =>
    intro L _ hp _
    have := hp.length_eq
    obtain rfl : L = [] := List.length_eq_zero_iff.1 (by simpa using this)
    rfl
  | cons x t ih =>
    intro L hs hp hl
    have hlen := hp.length_eq
    have hx : x ∈ L := hp.mem_iff.2 (List.mem_cons_self)
    obtain ⟨h1, h2⟩ := sorted_at hs hx
    have hc : (L.filter (· < x)).length = (t.filter (· < x)).length := by
      rw [(hp.filter _).length_eq, List.filter_cons_of_neg (by simp)]
    rw [hc] at h1 h2
    have hn : numL L.length (codeL (x :: t)) = ((t.filter (· < x)).length, codeL t) := by
      cases t with
      | nil =>
        rw [numL_small (by rw [hlen]; simp)]
        rfl
      | cons y t =>
        exact numL_byte (by rw [hlen]; simp) hl h1 _
    have hpe : (L.eraseIdx (t.filter (· < x)).length).Perm t := by
      have := (getD_erase_perm h1).trans hp
      rw [h2] at this
      exact this.cons_inv
    have hle : (L.eraseIdx (t.filter (· < x)).length).length = L.length - 1 := by rw [List.length_eraseIdx_of_lt h1]
    have hh := ih _ (hs.sublist (List.eraseIdx_sublist _ _)) hpe (by omega)
    rw [hle] at hh
    obtain ⟨k, hk⟩ : ∃ k, L.length = k + 1 := ⟨L.length - 1, by simp at hlen; omega⟩
    rw [hk] at hh ⊢
    rw [ordG, hn, h2]
    simp only [Nat.add_sub_cancel] at hh
    rw [hh]
/-- Each order of n numbers is drawn by the bytes that tell it. -/
theorem ord_again (n : Nat) (hn : n ≤ 256) (r : List UInt8) : ordG n (List.range n) (codeL (ordG n (List.range n) r).1) = ((ordG n (List.range n) r).1, []) := by
  have h := ordG_code (ordG n (List.range n) r).1 (List.range n) List.pairwise_lt_range (ordG_perm n _ r List.length_range).symm (by rw [List.length_range]; exact hn)
  rwa [List.length_range] at h
theorem ord_len (n : Nat) (r : List UInt8) : (ordG n (List.range n) r).1.length = n := by
  rw [(ordG_perm n _ r List.length_range).length_eq, List.length_range]
theorem ord_lt (n : Nat) (r : List UInt8) : ∀ x ∈ (ordG n (List.range n) r).1, x < n := fun _ hx => List.mem_range.1 ((ordG_perm n _ r List.length_range).mem_iff.1 hx)
theorem ord_nodup (n : Nat) (r : List UInt8) : (ordG n (List.range n) r).1.Nodup := (ordG_perm n _ r List.length_range).nodup_iff.2 List.nodup_range
end Go.Proofs.Ytbfhfnbhfeedbaa
end
section
namespace Go.Proofs.Ytbfhfnbhfeedbaa
set_option maxRecDepth 100000
open Go.RowKit
section
variable {w w' : World} {h : Nat} {A : Option Addr} {c : Nat} {xs r : List UInt8}
def NmRel (w : World) (h : Nat) (A : Option Addr) (c : Nat) (xs r : List UInt8) (m0 : Nat) (v u : Value) (w' : World) : Prop :=
  ∃ (m x i : Nat) (r' : List UInt8), u = .int .u64 (m : Int) ∧ v = .int .u64 (x : Int) ∧ numX m0 0 r = numX m x r' ∧ i ≤ 8 ∧ m < 256 ^ (8 - i) ∧ x < 256 ^ i ∧ RS w' h A c xs r' ∧ w.grownBy w' (some h)
theorem snum_any (s : RS w h A c xs r) (n : Int) (hn : n ≤ 9223372036854775807) : Calls Try.prog 15 #[.pointer (some ⟨h, 0, none⟩), .int .i64 n] w fun e w' => e = .returned (.int .i64 ((numL n r).1 : Int)) ∧ RS w' h A c xs (numL n r).2 ∧ w.grownBy w' (some h) := by
  by_cases h2 : n < 2
  · rw [numL_small h2]
    have HF := Lib.hid (And.intro s (World.grownBy.refl w (some h)))
    clear s
    go_enter Try.func15, Try.ntmps15
    go_wp2
    go_ret
    exact ⟨rfl, HF.out⟩
  · obtain ⟨N, rfl⟩ : ∃ N : Nat, n = (N : Int) + 1 := ⟨(n - 1).toNat, by omega⟩
    have hN : 0 < N := by omega
    have hN2 : N < 256 ^ 8 := by have : (256 : Nat) ^ 8 = 18446744073709551616 := by decide
                                 omega
    have R0 : Hid (NmRel w h A c xs r N (.int .u64 0) (.int .u64 (N : Int)) w) := Lib.hid ⟨N, 0, 0, r, rfl, rfl, rfl, by omega, hN2, by decide, s, World.grownBy.refl _ _⟩
    have e1 : numL ((N : Int) + 1) r = ((numX N 0 r).1 % (N + 1), (numX N 0 r).2) := by
      unfold numL
      rw [if_neg h2, show ((N : Int) + 1).toNat = N + 1 from by omega, Nat.add_sub_cancel]
    rw [e1]
    have hmod : (numX N 0 r).1 % (N + 1) < N + 1 := Nat.mod_lt _ (by omega)
    have HM : Hid ((numX N 0 r).1 % (N + 1) < N + 1) := Lib.hid hmod
    clear s e1 hmod hN2
    go_enter Try.func15, Try.ntmps15
    go_upto_region 5 with fail
    go_loopw [5, 6] (NmRel w h A c xs r N) (fun _ u _ => (intOf u).toNat)
    case atStart => exact R0.out
    case round =>
      obtain ⟨m, x, i, r', rfl, rfl, he, hi, hm, hx, hs, hg⟩ := hrel
      clear R0
      by_cases h0 : 0 < m
      · have hi8 : i < 8 := by
          rcases Nat.lt_or_ge i 8 with h | h
          · exact h
          · rw [show 8 - i = 0 from by omega] at hm
            simp at hm; omega
        have hb := (r'.headD 0).toNat_lt
        have hx3 : x * 256 + 255 < 18446744073709551616 := by
          have h7 : x < 256 ^ 7 := Nat.lt_of_lt_of_le hx (Nat.pow_le_pow_right (by omega) (by omega))
          have : (256 : Nat) ^ 7 = 72057594037927936 := by decide
          omega
        have hmm : m / 256 < 256 ^ (8 - (i + 1)) := by
          rw [show 8 - i = (8 - (i + 1)) + 1 from by omega, Nat.pow_succ] at hm
          exact Nat.div_lt_of_lt_mul (by rw [Nat.mul_comm]; exact hm)
        have hxx : x * 256 + (r'.headD 0).toNat < 256 ^ (i + 1) := by rw [Nat.pow_succ]; omega
        have hm9 : m < 18446744073709551616 := Nat.lt_of_lt_of_le hm (Nat.le_trans (Nat.pow_le_pow_right (by omega) (show 8 - i ≤ 8 by omega)) (by decide))
        have hm8 : (m : Int) / 256 < 18446744073709551616 := by omega
        have hm7 : 0 ≤ (m : Int) / 256 := by omega
        have HB := Lib.hid (sbyte_any hs)
        have HREL : Hid (∀ w', RS w' h A c xs r'.tail → wr.grownBy w' (some h) → NmRel w h A c xs r N (.int .u64 ((x : Int) * 256 + ((r'.headD 0).toNat : Int))) (.int .u64 ((m / 256 : Nat) : Int)) w') := Lib.hid (fun w' a b => ⟨m / 256, x * 256 + (r'.headD 0).toNat, i + 1, r'.tail, rfl, by go_num, he.trans (numX_step h0 x r'), by omega, hmm, hxx, a, grownBy_trans hg b⟩)
        have hdiv : ((m / 256 : Nat) : Int) = (m : Int) / 256 := by omega
        rw [hdiv] at HREL
        clear hs hg he hm hx hmm hxx hdiv
        generalize (r'.headD 0).toNat = b at *
        have hx1 : (x : Int) * 256 < 18446744073709551616 := by omega
        have hx2 : (x : Int) * 256 + (b : Int) < 18446744073709551616 := by omega
        have h0' : (0 : Int) < (m : Int) := by omega
        go_upto_region 6 with (go_at_call 13; (with_reducible refine HB.out.mono ?_); rintro e w2 ⟨rfl, hs2, hg2⟩)
        have HR2 := Lib.hid (HREL.out _ hs2 hg2)
        clear HREL hs2 hg2 HB
        go_wp2
        go_roundw
        case rel => exact HR2.out
        case measure => simp [intOf]; omega
      · obtain rfl : m = 0 := by omega
        rw [numX_zero] at he
        have hx3 : x < 18446744073709551616 := by
          have h7 : x < 256 ^ 8 := Nat.lt_of_lt_of_le hx (Nat.pow_le_pow_right (by omega) hi)
          have : (256 : Nat) ^ 8 = 18446744073709551616 := by decide
          omega
        have HF := Lib.hid (And.intro hs hg)
        rw [he] at HM
        have HE := Lib.hid he
        have hmi : ((x % (N + 1) : Nat) : Int) = (x : Int) % ((N : Int) + 1) := by simp
        have hml := HM.out
        simp only at hml
        have hmo : (x : Int) % ((N : Int) + 1) < (N : Int) + 1 := by omega
        have hmp : 0 ≤ (x : Int) % ((N : Int) + 1) := by omega
        clear hs hg he hx hm hml hmi
        go_wp2
        go_ret
        rw [HE.out]
        exact ⟨rfl, HF.out⟩
end
end Go.Proofs.Ytbfhfnbhfeedbaa
end
