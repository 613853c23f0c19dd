/- Contracts of a reader of package octet that was opened. Conditions: the bytes that are left are fewer than 900,000. -/
import Derived.Test.YtieeffebecghiaaDoorPDia
import Derived.WalkKit
import Derived.Deep.AppendSrc
import Derived.Laws.BytesString
import Derived.Laws.CopyOwn
import Derived.Deep.AppendLies
import Derived.Deep.Draws
import Derived.WalkSpells
import Derived.WalkLawsBesides
import Derived.Lib.Hide
import Derived.Outline
import Derived.Laws.BitsAllLaws
import Derived.Laws.BitsLemmas
import Derived.Laws.Bits64
import Derived.LoopTactic
namespace Go.Proofs.YtieeffebecghiaaDoor
set_option linter.unusedVariables false
section
open Go.RowKit

section
variable {w w' : World} {B B' : Nat} {A : Option Addr} {xs : List UInt8}
end

end
section
open Go.RowKit

theorem isWidth_no (n : Int) (w : World) (h : ¬ (1 ≤ n ∧ n ≤ 8)) : Calls Tryd.prog 30 #[.int .i64 n] w fun e w' => e = .returned (.bool false) ∧ w = w' := by
  by_cases h1 : 1 ≤ n
  · have d2 : ¬ n ≤ 8 := by omega
    clear h
    go_enter Tryd.func30, Tryd.ntmps30
    go_wp2
    go_ret
    exact ⟨rfl, rfl⟩
  · clear h
    go_enter Tryd.func30, Tryd.ntmps30
    go_wp2
    go_ret
    exact ⟨rfl, rfl⟩

theorem clone_any (A : Option Addr) (c : Nat) (xs : List UInt8) (w : World) (hx : BAt w w.heap.size A xs) (hl : xs.length ≤ 1000000) :
    Calls Tryd.prog 31 #[.slice A xs.length c] w (OwnB w xs) := by
  obtain ⟨i0, hi, hz0, hz1, hz2⟩ := info_parts info5
  have hnil : ∀ (w : World) (a : Option Addr) (n c n' c' : Nat), (binOp .eql 31 (.slice a n c) (.slice none n' c')).run Tryd.prog w = .ok (.bool a.isNone) w := fun w a n c n' c' => Lib.run_eql_slice_nil w _ _ a n c n' c' Tryd.underlying31
  cases A with
  | none =>
    have := hx.none_
    subst this
    go_enter Tryd.func31, Tryd.ntmps31
    go_wp2
    go_ret
    exact ⟨_, rfl, World.ownsRow_nil _ _ _ _, Below.refl _ _⟩
  | some a =>
    have HL := Lib.hid hl
    clear hl
    go_enter Tryd.func31, Tryd.ntmps31
    go_wp2_with (at_builtin; refine wpList_append_src _ rfl (.tmp 5) (.tmp 6) _ _ rfl w.heap.size 5 i0 _ 1 Tryd.underlying31 hi hz0 hz1 hz2 rfl (.slice (some ⟨w.heap.size, 0, none⟩) 0 0) 0 [] rfl (World.ownsRow_made (e := 5) (size := 1) w #[] 0 (Nat.le_refl _) (Nat.zero_le _) rfl) _ xs.length (bcells xs) rfl ((hx.below ((Below.refl _ w).alloc (Nat.le_refl _) _)).src Tryd.underlying31 _) (by have := HL.out; simp only [maxLen]; omega) (by have := HL.out; omega) (by simp) ?_; intro v1 w1 hown1 hg1 hat1)
    go_ret
    exact ⟨v1, rfl, by simpa using hown1, ((Below.refl _ w).alloc (Nat.le_refl _) _).grown hg1 (by simp) (by simp [Value.ownBlock])⟩

end
section
end
section
open Go.RowKit
set_option linter.unusedVariables false

theorem get_no (A : Option Addr) (c : Nat) (xs : List UInt8) (at_ wd : Int) (w : World) (hl : xs.length ≤ 1000000) (ha : at_ ≤ 9223372036854775807) (hw : wd ≤ 9223372036854775807) (h : ¬ (1 ≤ wd ∧ wd ≤ 8 ∧ 0 ≤ at_ ∧ at_ + wd ≤ xs.length)) :
    Calls Tryd.prog 48 #[.slice A xs.length c, .int .i64 at_, .int .i64 wd] w fun e w' => e = .returned (.tuple #[.int .u64 0, .bool false]) ∧ w = w' := by
  by_cases h1 : 1 ≤ wd ∧ wd ≤ 8
  · by_cases h2 : 0 ≤ at_
    · have h3 : (xs.length : Int) - at_ < wd := by omega
      clear h
      go_enter Tryd.func48, Tryd.ntmps48
      go_wp2_with (go_at_call 30; refine (isWidth_yes _ _ h1.1 h1.2).mono ?_; rintro e w1 ⟨rfl, rfl⟩)
      go_ret2
      exact ⟨rfl, rfl⟩
    · clear h
      go_enter Tryd.func48, Tryd.ntmps48
      go_wp2_with (go_at_call 30; refine (isWidth_yes _ _ h1.1 h1.2).mono ?_; rintro e w1 ⟨rfl, rfl⟩)
      go_ret2
      exact ⟨rfl, rfl⟩
  · clear h
    go_enter Tryd.func48, Tryd.ntmps48
    go_wp2_with (go_at_call 30; refine (isWidth_no _ _ h1).mono ?_; rintro e w1 ⟨rfl, rfl⟩)
    go_ret2
    exact ⟨rfl, rfl⟩

end
section
open Go.RowKit
set_option linter.unusedVariables false

/-- Where a slice lies from place k on, and up to a place. -/
def cutA (A : Option Addr) (c k : Nat) : Option Addr := if c = k then A else A.map (·.add k)
theorem addr_add (g off k : Nat) : (⟨g, off, none⟩ : Addr).add k = ⟨g, off + k, none⟩ := by
  unfold Addr.add
  split <;> simp_all

theorem BAt.cut {w : World} {B c k : Nat} {A : Option Addr} {ys : List UInt8} (h : BAt w B A ys) (hk : k ≤ ys.length) (hc : ys.length ≤ c) : BAt w B (cutA A c k) (ys.drop k) := by
  by_cases hn : ys.length = k
  · left
    exact List.drop_eq_nil_of_le (by omega)
  · obtain ⟨g, off, rfl, hg, hcell⟩ := h.some_ (by omega)
    right
    refine ⟨g, off + k, by unfold cutA; rw [if_neg (by omega), Option.map_some, addr_add], hg, fun j hj => ?_⟩
    rw [List.length_drop] at hj
    rw [Nat.add_assoc, hcell (k + j) (by omega), List.getElem_drop]
theorem size5 (W : World) : (sizeOf (Tryd.prog.elem 31)).run Tryd.prog W = .ok 1 W := by
  obtain ⟨i0, hi, hz0, hz1, hz2⟩ := info_parts info5
  have : Tryd.prog.elem 31 = 5 := by kernel_rfl
  rw [this]
  simp [sizeOf, typeInfo, hi, hz1]
theorem under31 : Tryd.prog.underlying 31 = some (.slice (Tryd.prog.elem 31)) := by kernel_rfl

theorem run_cut (A : Option Addr) (n c k : Nat) (hk : k ≤ n) (W : World) :
    (Instr.slice 31 (.slice A n c) (some (.int .i64 (k : Int))) none none).run Tryd.prog W = .ok (.slice (cutA A c k) (n - k) (c - k)) W := by
  rw [run_slice_l W 31 A n c under31 .i64 k (by omega) (by omega), size5]
  simp [Result.andThen, sliced, cutA]
theorem grownBy_setCell {w w1 : World} {g : Nat} (h : w.grownBy w1 (some g)) (j : Nat) (u : Value) : w.grownBy (w1.setCell ⟨g, j, none⟩ u) (some g) :=
  ⟨h.os, h.tape, h.output, by simpa [World.setCell] using h.size, fun i hi hne => (Below.heap_setCell w1 ⟨g, j, none⟩ u i (by rintro rfl; exact hne rfl)).trans (h.block i hi hne)⟩

/-- A reader in block g: the bytes that are left, and whether it is bad. -/
def Rdr (w : World) (g : Nat) (ys : List UInt8) (bad : Bool) : Prop :=
  ∃ A c, w.heap[g]? = some (.cells #[.slice A ys.length c, .bool true, .bool bad] 70 (0, 0)) ∧ BAt w w.heap.size A ys ∧ ys.length ≤ c

theorem rest_left (g n c : Nat) (A : Option Addr) (w : World) (h0 : w.cell? ⟨g, 0, none⟩ = some (.slice A n c)) : Calls Tryd.prog 41 #[.pointer (some ⟨g, 0, none⟩)] w fun e w' => e = .returned (.int .i64 (n : Int)) ∧ w = w' := by
  go_enter Tryd.func41, Tryd.ntmps41
  go_wp2
  go_ret
  exact ⟨rfl, rfl⟩

theorem fail_any (g : Nat) (a b c : Value) (w : World) (h : w.heap[g]? = some (.cells #[a, b, c] 70 (0, 0))) : Calls Tryd.prog 39 #[.pointer (some ⟨g, 0, none⟩)] w fun e w' => e = .returned (.tuple #[]) ∧ Rdr w' g [] true ∧ w.grownBy w' (some g) := by
  have c0 := cell_of_row w g 0 _ 70 (0, 0) h
  have c1 := cell_of_row w g 1 _ 70 (0, 0) h
  have c2 := cell_of_row w g 2 _ 70 (0, 0) h
  have f := fun i => frozen_of_row w g i _ 70 h
  simp at c0 c1 c2
  have H := Lib.hid h
  clear h
  go_enter Tryd.func39, Tryd.ntmps39
  go_wp2
  go_end0
  have s0 := heap_setCell_same w g 0 _ 70 (.slice none 0 0) H.out
  have s1 := heap_setCell_same _ g 1 _ 70 (.bool true) s0
  have s2 := heap_setCell_same _ g 2 _ 70 (.bool true) s1
  refine ⟨rfl, ⟨none, 0, by simpa using s2, .inl rfl, Nat.le_refl _⟩, ?_⟩
  exact grownBy_setCell (grownBy_setCell (grownBy_setCell (World.grownBy.refl w _) _ _) _ _) _ _

/-- What lies in bytes lies in no block of a reader. -/
theorem BAt.ne {w : World} {B g : Nat} {A : Option Addr} {ys : List UInt8} {a b c : Value} {t : TypeId} (h : BAt w B A ys) (hg : w.heap[g]? = some (.cells #[a, b, c] t (0, 0)))
    (ha : ∀ n, a ≠ .int .u8 n) (hb : ∀ n, b ≠ .int .u8 n) (hc : ∀ n, c ≠ .int .u8 n) : ∀ g' off, A = some ⟨g', off, none⟩ → ys ≠ [] → g' ≠ g := by
  rintro g' off rfl hy rfl
  obtain ⟨g2, off2, he, _, hcell⟩ := h.some_ (List.length_pos_iff.2 hy)
  injection he with he
  injection he with h1 h2
  subst h1 h2
  have hp : 0 < ys.length := List.length_pos_iff.2 hy
  have := hcell 0 hp
  rw [cell_of_row w g' _ _ t (0, 0) hg, Nat.add_zero] at this
  match off, this with
  | 0, this => simp at this; exact ha _ this
  | 1, this => simp at this; exact hb _ this
  | 2, this => simp at this; exact hc _ this
  | n + 3, this => simp at this
theorem BAt.set {w : World} {B g j : Nat} {A : Option Addr} {ys : List UInt8} (h : BAt w B A ys) (u : Value) (hne : ∀ g' off, A = some ⟨g', off, none⟩ → ys ≠ [] → g' ≠ g) : BAt (w.setCell ⟨g, j, none⟩ u) B A ys := by
  rcases h with rfl | ⟨g', off, rfl, hg, hc⟩
  · exact .inl rfl
  · by_cases hy : ys = []
    · exact .inl hy
    · exact .inr ⟨g', off, rfl, hg, fun i hi => (World.cell?_setCell_other w _ _ u (fun e => by
        have := hne g' off rfl hy
        simp only [Addr.mk.injEq] at e
        exact this e.1.symm)).trans (hc i hi)⟩

/-- The reader behind a cut. -/
theorem rdr_cut {w : World} {g c k : Nat} {A : Option Addr} {ys : List UInt8} {bad : Bool} (h : w.heap[g]? = some (.cells #[.slice A ys.length c, .bool true, .bool bad] 70 (0, 0))) (hx : BAt w w.heap.size A ys) (hc : ys.length ≤ c) (hk : k ≤ ys.length) :
    Rdr (w.setCell ⟨g, 0, none⟩ (.slice (cutA A c k) (ys.length - k) (c - k))) g (ys.drop k) bad := by
  refine ⟨cutA A c k, c - k, ?_, ?_, by rw [List.length_drop]; omega⟩
  · have s0 := heap_setCell_same w g 0 _ 70 (.slice (cutA A c k) (ys.length - k) (c - k)) h
    rw [List.length_drop]
    simpa using s0
  · have hx' : BAt w w.heap.size (cutA A c k) (ys.drop k) := hx.cut hk hc
    have := hx'.set (j := 0) (.slice (cutA A c k) (ys.length - k) (c - k)) (hx'.ne h (by simp) (by simp) (by simp))
    simpa [World.setCell] using this

theorem number_no (g c : Nat) (A : Option Addr) (ys : List UInt8) (wd : Int) (w : World) (h0 : w.cell? ⟨g, 0, none⟩ = some (.slice A ys.length c)) (hl : ys.length ≤ 900000) (hw : wd ≤ 9223372036854775807) (hn : ¬ (1 ≤ wd ∧ wd ≤ 8 ∧ wd ≤ ys.length)) :
    Calls Tryd.prog 38 #[.pointer (some ⟨g, 0, none⟩), .int .i64 wd] w fun e w' => e = .returned (.tuple #[.int .u64 0, .bool false]) ∧ w = w' := by
  have hG := get_no A c ys 0 wd w (by omega) (by omega) hw (by omega)
  have HG := Lib.hid hG
  clear hG hn
  go_enter Tryd.func38, Tryd.ntmps38
  go_wp2_with (go_at_call 48; refine (HG.out).mono ?_; rintro e w1 ⟨rfl, rfl⟩)
  go_ret2
  exact ⟨rfl, rfl⟩

theorem number_yes (g c k : Nat) (A : Option Addr) (ys : List UInt8) (w : World) (h0 : w.cell? ⟨g, 0, none⟩ = some (.slice A ys.length c)) (f0 : w.frozen? ⟨g, 0, none⟩ = false) (hx : BAt w w.heap.size A ys) (hl : ys.length ≤ 900000) (h1 : 1 ≤ k) (h8 : k ≤ 8) (hk : k ≤ ys.length) :
    Calls Tryd.prog 38 #[.pointer (some ⟨g, 0, none⟩), .int .i64 (k : Int)] w fun e w' => e = .returned (.tuple #[.int .u64 (getN (ys.take k) : Int), .bool true]) ∧ w.setCell ⟨g, 0, none⟩ (.slice (cutA A c k) (ys.length - k) (c - k)) = w' := by
  have hG : Calls Tryd.prog 48 #[.slice A ys.length c, .int .i64 0, .int .i64 (k : Int)] w fun e w' => e = .returned (.tuple #[.int .u64 (getN (ys.take k) : Int), .bool true]) ∧ w = w' := by
    simpa using get_yes A c ys 0 k w hx (by omega) h1 h8 (by omega)
  have HG := Lib.hid hG
  have hcut := fun W => run_cut A ys.length c k hk W
  clear hG hx
  go_enter Tryd.func38, Tryd.ntmps38
  go_wp2_with (go_at_call 48; refine (HG.out).mono ?_; rintro e w1 ⟨rfl, rfl⟩)
  go_ret2
  exact ⟨rfl, rfl⟩

end
section
/-- A reader: what is left, and whether it is bad. -/
structure St where
  ys : List UInt8
  bad : Bool

def numOk (s : St) (wd : Int) : Prop := s.bad = false ∧ 1 ≤ wd ∧ wd ≤ 8 ∧ wd ≤ s.ys.length
instance (s : St) (wd : Int) : Decidable (numOk s wd) := by unfold numOk; exact inferInstance
def numV (s : St) (wd : Int) : Nat := if numOk s wd then getN (s.ys.take wd.toNat) else 0
def numS (s : St) (wd : Int) : St := if numOk s wd then ⟨s.ys.drop wd.toNat, false⟩ else ⟨[], true⟩

/-- What Done tells. -/
def doneE (s : St) : Int := if s.bad = true ∨ 0 < s.ys.length then 10 else 0

end
section
open Go.RowKit
set_option linter.unusedVariables false

/-- A reader in block g that is as s says. -/
def RdrS (w : World) (g : Nat) (s : St) : Prop := Rdr w g s.ys s.bad ∧ (s.bad = true → s.ys = []) ∧ s.ys.length ≤ 900000

theorem isOpen_yes (g : Nat) (w : World) (h1 : w.cell? ⟨g, 1, none⟩ = some (.bool true)) : Calls Tryd.prog 40 #[.pointer (some ⟨g, 0, none⟩)] w fun e w' => e = .returned (.bool true) ∧ w = w' := by
  go_enter Tryd.func40, Tryd.ntmps40
  go_wp2
  go_ret
  exact ⟨rfl, rfl⟩

section
variable {w : World} {g : Nat} {s : St}
theorem RdrS.cells (h : RdrS w g s) : ∃ A c, w.heap[g]? = some (.cells #[.slice A s.ys.length c, .bool true, .bool s.bad] 70 (0, 0)) ∧ BAt w w.heap.size A s.ys ∧ s.ys.length ≤ c ∧
    w.cell? ⟨g, 0, none⟩ = some (.slice A s.ys.length c) ∧ w.cell? ⟨g, 1, none⟩ = some (.bool true) ∧ w.cell? ⟨g, 2, none⟩ = some (.bool s.bad) ∧ (∀ i, w.frozen? ⟨g, i, none⟩ = false) := by
  obtain ⟨⟨A, c, h, hx, hc⟩, _⟩ := h
  have c0 := cell_of_row w g 0 _ 70 (0, 0) h
  have c1 := cell_of_row w g 1 _ 70 (0, 0) h
  have c2 := cell_of_row w g 2 _ 70 (0, 0) h
  simp at c0 c1 c2
  exact ⟨A, c, h, hx, hc, c0, c1, c2, fun i => frozen_of_row w g i _ 70 h⟩

theorem bad_any (h : RdrS w g s) : Calls Tryd.prog 37 #[.pointer (some ⟨g, 0, none⟩)] w fun e w' => e = .returned (.bool s.bad) ∧ w = w' := by
  obtain ⟨A, c, hh, hx, hc, c0, c1, c2, hf⟩ := h.cells
  have HI := Lib.hid (isOpen_yes g w c1)
  clear hh hx h
  go_enter Tryd.func37, Tryd.ntmps37
  go_wp2_with (go_at_call 40; refine (HI.out).mono ?_; rintro e w1 ⟨rfl, rfl⟩)
  go_ret
  exact ⟨rfl, rfl⟩

theorem done_any (h : RdrS w g s) : Calls Tryd.prog 28 #[.pointer (some ⟨g, 0, none⟩)] w fun e w' => e = .returned (.int .i64 (doneE s)) ∧ w = w' := by
  obtain ⟨A, c, hh, hx, hc, c0, c1, c2, hf⟩ := h.cells
  have HI := Lib.hid (isOpen_yes g w c1)
  have HL := Lib.hid (rest_left g s.ys.length c A w c0)
  unfold doneE
  clear hh hx h
  by_cases hb : s.bad = true
  · rw [if_pos (.inl hb)]
    rw [hb] at c2
    go_enter Tryd.func28, Tryd.ntmps28
    go_wp2_with (first
      | (go_at_call 40; refine (HI.out).mono ?_; rintro e w1 ⟨rfl, rfl⟩)
      | (go_at_call 41; refine (HL.out).mono ?_; rintro e w1 ⟨rfl, rfl⟩))
    go_ret
    exact ⟨rfl, rfl⟩
  · have hb' : s.bad = false := by simpa using hb
    rw [hb'] at c2
    by_cases hl : 0 < s.ys.length
    · rw [if_pos (.inr hl)]
      clear hb hb'
      have d : decide ((0 : Int) < (s.ys.length : Int)) = true := by simpa using hl
      go_enter Tryd.func28, Tryd.ntmps28
      go_wp2_with (first
        | (go_at_call 40; refine (HI.out).mono ?_; rintro e w1 ⟨rfl, rfl⟩)
        | (go_at_call 41; refine (HL.out).mono ?_; rintro e w1 ⟨rfl, rfl⟩))
      go_ret
      exact ⟨rfl, rfl⟩
    · rw [if_neg (fun h => h.elim hb hl)]
      clear hb hb'
      have d : decide ((0 : Int) < (s.ys.length : Int)) = false := by simpa using hl
      go_enter Tryd.func28, Tryd.ntmps28
      go_wp2_with (first
        | (go_at_call 40; refine (HI.out).mono ?_; rintro e w1 ⟨rfl, rfl⟩)
        | (go_at_call 41; refine (HL.out).mono ?_; rintro e w1 ⟨rfl, rfl⟩))
      go_ret
      exact ⟨rfl, rfl⟩

theorem RdrS.failed (h : Rdr w g [] true) : RdrS w g ⟨[], true⟩ := ⟨h, fun _ => rfl, by simp⟩
theorem RdrS.eta (h : RdrS w g s) (hb : s.bad = true) : RdrS w g ⟨[], true⟩ := by
  obtain ⟨h1, h2, h3⟩ := h
  have := h2 hb
  rw [this, hb] at h1
  exact RdrS.failed h1

/-- What a call of a reader leaves. -/
def NumP (w : World) (g : Nat) (s : St) (wd : Int) (e : Ending) (w' : World) : Prop := e = .returned (.int .u64 (numV s wd : Int)) ∧ RdrS w' g (numS s wd) ∧ w.grownBy w' (some g)

theorem num_any (h : RdrS w g s) (wd : Int) (hw : wd ≤ 9223372036854775807) : Calls Tryd.prog 27 #[.pointer (some ⟨g, 0, none⟩), .int .i64 wd] w (NumP w g s wd) := by
  obtain ⟨A, c, hh, hx, hc, c0, c1, c2, hf⟩ := h.cells
  have hlen := h.2.2
  have HB := Lib.hid (bad_any h)
  by_cases hb : s.bad = true
  · have hno : ¬ numOk s wd := fun hk => hb.symm.trans hk.1 |> fun h => by cases h
    have R : NumP w g s wd (.returned (.int .u64 0)) w := ⟨by simp [numV, hno], by simp only [numS, if_neg hno]; exact h.eta hb, World.grownBy.refl w _⟩
    have HR := Lib.hid R
    rw [hb] at HB
    clear hh hx h R hb hno
    go_enter Tryd.func27, Tryd.ntmps27
    go_wp2_with (go_at_call 37; refine (HB.out).mono ?_; rintro e w1 ⟨rfl, rfl⟩)
    go_ret
    exact HR.out
  · have hb' : s.bad = false := by simpa using hb
    rw [hb'] at HB
    by_cases hk : 1 ≤ wd ∧ wd ≤ 8 ∧ wd ≤ s.ys.length
    · obtain ⟨k, rfl⟩ : ∃ k : Nat, wd = k := ⟨wd.toNat, by omega⟩
      have hok : numOk s (k : Int) := ⟨hb', hk⟩
      have HN := Lib.hid (number_yes g c k A s.ys w c0 (hf 0) hx hlen (by omega) (by omega) (by omega))
      have R : NumP w g s k (.returned (.int .u64 (getN (s.ys.take k) : Int))) (w.setCell ⟨g, 0, none⟩ (.slice (cutA A c k) (s.ys.length - k) (c - k))) := by
        refine ⟨by simp [numV, hok], ?_, grownBy_setCell (World.grownBy.refl w _) _ _⟩
        simp only [numS, if_pos hok, Int.toNat_natCast]
        rw [hb'] at hh
        exact ⟨rdr_cut hh hx hc (by omega), by simp, by simp only [List.length_drop]; omega⟩
      have HR := Lib.hid R
      clear hh hx h R hb hb' hok
      go_enter Tryd.func27, Tryd.ntmps27
      go_wp2_with (first
        | (go_at_call 37; refine (HB.out).mono ?_; rintro e w1 ⟨rfl, rfl⟩)
        | (go_at_call 38; refine (HN.out).mono ?_; rintro e w1 ⟨rfl, rfl⟩))
      go_ret
      exact HR.out
    · have hno : ¬ numOk s wd := fun h' => hk h'.2
      have HN := Lib.hid (number_no g c A s.ys wd w c0 hlen hw hk)
      have HF := Lib.hid (fail_any g _ _ _ w hh)
      have R : ∀ w', Rdr w' g [] true ∧ w.grownBy w' (some g) → NumP w g s wd (.returned (.int .u64 0)) w' := fun w' hw' => ⟨by simp [numV, hno], by simp only [numS, if_neg hno]; exact RdrS.failed hw'.1, hw'.2⟩
      have HR := Lib.hid R
      clear hh hx h R hb hb' hno hk
      go_enter Tryd.func27, Tryd.ntmps27
      go_wp2_with (first
        | (go_at_call 37; refine (HB.out).mono ?_; rintro e w1 ⟨rfl, rfl⟩)
        | (go_at_call 38; refine (HN.out).mono ?_; rintro e w1 ⟨rfl, rfl⟩)
        | (go_at_call 39; refine (HF.out).mono ?_; rintro e w1 ⟨rfl, hr1⟩))
      go_ret
      exact HR.out _ hr1
end
end
section
open Go.RowKit
set_option linter.unusedVariables false

section
variable {w w' : World} {g : Nat} {s : St}
theorem RdrS.keep (h : RdrS w g s) (hg : w'.heap[g]? = w.heap[g]?) (hs : w.heap.size ≤ w'.heap.size) (hx : ∀ A, BAt w w.heap.size A s.ys → BAt w' w.heap.size A s.ys) : RdrS w' g s := by
  obtain ⟨⟨A, c, h1, h2, h3⟩, h4⟩ := h
  exact ⟨⟨A, c, hg.trans h1, (hx A h2).more hs, h3⟩, h4⟩
theorem RdrS.lt (h : RdrS w g s) : g < w.heap.size := by
  obtain ⟨⟨A, c, h1, h2, h3⟩, h4⟩ := h
  exact (Array.getElem?_eq_some_iff.1 h1).1
theorem RdrS.below {B : Nat} (h : RdrS w g s) (hb : Below B w w') (hB : w.heap.size ≤ B) : RdrS w' g s :=
  h.keep (hb.block g (Nat.lt_of_lt_of_le h.lt hB)) hb.size fun A hx => hx.below (hb.mono hB)
/-- Open. -/
theorem open_any (A : Option Addr) (c : Nat) (xs : List UInt8) (w : World) (hx : BAt w w.heap.size A xs) (hl : xs.length ≤ 900000) :
    Calls Tryd.prog 26 #[.slice A xs.length c] w fun e w' => ∃ g, e = .returned (.pointer (some ⟨g, 0, none⟩)) ∧ w.heap.size ≤ g ∧ RdrS w' g ⟨xs, false⟩ ∧ Below w.heap.size w w' := by
  have hC : Calls Tryd.prog 31 #[.slice A xs.length c] w fun e w' => ∃ A1 c1, e = .returned (.slice A1 xs.length c1) ∧ w'.ownsRow w.heap.size 5 1 (.slice A1 xs.length c1) xs.length (bcells xs) ∧ Below w.heap.size w w' :=
    (clone_any A c xs w hx (by omega)).mono fun e w' ⟨v, he, ho, hb⟩ => by
      obtain ⟨A1, c1, rfl⟩ := slice_of_own ho
      exact ⟨A1, c1, he, ho, hb⟩
  have HC := Lib.hid hC
  clear hx hC
  go_enter Tryd.func26, Tryd.ntmps26
  go_wp2_with (go_at_call 31; refine (HC.out).mono ?_; rintro e w1 ⟨A1, c1, rfl, ho1, hb1⟩)
  go_ret
  refine ⟨_, rfl, hb1.size, ⟨⟨A1, c1, heap_alloc_new w1 _, ?_, ?_⟩, by simp, hl⟩, hb1.alloc hb1.size _⟩
  · have := BAt.of_own ho1 (Nat.le_refl _)
    exact (this.below ((Below.refl _ w1).alloc (Nat.le_refl _) _)).more (by simp)
  · rcases ho1.2 with ⟨h, h'⟩ | ⟨g, cap, cur, h, _, _, h', _⟩
    · simp only [Value.slice.injEq] at h
      have : xs.length = 0 := h'
      show xs.length ≤ c1
      omega
    · simp only [Value.slice.injEq] at h
      show xs.length ≤ c1
      omega

end
end
end Go.Proofs.YtieeffebecghiaaDoor
