/- A reader of package octet in memory, and contracts of the calls that read: Num, Take, Text, Left, Bad, Done. Conditions: the bytes that are left are fewer than 900,000. -/
import Derived.Test.YteglihgoccemmaaOctd
namespace Go.Proofs.Yteglihgoccemmaa
open Go.RowKit
set_option linter.unusedVariables false

/-- Where a slice lies from place k on, and up to a place. -/
def cutA (A : Option Addr) (c k : Nat) : Option Addr := if c = k then A else A.map (·.add k)
def headA (A : Option Addr) (c : Nat) : Option Addr := if c = 0 then A else A.map (·.add 0)

theorem addr_add (g off k : Nat) : (⟨g, off, none⟩ : Addr).add k = ⟨g, off + k, none⟩ := by
  unfold Addr.add
  split <;> simp_all

theorem BAt.cut {w : World} {B c k : Nat} {A : Option Addr} {ys : List UInt8} (h : BAt w B A ys) (hk : k ≤ ys.length) (hc : ys.length ≤ c) : BAt w B (cutA A c k) (ys.drop k) := by
  by_cases hn : ys.length = k
  · left
    exact List.drop_eq_nil_of_le (by omega)
  · obtain ⟨g, off, rfl, hg, hcell⟩ := h.some_ (by omega)
    right
    refine ⟨g, off + k, by unfold cutA; rw [if_neg (by omega), Option.map_some, addr_add], hg, fun j hj => ?_⟩
    rw [List.length_drop] at hj
    rw [Nat.add_assoc, hcell (k + j) (by omega), List.getElem_drop]
theorem BAt.head {w : World} {B c k : Nat} {A : Option Addr} {ys : List UInt8} (h : BAt w B A ys) (hc : ys.length ≤ c) : BAt w B (headA A c) (ys.take k) := by
  by_cases hn : (ys.take k).length = 0
  · left
    exact List.eq_nil_of_length_eq_zero hn
  · rw [List.length_take] at hn
    obtain ⟨g, off, rfl, hg, hcell⟩ := h.some_ (by omega)
    right
    refine ⟨g, off, by unfold headA; rw [if_neg (by omega), Option.map_some, addr_add, Nat.add_zero], hg, fun j hj => ?_⟩
    rw [List.length_take] at hj
    rw [hcell j (by omega), List.getElem_take]

theorem size5 (W : World) : (sizeOf (Try.prog.elem 22)).run Try.prog W = .ok 1 W := by
  obtain ⟨i0, hi, hz0, hz1, hz2⟩ := info_parts info5
  have : Try.prog.elem 22 = 5 := by kernel_rfl
  rw [this]
  simp [sizeOf, typeInfo, hi, hz1]
theorem under22 : Try.prog.underlying 22 = some (.slice (Try.prog.elem 22)) := by kernel_rfl

theorem run_cut (A : Option Addr) (n c k : Nat) (hk : k ≤ n) (W : World) :
    (Instr.slice 22 (.slice A n c) (some (.int .i64 (k : Int))) none none).run Try.prog W = .ok (.slice (cutA A c k) (n - k) (c - k)) W := by
  rw [run_slice_l W 22 A n c under22 .i64 k (by omega) (by omega), size5]
  simp [Result.andThen, sliced, cutA]
theorem run_head (A : Option Addr) (n c k : Nat) (hk : k ≤ c) (W : World) :
    (Instr.slice 22 (.slice A n c) none (some (.int .i64 (k : Int))) none).run Try.prog W = .ok (.slice (headA A c) k c) W := by
  rw [run_slice_h W 22 A n c under22 .i64 k (by omega) (by omega), size5]
  simp [Result.andThen, sliced, headA]

theorem grownBy_setCell {w w1 : World} {g : Nat} (h : w.grownBy w1 (some g)) (j : Nat) (u : Value) : w.grownBy (w1.setCell ⟨g, j, none⟩ u) (some g) :=
  ⟨h.os, h.tape, h.output, by simpa [World.setCell] using h.size, fun i hi hne => (Below.heap_setCell w1 ⟨g, j, none⟩ u i (by rintro rfl; exact hne rfl)).trans (h.block i hi hne)⟩

/-- A reader in block g: the bytes that are left, and whether it is bad. -/
def Rdr (w : World) (g : Nat) (ys : List UInt8) (bad : Bool) : Prop :=
  ∃ A c, w.heap[g]? = some (.cells #[.slice A ys.length c, .bool true, .bool bad] 57 (0, 0)) ∧ BAt w w.heap.size A ys ∧ ys.length ≤ c

theorem rest_left (g n c : Nat) (A : Option Addr) (w : World) (h0 : w.cell? ⟨g, 0, none⟩ = some (.slice A n c)) : Calls Try.prog 50 #[.pointer (some ⟨g, 0, none⟩)] w fun e w' => e = .returned (.int .i64 (n : Int)) ∧ w = w' := by
  go_enter Try.func50, Try.ntmps50
  go_wp2
  go_ret
  exact ⟨rfl, rfl⟩

theorem fail_any (g : Nat) (a b c : Value) (w : World) (h : w.heap[g]? = some (.cells #[a, b, c] 57 (0, 0))) : Calls Try.prog 45 #[.pointer (some ⟨g, 0, none⟩)] w fun e w' => e = .returned (.tuple #[]) ∧ Rdr w' g [] true ∧ w.grownBy w' (some g) := by
  have c0 := cell_of_row w g 0 _ 57 (0, 0) h
  have c1 := cell_of_row w g 1 _ 57 (0, 0) h
  have c2 := cell_of_row w g 2 _ 57 (0, 0) h
  have f := fun i => frozen_of_row w g i _ 57 h
  simp at c0 c1 c2
  have H := Lib.hid h
  clear h
  go_enter Try.func45, Try.ntmps45
  go_wp2
  go_end0
  have s0 := heap_setCell_same w g 0 _ 57 (.slice none 0 0) H.out
  have s1 := heap_setCell_same _ g 1 _ 57 (.bool true) s0
  have s2 := heap_setCell_same _ g 2 _ 57 (.bool true) s1
  refine ⟨rfl, ⟨none, 0, by simpa using s2, .inl rfl, Nat.le_refl _⟩, ?_⟩
  exact grownBy_setCell (grownBy_setCell (grownBy_setCell (World.grownBy.refl w _) _ _) _ _) _ _

/-- What lies in bytes lies in no block of a reader. -/
theorem BAt.ne {w : World} {B g : Nat} {A : Option Addr} {ys : List UInt8} {a b c : Value} {t : TypeId} (h : BAt w B A ys) (hg : w.heap[g]? = some (.cells #[a, b, c] t (0, 0)))
    (ha : ∀ n, a ≠ .int .u8 n) (hb : ∀ n, b ≠ .int .u8 n) (hc : ∀ n, c ≠ .int .u8 n) : ∀ g' off, A = some ⟨g', off, none⟩ → ys ≠ [] → g' ≠ g := by
  rintro g' off rfl hy rfl
  obtain ⟨g2, off2, he, _, hcell⟩ := h.some_ (List.length_pos_iff.2 hy)
  injection he with he
  injection he with h1 h2
  subst h1 h2
  have hp : 0 < ys.length := List.length_pos_iff.2 hy
  have := hcell 0 hp
  rw [cell_of_row w g' _ _ t (0, 0) hg, Nat.add_zero] at this
  match off, this with
  | 0, this => simp at this; exact ha _ this
  | 1, this => simp at this; exact hb _ this
  | 2, this => simp at this; exact hc _ this
  | n + 3, this => simp at this
theorem BAt.set {w : World} {B g j : Nat} {A : Option Addr} {ys : List UInt8} (h : BAt w B A ys) (u : Value) (hne : ∀ g' off, A = some ⟨g', off, none⟩ → ys ≠ [] → g' ≠ g) : BAt (w.setCell ⟨g, j, none⟩ u) B A ys := by
  rcases h with rfl | ⟨g', off, rfl, hg, hc⟩
  · exact .inl rfl
  · by_cases hy : ys = []
    · exact .inl hy
    · exact .inr ⟨g', off, rfl, hg, fun i hi => (World.cell?_setCell_other w _ _ u (fun e => by
        have := hne g' off rfl hy
        simp only [Addr.mk.injEq] at e
        exact this e.1.symm)).trans (hc i hi)⟩

/-- The reader behind a cut. -/
theorem rdr_cut {w : World} {g c k : Nat} {A : Option Addr} {ys : List UInt8} {bad : Bool} (h : w.heap[g]? = some (.cells #[.slice A ys.length c, .bool true, .bool bad] 57 (0, 0))) (hx : BAt w w.heap.size A ys) (hc : ys.length ≤ c) (hk : k ≤ ys.length) :
    Rdr (w.setCell ⟨g, 0, none⟩ (.slice (cutA A c k) (ys.length - k) (c - k))) g (ys.drop k) bad := by
  refine ⟨cutA A c k, c - k, ?_, ?_, by rw [List.length_drop]; omega⟩
  · have s0 := heap_setCell_same w g 0 _ 57 (.slice (cutA A c k) (ys.length - k) (c - k)) h
    rw [List.length_drop]
    simpa using s0
  · have hx' : BAt w w.heap.size (cutA A c k) (ys.drop k) := hx.cut hk hc
    have := hx'.set (j := 0) (.slice (cutA A c k) (ys.length - k) (c - k)) (hx'.ne h (by simp) (by simp) (by simp))
    simpa [World.setCell] using this

theorem number_no (g c : Nat) (A : Option Addr) (ys : List UInt8) (wd : Int) (w : World) (h0 : w.cell? ⟨g, 0, none⟩ = some (.slice A ys.length c)) (hl : ys.length ≤ 900000) (hw : wd ≤ 9223372036854775807) (hn : ¬ (1 ≤ wd ∧ wd ≤ 8 ∧ wd ≤ ys.length)) :
    Calls Try.prog 44 #[.pointer (some ⟨g, 0, none⟩), .int .i64 wd] w fun e w' => e = .returned (.tuple #[.int .u64 0, .bool false]) ∧ w = w' := by
  have hG := get_no A c ys 0 wd w (by omega) (by omega) hw (by omega)
  have HG := Lib.hid hG
  clear hG hn
  go_enter Try.func44, Try.ntmps44
  go_wp2_with (go_at_call 12; refine (HG.out).mono ?_; rintro e w1 ⟨rfl, rfl⟩)
  go_ret2
  exact ⟨rfl, rfl⟩

theorem number_yes (g c k : Nat) (A : Option Addr) (ys : List UInt8) (w : World) (h0 : w.cell? ⟨g, 0, none⟩ = some (.slice A ys.length c)) (f0 : w.frozen? ⟨g, 0, none⟩ = false) (hx : BAt w w.heap.size A ys) (hl : ys.length ≤ 900000) (h1 : 1 ≤ k) (h8 : k ≤ 8) (hk : k ≤ ys.length) :
    Calls Try.prog 44 #[.pointer (some ⟨g, 0, none⟩), .int .i64 (k : Int)] w fun e w' => e = .returned (.tuple #[.int .u64 (getN (ys.take k) : Int), .bool true]) ∧ w.setCell ⟨g, 0, none⟩ (.slice (cutA A c k) (ys.length - k) (c - k)) = w' := by
  have hG : Calls Try.prog 12 #[.slice A ys.length c, .int .i64 0, .int .i64 (k : Int)] w fun e w' => e = .returned (.tuple #[.int .u64 (getN (ys.take k) : Int), .bool true]) ∧ w = w' := by
    simpa using get_yes A c ys 0 k w hx (by omega) h1 h8 (by omega)
  have HG := Lib.hid hG
  have hcut := fun W => run_cut A ys.length c k hk W
  clear hG hx
  go_enter Try.func44, Try.ntmps44
  go_wp2_with (go_at_call 12; refine (HG.out).mono ?_; rintro e w1 ⟨rfl, rfl⟩)
  go_ret2
  exact ⟨rfl, rfl⟩

theorem cut_no (g c : Nat) (A : Option Addr) (n : Nat) (k : Int) (w : World) (h0 : w.cell? ⟨g, 0, none⟩ = some (.slice A n c)) (hl : n ≤ 900000) (hn : ¬ (0 ≤ k ∧ k ≤ n)) :
    Calls Try.prog 47 #[.pointer (some ⟨g, 0, none⟩), .int .i64 k] w fun e w' => e = .returned (.tuple #[.slice none 0 0, .bool false]) ∧ w = w' := by
  by_cases h : k < 0
  · clear hn
    go_enter Try.func47, Try.ntmps47
    go_wp2
    go_ret2
    exact ⟨rfl, rfl⟩
  · have h2 : (n : Int) < k := by omega
    clear hn
    go_enter Try.func47, Try.ntmps47
    go_wp2_with (go_at_call 50; refine (rest_left g n c A w h0).mono ?_; rintro e w1 ⟨rfl, rfl⟩)
    go_ret2
    exact ⟨rfl, rfl⟩

theorem cut_yes (g c n k : Nat) (A : Option Addr) (w : World) (h0 : w.cell? ⟨g, 0, none⟩ = some (.slice A n c)) (f0 : w.frozen? ⟨g, 0, none⟩ = false) (hl : n ≤ 900000) (hc : n ≤ c) (hk : k ≤ n) :
    Calls Try.prog 47 #[.pointer (some ⟨g, 0, none⟩), .int .i64 (k : Int)] w fun e w' => e = .returned (.tuple #[.slice (headA A c) k c, .bool true]) ∧ w.setCell ⟨g, 0, none⟩ (.slice (cutA A c k) (n - k) (c - k)) = w' := by
  have hcut := fun W => run_cut A n c k hk W
  have hhead := fun W => run_head A n c k (by omega) W
  go_enter Try.func47, Try.ntmps47
  go_wp2_with (go_at_call 50; refine (rest_left g n c A w h0).mono ?_; rintro e w1 ⟨rfl, rfl⟩)
  go_ret2
  exact ⟨rfl, rfl⟩

end Go.Proofs.Yteglihgoccemmaa
