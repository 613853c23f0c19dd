/- The walk of the law OctetBack: its pieces. Conditions: the arguments are values of their types. -/
import Derived.Test.YteglihgoccemmaaPair
import Derived.Test.YteglihgoccemmaaMathc
import Derived.LoopTactic
namespace Go.Proofs.Yteglihgoccemmaa
open Go.RowKit
set_option linter.unusedVariables false

/-- The address leads to the values f 0, f 1, .. (n of them), in a block below B. -/
def ValsAt (w : World) (B : Nat) (A : Option Addr) (n : Nat) (f : Nat → Value) : Prop :=
  n = 0 ∨ ∃ b off, A = some ⟨b, off, none⟩ ∧ b < B ∧ ∀ j, j < n → w.cell? ⟨b, off + j, none⟩ = some (f j)
theorem ValsAt.below {w w' : World} {B n : Nat} {A : Option Addr} {f : Nat → Value} (h : ValsAt w B A n f) (hb : Below B w w') : ValsAt w' B A n f := by
  rcases h with h | ⟨b, off, ha, hB, hc⟩
  · exact .inl h
  · exact .inr ⟨b, off, ha, hB, fun j hj => (hb.cell (p := ⟨b, off + j, none⟩) hB).trans (hc j hj)⟩

/-- The width of a place, by a list of ints. -/
def wdF (n : Nat) (f : Nat → Int) (i : Nat) : Nat := if i < n then 1 + (f i % 8).toNat else 4
theorem wdF_bd (n : Nat) (f : Nat → Int) (i : Nat) : 1 ≤ wdF n f i ∧ wdF n f i ≤ 8 := by
  unfold wdF
  split <;> omega

theorem width_num (x : Int) : wrap64 (1 + wrap64 ((IntKind.u64.wrap x).tmod 8)) = 1 + x % 8 := by
  rw [IntKind.wrap_u64, Int.tmod_eq_emod_of_nonneg (by omega)]
  have h : x % 18446744073709551616 % 8 = x % 8 := by omega
  rw [h]
  simp only [wrap64]
  omega

theorem width_any (A : Option Addr) (n c i : Nat) (f : Nat → Int) (w : World) (h : ValsAt w w.heap.size A n (fun j => .int .i64 (f j))) (hi : i ≤ 1000) (hn : n ≤ maxLen) :
    Calls Try.prog 30 #[.slice A n c, .int .i64 (i : Int)] w fun e w' => e = .returned (.int .i64 (wdF n f i : Int)) ∧ w = w' := by
  unfold maxLen at hn
  by_cases hlt : i < n
  · rcases h with h | ⟨b, off, rfl, hB, hc⟩
    · omega
    · have hci := hc i hlt
      have e1 : (wdF n f i : Int) = 1 + (f i) % 8 := by
        unfold wdF
        rw [if_pos hlt]
        omega
      rw [e1]
      clear hc e1
      go_enter Try.func30, Try.ntmps30
      go_wp2
      go_ret
      refine ⟨?_, rfl⟩
      exact congrArg (fun q => Ending.returned (Value.int IntKind.i64 q)) (width_num (f i))
  · have e1 : (wdF n f i : Int) = 4 := by
      unfold wdF
      rw [if_neg hlt]
      rfl
    rw [e1]
    clear h e1
    go_enter Try.func30, Try.ntmps30
    go_wp2
    go_ret
    exact ⟨rfl, rfl⟩

/-- A slice of bytes of the call's own, written out. -/
def OwnS (w W : World) (A : Option Addr) (c : Nat) (ys : List UInt8) : Prop := W.ownsRow w.heap.size 5 1 (.slice A ys.length c) ys.length (bcells ys)
theorem OwnS.below {w W W' : World} {A : Option Addr} {c B : Nat} {ys : List UInt8} (h : OwnS w W A c ys) (hb : Below B W W') (hB : W.heap.size ≤ B) : OwnS w W' A c ys := own_below h hb hB
theorem OwnS.bat {w W : World} {A : Option Addr} {c : Nat} {ys : List UInt8} (h : OwnS w W A c ys) : BAt W W.heap.size A ys := BAt.of_own h (Nat.le_refl _)
theorem OwnS.other {w W W' : World} {A : Option Addr} {c g : Nat} {ys : List UInt8} {s : St} (h : OwnS w W A c ys) (hr : RdrS W g s) (hg : W.grownBy W' (some g)) : OwnS w W' A c ys := by
  refine World.ownsRow.kept h hg ?_
  rcases h.2 with ⟨hv, _⟩ | ⟨g', cap, cur, hv, _, hh, _⟩
  · left
    simp only [Value.slice.injEq] at hv
    rw [hv.1]
    rfl
  · right
    simp only [Value.slice.injEq] at hv
    rw [hv.1]
    obtain ⟨A1, c1, q, _⟩ := hr.cells
    simp only [Value.ownBlock, ne_eq, Option.some.injEq]
    rintro rfl
    rw [hh] at q
    simp at q

def PutS (w W : World) (zs : List UInt8) (e : Ending) (w' : World) : Prop :=
  ∃ A1 c1 ys', e = .returned (.slice A1 (ys' : List UInt8).length c1) ∧ Hid (ys' = zs) ∧ OwnS w w' A1 c1 ys' ∧ Below W.heap.size W w'
theorem put_sl {w W : World} {A : Option Addr} {c : Nat} {ys : List UInt8} (h : OwnS w W A c ys) (hw : w.heap.size ≤ W.heap.size) (N k : Nat) (hl : ys.length ≤ 900000) (hN : N < 18446744073709551616) (h1 : 1 ≤ k) (h8 : k ≤ 8) :
    Calls Try.prog 16 #[.slice A ys.length c, .int .u64 (N : Int), .int .i64 (k : Int)] W (PutS w W (ys ++ putB N k)) :=
  (put_yes A c N k ys W h.bat (by omega) hN h1 h8).mono fun e w' ⟨v, he, ho, hb⟩ => by
    obtain ⟨A1, c1, rfl⟩ := slice_of_own ho
    exact ⟨A1, c1, _, he, rfl, own_base ho hw, hb⟩
def TextS (w W : World) (zs : List UInt8) (e : Ending) (w' : World) : Prop :=
  ∃ A1 c1 ys', e = .returned (.tuple #[.slice A1 (ys' : List UInt8).length c1, .int .i64 0]) ∧ Hid (ys' = zs) ∧ OwnS w w' A1 c1 ys' ∧ Below W.heap.size W w'
theorem text_sl {w W : World} {A : Option Addr} {c : Nat} {ys : List UInt8} (h : OwnS w W A c ys) (hw : w.heap.size ≤ W.heap.size) (s : ByteArray) (hl : ys.length ≤ 900000) (hs : s.size ≤ 1024) :
    Calls Try.prog 14 #[.slice A ys.length c, .string s] W (TextS w W (ys ++ (putB s.size 2 ++ s.data.toList))) :=
  (text_yes A c ys s W h.bat hl hs).mono fun e w' ⟨v, he, ho, hb⟩ => by
    obtain ⟨A1, c1, rfl⟩ := slice_of_own ho
    exact ⟨A1, c1, _, he, rfl, own_base ho hw, hb⟩

/-- Two readers, and what was there first. -/
def Two (w : World) (g1 g2 : Nat) (W : World) (s1 s2 : St) : Prop := RdrS W g1 s1 ∧ RdrS W g2 s2 ∧ Below w.heap.size w W ∧ w.heap.size ≤ g1 ∧ w.heap.size ≤ g2 ∧ g1 ≠ g2
section
variable {w W W' : World} {g1 g2 : Nat} {s1 s2 : St}
theorem Two.below {B : Nat} (p : Two w g1 g2 W s1 s2) (hb : Below B W W') (hB : W.heap.size ≤ B) : Two w g1 g2 W' s1 s2 := by
  obtain ⟨p1, p2, p3, p4, p5, p6⟩ := p
  exact ⟨p1.below hb hB, p2.below hb hB, p3.trans (hb.mono (by have := p3.size; omega)), p4, p5, p6⟩
theorem Two.left (p : Two w g1 g2 W s1 s2) {s1' : St} (hr : RdrS W' g1 s1') (hg : W.grownBy W' (some g1)) : Two w g1 g2 W' s1' s2 := by
  obtain ⟨p1, p2, p3, p4, p5, p6⟩ := p
  obtain ⟨A1, c1, q, _⟩ := p1.cells
  exact ⟨hr, p2.other q (by simp) (by simp) (by simp) hg (Ne.symm p6), p3.grown hg p3.size (fun b hb => by injection hb with hb; omega), p4, p5, p6⟩
theorem Two.right (p : Two w g1 g2 W s1 s2) {s2' : St} (hr : RdrS W' g2 s2') (hg : W.grownBy W' (some g2)) : Two w g1 g2 W' s1 s2' := by
  obtain ⟨p1, p2, p3, p4, p5, p6⟩ := p
  obtain ⟨A1, c1, q, _⟩ := p2.cells
  exact ⟨p1.other q (by simp) (by simp) (by simp) hg p6, hr, p3.grown hg p3.size (fun b hb => by injection hb with hb; omega), p4, p5, p6⟩

/-- Two readers beside a slice of the call's own. -/
def Three (w : World) (g1 g2 : Nat) (A : Option Addr) (c : Nat) (o : List UInt8) (W : World) (s1 s2 : St) : Prop := Two w g1 g2 W s1 s2 ∧ OwnS w W A c o
variable {A : Option Addr} {c : Nat} {o : List UInt8}
theorem num_l (p : Three w g1 g2 A c o W s1 s2) (n : Int) (hn : n ≤ 9223372036854775807) :
    Calls Try.prog 19 #[.pointer (some ⟨g1, 0, none⟩), .int .i64 n] W fun e w' => e = .returned (.int .u64 (numV s1 n : Int)) ∧ Three w g1 g2 A c o w' (numS s1 n) s2 :=
  (num_any p.1.1 n hn).mono fun _ _ ⟨he, hr, hg⟩ => ⟨he, p.1.left hr hg, p.2.other p.1.1 hg⟩
theorem num_r (p : Three w g1 g2 A c o W s1 s2) (n : Int) (hn : n ≤ 9223372036854775807) :
    Calls Try.prog 19 #[.pointer (some ⟨g2, 0, none⟩), .int .i64 n] W fun e w' => e = .returned (.int .u64 (numV s2 n : Int)) ∧ Three w g1 g2 A c o w' s1 (numS s2 n) :=
  (num_any p.1.2.1 n hn).mono fun _ _ ⟨he, hr, hg⟩ => ⟨he, p.1.right hr hg, p.2.other p.1.2.1 hg⟩
theorem txt_l (p : Three w g1 g2 A c o W s1 s2) (n : Int) (hn : n ≤ 9223372036854775807) :
    Calls Try.prog 23 #[.pointer (some ⟨g1, 0, none⟩), .int .i64 n] W fun e w' => e = .returned (.string (bstr (txtV s1 n))) ∧ Three w g1 g2 A c o w' (txtS s1 n) s2 :=
  (rdText_any p.1.1 n hn).mono fun _ _ ⟨he, hr, hg⟩ => ⟨he, p.1.left hr hg, p.2.other p.1.1 hg⟩
theorem txt_r (p : Three w g1 g2 A c o W s1 s2) (n : Int) (hn : n ≤ 9223372036854775807) :
    Calls Try.prog 23 #[.pointer (some ⟨g2, 0, none⟩), .int .i64 n] W fun e w' => e = .returned (.string (bstr (txtV s2 n))) ∧ Three w g1 g2 A c o w' s1 (txtS s2 n) :=
  (rdText_any p.1.2.1 n hn).mono fun _ _ ⟨he, hr, hg⟩ => ⟨he, p.1.right hr hg, p.2.other p.1.2.1 hg⟩
end
end Go.Proofs.Yteglihgoccemmaa
