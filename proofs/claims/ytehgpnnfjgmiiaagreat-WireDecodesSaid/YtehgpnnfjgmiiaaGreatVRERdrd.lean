/- Contract of Text of a reader of package octet that was opened. Conditions: the bytes that are left are fewer than 900,000; a number that comes in is an int. One step of a region that draws its order, with its slot given: plain lemmas over any program. No condition. Contracts of the reader of the reference: Left, fail, Done, Num. Conditions: the bytes are fewer than 900,000; a number that comes in is an int. -/
import Derived.Test.YtehgpnnfjgmiiaaGreatVOja
import Derived.Test.YtehgpnnfjgmiiaaGreatVObd
import Derived.Test.YtehgpnnfjgmiiaaGreatVIiv
import Derived.Test.YtehgpnnfjgmiiaaGreatVObc
import Derived.Test.YtehgpnnfjgmiiaaGreatProg
import Derived.RegionTactic
import Derived.RegionCalls
import Derived.WalkKit
import Derived.Deep.RegionHeld3
import Derived.Deep.QuietTactic
import Derived.BigQuiet
import Derived.Test.YtehgpnnfjgmiiaaGreatVREOctc
section
namespace Go.Proofs.YtehgpnnfjgmiiaaGreat
set_option maxRecDepth 100000
open Go.RowKit
set_option linter.unusedVariables false

theorem getN2_lt (ys : List UInt8) : getN (ys.take 2) < 65536 := by
  have h1 := getN_lt (ys.take 2)
  have h2 : 256 ^ (ys.take 2).length ≤ 256 ^ 2 := Nat.pow_le_pow_right (by omega) (by rw [List.length_take]; omega)
  omega

section
variable {w w' : World} {g : Nat} {s : St}

set_option maxRecDepth 100000 in
theorem rtxt_yes (A : Option Addr) (c : Nat) (ys : List UInt8) (b : Value) (most : Int) (hh : w.heap[g]? = some (.cells #[.slice A ys.length c, .bool true, b] 100 (0, 0))) (hx : BAt w w.heap.size A ys) (hc : ys.length ≤ c) (hl : ys.length ≤ 900000)
    (hbv : ∀ n, b ≠ .int .u8 n) (m : Nat) (hm : getN (ys.take 2) = m) (h2 : 2 ≤ ys.length) (h3 : (m : Int) ≤ most) (h4 : m ≤ 1024) (h5 : m + 2 ≤ ys.length) :
    Calls Tryz.prog 133 #[.pointer (some ⟨g, 0, none⟩), .int .i64 most] w fun e w' => e = .returned (.tuple #[.string (bstr ((ys.drop 2).take m)), .bool true]) ∧
      (w.setCell ⟨g, 0, none⟩ (.slice (cutA A c 2) (ys.length - 2) (c - 2))).setCell ⟨g, 0, none⟩ (.slice (cutA (cutA A c 2) (c - 2) m) (ys.length - 2 - m) (c - 2 - m)) = w' := by
  have c0 : w.cell? ⟨g, 0, none⟩ = some (.slice A ys.length c) := by
    have := cell_of_row w g 0 _ 100 (0, 0) hh
    simpa using this
  have f0 := frozen_of_row w g 0 _ 100 hh
  have hN : Calls Tryz.prog 65 #[.pointer (some ⟨g, 0, none⟩), .int .i64 2] w fun e w' => e = .returned (.tuple #[.int .u64 (m : Int), .bool true]) ∧ w.setCell ⟨g, 0, none⟩ (.slice (cutA A c 2) (ys.length - 2) (c - 2)) = w' := by
    rw [← hm]
    exact number_yes g c 2 A ys w c0 f0 hx hl (by omega) (by omega) h2
  have s0 := heap_setCell_same w g 0 _ 100 (.slice (cutA A c 2) (ys.length - 2) (c - 2)) hh
  have c0' : (w.setCell ⟨g, 0, none⟩ (.slice (cutA A c 2) (ys.length - 2) (c - 2))).cell? ⟨g, 0, none⟩ = some (.slice (cutA A c 2) (ys.length - 2) (c - 2)) := by
    have := cell_of_row _ g 0 _ 100 (0, 0) s0
    simpa using this
  have f0' := frozen_of_row _ g 0 _ 100 s0
  have HN := Lib.hid hN
  have HC := Lib.hid (cut_yes g (c - 2) (ys.length - 2) m (cutA A c 2) _ c0' f0' (by omega) (by omega) (by omega))
  -- the bytes of the text, in the last world
  have hb2 : BAt w w.heap.size (headA (cutA A c 2) (c - 2)) ((ys.drop 2).take m) := (hx.cut h2 hc).head (by rw [List.length_drop]; omega)
  have hne := hb2.ne hh (by simp) (by simp) hbv
  have hb3 := (hb2.set (j := 0) (.slice (cutA A c 2) (ys.length - 2) (c - 2)) hne).set (j := 0) (.slice (cutA (cutA A c 2) (c - 2) m) (ys.length - 2 - m) (c - 2 - m)) hne
  have hlen : ((ys.drop 2).take m).length = m := by rw [List.length_take, List.length_drop]; omega
  have hcv := run_convert_bat (P := Tryz.prog) 31 9 5 (c - 2) Tryz.underlying31 Tryz.underlying5 Tryz.underlying9 hb3
  rw [hlen] at hcv
  have d1 : (m : Int) ≤ 1024 := by omega
  clear hN c0 f0 c0' f0' hx hb2 hb3 hne s0 hh hm hc hl hbv h2 h5 hlen
  go_enter Tryz.func133, Tryz.ntmps133
  go_wp2_with (first
    | (go_at_call 65; refine (HN.out).mono ?_; rintro e w1 ⟨rfl, rfl⟩)
    | (go_at_call 90; refine (HC.out).mono ?_; rintro e w1 ⟨rfl, rfl⟩))
  all_goals go_ret2
  all_goals exact ⟨rfl, rfl⟩

/-- What is left where no text is read. -/
def TxtN (w : World) (g : Nat) (b : Value) (e : Ending) (w' : World) : Prop :=
  e = .returned (.tuple #[.string ⟨#[]⟩, .bool false]) ∧ (∃ a, w'.heap[g]? = some (.cells #[a, .bool true, b] 100 (0, 0))) ∧ w.grownBy w' (some g)

set_option maxRecDepth 100000 in
theorem rtxt_no (A : Option Addr) (c : Nat) (ys : List UInt8) (b : Value) (most : Int) (hh : w.heap[g]? = some (.cells #[.slice A ys.length c, .bool true, b] 100 (0, 0))) (hx : BAt w w.heap.size A ys) (hc : ys.length ≤ c) (hl : ys.length ≤ 900000)
    (m : Nat) (hm : getN (ys.take 2) = m) (hno : ¬ (2 ≤ ys.length ∧ (m : Int) ≤ most ∧ m ≤ 1024 ∧ m + 2 ≤ ys.length)) :
    Calls Tryz.prog 133 #[.pointer (some ⟨g, 0, none⟩), .int .i64 most] w (TxtN w g b) := by
  have c0 : w.cell? ⟨g, 0, none⟩ = some (.slice A ys.length c) := by
    have := cell_of_row w g 0 _ 100 (0, 0) hh
    simpa using this
  have f0 := frozen_of_row w g 0 _ 100 hh
  by_cases h2 : 2 ≤ ys.length
  · have hm16 := getN2_lt ys
    rw [hm] at hm16
    have hN : Calls Tryz.prog 65 #[.pointer (some ⟨g, 0, none⟩), .int .i64 2] w fun e w' => e = .returned (.tuple #[.int .u64 (m : Int), .bool true]) ∧ w.setCell ⟨g, 0, none⟩ (.slice (cutA A c 2) (ys.length - 2) (c - 2)) = w' := by
      rw [← hm]
      exact number_yes g c 2 A ys w c0 f0 hx hl (by omega) (by omega) h2
    have s0 := heap_setCell_same w g 0 _ 100 (.slice (cutA A c 2) (ys.length - 2) (c - 2)) hh
    have R : TxtN w g b (.returned (.tuple #[.string ⟨#[]⟩, .bool false])) (w.setCell ⟨g, 0, none⟩ (.slice (cutA A c 2) (ys.length - 2) (c - 2))) :=
      ⟨rfl, ⟨_, by simpa using s0⟩, grownBy_setCell (World.grownBy.refl w _) _ _⟩
    have c0' : (w.setCell ⟨g, 0, none⟩ (.slice (cutA A c 2) (ys.length - 2) (c - 2))).cell? ⟨g, 0, none⟩ = some (.slice (cutA A c 2) (ys.length - 2) (c - 2)) := by
      have := cell_of_row _ g 0 _ 100 (0, 0) s0
      simpa using this
    have HN := Lib.hid hN
    have HR := Lib.hid R
    by_cases h3 : (m : Int) ≤ most ∧ m ≤ 1024
    · obtain ⟨h3a, h3b⟩ := h3
      have HC := Lib.hid (cut_no g (c - 2) (cutA A c 2) (ys.length - 2) (m : Int) _ c0' (by omega) (by omega))
      have hcv := fun W => run_convert_bat (P := Tryz.prog) (w := W) (B := 0) (A := none) (xs := []) 31 9 5 0 Tryz.underlying31 Tryz.underlying5 Tryz.underlying9 (.inl rfl)
      have hcv' : ∀ W, (convert 31 9 (.slice none 0 0)).run Tryz.prog W = .ok (.string ⟨#[]⟩) W := hcv
      clear hN c0 f0 c0' hx s0 hh hm hc hl h2 hno hcv R
      go_enter Tryz.func133, Tryz.ntmps133
      go_wp2_with (first
        | (go_at_call 65; refine (HN.out).mono ?_; rintro e w1 ⟨rfl, rfl⟩)
        | (go_at_call 90; refine (HC.out).mono ?_; rintro e w1 ⟨rfl, rfl⟩))
      all_goals go_ret2
      all_goals exact HR.out
    · have h3' : most < (m : Int) ∨ 1024 < (m : Int) := by omega
      clear hN c0 f0 c0' hx s0 hh hm hc hl h2 hno R h3
      go_enter Tryz.func133, Tryz.ntmps133
      go_wp2_with (first
        | (go_at_call 65; refine (HN.out).mono ?_; rintro e w1 ⟨rfl, rfl⟩))
      all_goals go_ret2
      all_goals exact HR.out
  · have HN := Lib.hid (number_no g c A ys 2 w c0 hl (by omega) (by omega))
    have R : TxtN w g b (.returned (.tuple #[.string ⟨#[]⟩, .bool false])) w := ⟨rfl, ⟨_, hh⟩, World.grownBy.refl w _⟩
    have HR := Lib.hid R
    clear c0 f0 hx hh hm hc hl h2 hno R
    go_enter Tryz.func133, Tryz.ntmps133
    go_wp2_with (first
      | (go_at_call 65; refine (HN.out).mono ?_; rintro e w1 ⟨rfl, rfl⟩))
    go_ret2
    exact HR.out

/-- What Text leaves. -/
def TxtP (w : World) (g : Nat) (s : St) (most : Int) (e : Ending) (w' : World) : Prop := e = .returned (.string (bstr (txtV s most))) ∧ RdrS w' g (txtS s most) ∧ w.grownBy w' (some g)

theorem rdText_any (h : RdrS w g s) (most : Int) (hw : most ≤ 9223372036854775807) : Calls Tryz.prog 125 #[.pointer (some ⟨g, 0, none⟩), .int .i64 most] w (TxtP w g s most) := by
  obtain ⟨A, c, hh, hx, hc, c0, c1, c2, hf⟩ := h.cells
  have hlen := h.2.2
  have HB := Lib.hid (bad_any h)
  by_cases hb : s.bad = true
  · have hno : ¬ txtOk s most := fun hk => hb.symm.trans hk.1 |> fun h => by cases h
    have R : TxtP w g s most (.returned (.string ⟨#[]⟩)) w := ⟨by simp only [txtV, if_neg hno]; rfl, by simp only [txtS, if_neg hno]; exact h.eta hb, World.grownBy.refl w _⟩
    have HR := Lib.hid R
    rw [hb] at HB
    clear hh hx h R hb hno
    go_enter Tryz.func125, Tryz.ntmps125
    go_wp2_with (go_at_call 64; refine (HB.out).mono ?_; rintro e w1 ⟨rfl, rfl⟩)
    go_ret
    exact HR.out
  · have hb' : s.bad = false := by simpa using hb
    rw [hb'] at HB
    by_cases hk : 2 ≤ s.ys.length ∧ (getN (s.ys.take 2) : Int) ≤ most ∧ getN (s.ys.take 2) ≤ 1024 ∧ getN (s.ys.take 2) + 2 ≤ s.ys.length
    · have hok : txtOk s most := ⟨hb', hk⟩
      have hT := rtxt_yes A c s.ys _ most hh hx hc hlen (by simp) _ rfl hk.1 hk.2.1 hk.2.2.1 hk.2.2.2
      have e1 : txtV s most = (s.ys.drop 2).take (getN (s.ys.take 2)) := by simp only [txtV, if_pos hok]
      have R : ∀ w', (w.setCell ⟨g, 0, none⟩ (.slice (cutA A c 2) (s.ys.length - 2) (c - 2))).setCell ⟨g, 0, none⟩ (.slice (cutA (cutA A c 2) (c - 2) (getN (s.ys.take 2))) (s.ys.length - 2 - getN (s.ys.take 2)) (c - 2 - getN (s.ys.take 2))) = w' → RdrS w' g (txtS s most) ∧ w.grownBy w' (some g) := by
        rintro w' rfl
        refine ⟨?_, grownBy_setCell (grownBy_setCell (World.grownBy.refl w _) _ _) _ _⟩
        simp only [txtS, if_pos hok]
        rw [hb'] at hh
        obtain ⟨A1, k1, q1, q2, q3⟩ := rdr_cut hh hx hc hk.1
        have e2 : (s.ys.drop 2).length = s.ys.length - 2 := by rw [List.length_drop]
        have q1' : (w.setCell ⟨g, 0, none⟩ (.slice (cutA A c 2) (s.ys.length - 2) (c - 2))).heap[g]? = some (.cells #[.slice (cutA A c 2) (s.ys.drop 2).length (c - 2), .bool true, .bool false] 100 (0, 0)) := by
          have s0 := heap_setCell_same w g 0 _ 100 (.slice (cutA A c 2) (s.ys.length - 2) (c - 2)) hh
          rw [e2]
          simpa using s0
        have q2' : BAt (w.setCell ⟨g, 0, none⟩ (.slice (cutA A c 2) (s.ys.length - 2) (c - 2))) (w.setCell ⟨g, 0, none⟩ (.slice (cutA A c 2) (s.ys.length - 2) (c - 2))).heap.size (cutA A c 2) (s.ys.drop 2) := by
          rw [q1'] at q1
          injection q1 with q1
          injection q1 with q1
          simp at q1
          rw [← q1.1] at q2
          exact q2
        have q4 := rdr_cut (k := getN (s.ys.take 2)) q1' q2' (by rw [e2]; omega) (by rw [e2]; omega)
        rw [e2] at q4
        exact ⟨q4, by simp, by simp only [List.length_drop]; omega⟩
      have HR := Lib.hid R
      rw [← e1] at hT
      have HT := Lib.hid hT
      unfold TxtP
      generalize txtV s most = tv at HT ⊢
      generalize txtS s most = ts at HR ⊢
      clear hh hx h R hb hb' hok hT e1 hk c0 c1 c2 hf
      go_enter Tryz.func125, Tryz.ntmps125
      go_wp2_with (first
        | (go_at_call 64; refine (HB.out).mono ?_; rintro e w1 ⟨rfl, rfl⟩)
        | (go_at_call 133; refine (HT.out).mono ?_; rintro e w1 ⟨rfl, hw1⟩; have Hw1 := Lib.hid hw1; clear hw1))
      go_ret
      exact ⟨rfl, HR.out _ Hw1.out⟩
    · have hno : ¬ txtOk s most := fun h' => hk h'.2
      have HT := Lib.hid (rtxt_no A c s.ys _ most hh hx hc hlen _ rfl hk)
      have R : ∀ w', Rdr w' g [] true ∧ w.grownBy w' (some g) → TxtP w g s most (.returned (.string ⟨#[]⟩)) w' := fun w' hw' => ⟨by simp only [txtV, if_neg hno]; rfl, by simp only [txtS, if_neg hno]; exact RdrS.failed hw'.1, hw'.2⟩
      have HR := Lib.hid R
      clear hh hx h R hb hb' hno hk c0 c1 c2 hf
      go_enter Tryz.func125, Tryz.ntmps125
      go_wp2_with (first
        | (go_at_call 64; refine (HB.out).mono ?_; rintro e w1 ⟨rfl, rfl⟩)
        | (go_at_call 133; refine (HT.out).mono ?_; rintro e w1 ⟨rfl, ⟨a1, ha1⟩, hg1⟩; have HA := Lib.hid ha1; clear ha1)
        | (go_at_call 66; refine (fail_any g _ _ _ _ HA.out).mono ?_; rintro e w2 ⟨rfl, hr2, hg2⟩))
      go_ret
      exact HR.out _ ⟨hr2, grownBy_trans hg1 hg2⟩
end
end Go.Proofs.YtehgpnnfjgmiiaaGreat
end
section
namespace Go.Proofs.YtehgpnnfjgmiiaaGreat
set_option maxRecDepth 100000

theorem takeH_at {P : Program} {md : Region.Mode} {ops : Array Oper} {Q : Exit → Act → World → Prop} {S : World → Prop} (i d : Nat) {oi : Oper} {v : Value} {fuel : Nat} {listed : Array Bool} {a : Act} {w : World} (hi : ops[i]? = some oi) (hd : oi.dst = some d)
    (hs : Region.noSelect ops = true) (hf : Region.free md ops listed i = true) (hr : (Region.ready md ops listed).contains i = true)
    (hQ : ∀ c a w, Q (.panic c) (a.put (some d) v) w → Q (.panic c) a w) (hy : YieldsIf P ops S oi v a) (hS : S w)
    (h : wpAnyH P md ops Q S fuel (listed.setIfInBounds i true) (a.put (some d) v) w) : wpAnyH P md ops Q S (fuel + 1) listed a w :=
  wpAnyH_take hi hs hf hr (by rw [hd]; exact hQ) hy hS (by rw [hd]; exact h)

end Go.Proofs.YtehgpnnfjgmiiaaGreat
end
section
namespace Go.Proofs.YtehgpnnfjgmiiaaGreat
set_option maxRecDepth 100000
open Go.RowKit
set_option linter.unusedVariables false

/-- The reference's reader in block h: where one is, and whether it is bad. -/
def RRd (w : World) (h : Nat) (A : Option Addr) (c : Nat) (xs : List UInt8) (k : Nat) (bad : Bool) : Prop :=
  w.heap[h]? = some (.cells #[.slice A xs.length c, .int .i64 (k : Int), .bool bad] 72 (0, 0)) ∧ BAt w w.heap.size A xs ∧ k ≤ xs.length ∧ xs.length ≤ c ∧ xs.length ≤ 900000 ∧ (bad = true → k = xs.length)

section
variable {w w' : World} {h : Nat} {A : Option Addr} {c : Nat} {xs : List UInt8} {k : Nat} {bad : Bool}
theorem RRd.cells (r : RRd w h A c xs k bad) : w.cell? ⟨h, 0, none⟩ = some (.slice A xs.length c) ∧ w.cell? ⟨h, 1, none⟩ = some (.int .i64 (k : Int)) ∧ w.cell? ⟨h, 2, none⟩ = some (.bool bad) ∧ (∀ i, w.frozen? ⟨h, i, none⟩ = false) := by
  have c0 := cell_of_row w h 0 _ 72 (0, 0) r.1
  have c1 := cell_of_row w h 1 _ 72 (0, 0) r.1
  have c2 := cell_of_row w h 2 _ 72 (0, 0) r.1
  simp at c0 c1 c2
  exact ⟨c0, c1, c2, fun i => frozen_of_row w h i _ 72 r.1⟩
theorem RRd.drewN (r : RRd w h A c xs k bad) (n : Nat) : RRd (w.drewN n) h A c xs k bad := r
theorem RRd.lt (r : RRd w h A c xs k bad) : h < w.heap.size := (Array.getElem?_eq_some_iff.1 r.1).1
theorem RRd.below {B : Nat} (r : RRd w h A c xs k bad) (hb : Below B w w') (hB : w.heap.size ≤ B) : RRd w' h A c xs k bad :=
  ⟨(hb.block h (Nat.lt_of_lt_of_le r.lt hB)).trans r.1, (r.2.1.below (hb.mono hB)).more hb.size, r.2.2⟩
theorem grownBy_drewN (n : Nat) (row : Option Nat) : w.grownBy (w.drewN n) row := ⟨rfl, rfl, rfl, Nat.le_refl _, fun _ _ _ => rfl⟩

theorem rfail_any (r : RRd w h A c xs k bad) : Calls Tryz.prog 74 #[.pointer (some ⟨h, 0, none⟩)] w fun e w' => e = .returned (.tuple #[]) ∧ RRd w' h A c xs xs.length true ∧ w.grownBy w' (some h) := by
  obtain ⟨c0, c1, c2, f⟩ := r.cells
  have R : RRd ((w.setCell ⟨h, 2, none⟩ (.bool true)).setCell ⟨h, 1, none⟩ (.int .i64 (xs.length : Int))) h A c xs xs.length true := by
    obtain ⟨hh, hx, hk, hc, hl, _⟩ := r
    have s0 := heap_setCell_same w h 2 _ 72 (.bool true) hh
    have s1 := heap_setCell_same _ h 1 _ 72 (.int .i64 (xs.length : Int)) s0
    refine ⟨by simpa using s1, ?_, Nat.le_refl _, hc, hl, fun _ => rfl⟩
    have hne := hx.ne hh (by simp) (by simp) (by simp)
    have := (hx.set (j := 2) (.bool true) hne).set (j := 1) (.int .i64 (xs.length : Int)) hne
    simpa [World.setCell] using this
  have HR := Lib.hid R
  have hl : xs.length ≤ 900000 := r.2.2.2.2.1
  clear r R
  go_enter Tryz.func74, Tryz.ntmps74
  go_wp2
  go_end0
  exact ⟨rfl, HR.out, grownBy_setCell (grownBy_setCell (World.grownBy.refl w _) _ _) _ _⟩

/-- The reference's reader as s says, over the bytes xs. -/
def RRS (w : World) (h : Nat) (A : Option Addr) (c : Nat) (xs : List UInt8) (s : St) : Prop := ∃ k, RRd w h A c xs k s.bad ∧ s.ys = xs.drop k
def RNumP (w : World) (h : Nat) (A : Option Addr) (c : Nat) (xs : List UInt8) (s : St) (wd : Int) (e : Ending) (w' : World) : Prop := e = .returned (.int .u64 (numV s wd : Int)) ∧ RRS w' h A c xs (numS s wd) ∧ w.grownBy w' (some h)

theorem RRS.failed (r : RRd w h A c xs xs.length true) : RRS w h A c xs ⟨[], true⟩ := ⟨xs.length, r, by simp⟩

theorem rrnum_any (r : RRd w h A c xs k bad) (wd : Int) (hw : wd ≤ 9223372036854775807) : Calls Tryz.prog 43 #[.pointer (some ⟨h, 0, none⟩), .int .i64 wd] w (RNumP w h A c xs ⟨xs.drop k, bad⟩ wd) := by
  obtain ⟨c0, c1, c2, f⟩ := r.cells
  have hx := r.2.1
  have hl : xs.length ≤ 900000 := r.2.2.2.2.1
  have hk : k ≤ xs.length := r.2.2.1
  have HF := Lib.hid (fun n => rfail_any (r.drewN n))
  have HG := Lib.hid (fun n => (rget_any A c xs (k : Int) wd (w.drewN n) hx hl (by omega) hw).mono (fun _ _ hh => And.intro hh.1 hh.2.symm))
  by_cases hok : numOk ⟨xs.drop k, bad⟩ wd
  · obtain ⟨hb, h1, h8, hle⟩ := id hok
    simp only [List.length_drop] at hb hle
    subst hb
    obtain ⟨d, rfl⟩ : ∃ d : Nat, wd = d := ⟨wd.toNat, by omega⟩
    have e1 : getI xs (k : Int) (d : Int) = (getN ((xs.drop k).take d), true) := by
      unfold getI
      rw [if_pos (by omega)]
      simp
    rw [e1] at HG
    have R : ∀ n w', (w.drewN n).setCell ⟨h, 1, none⟩ (.int .i64 ((k : Int) + (d : Int))) = w' → RNumP w h A c xs ⟨xs.drop k, false⟩ d (.returned (.int .u64 (getN ((xs.drop k).take d) : Int))) w' := by
      rintro n w' rfl
      refine ⟨by simp [numV, hok], ?_, grownBy_setCell (grownBy_drewN n _) _ _⟩
      simp only [numS, if_pos hok, Int.toNat_natCast]
      obtain ⟨hh, hx, hk, hc, hl, hbk⟩ := r
      refine ⟨k + d, ⟨?_, ?_, by omega, hc, hl, by simp⟩, by rw [List.drop_drop]⟩
      · have s1 := heap_setCell_same (w.drewN n) h 1 _ 72 (.int .i64 ((k : Int) + (d : Int))) hh
        have e2 : ((k + d : Nat) : Int) = (k : Int) + (d : Int) := by omega
        rw [e2]
        simpa using s1
      · have hne := hx.ne hh (by simp) (by simp) (by simp)
        have := (hx.drewN n).set (j := 1) (.int .i64 ((k : Int) + (d : Int))) hne
        simpa [World.setCell] using this
    have HR := Lib.hid R
    have dle : (k : Int) + (d : Int) ≤ (xs.length : Int) := by omega
    clear r hx HF hok h1 h8 e1 R hle
    go_enter Tryz.func43, Tryz.ntmps43
    go_wp2
    go_quiet ((go_at_call 73; exact Calls.quiet_of_same (HG.out _)))
    go_wp2
    go_ret
    exact HR.out _ _ rfl
  · have e1 : getI xs (k : Int) wd = (0, false) := by
      unfold getI
      rw [if_neg]
      rintro ⟨q1, q2, q3, q4⟩
      by_cases hb : bad = true
      · have := r.2.2.2.2.2 hb
        omega
      · exact hok ⟨by simpa using hb, q1, q2, by simp only [List.length_drop]; omega⟩
    rw [e1] at HG
    have R : ∀ n w', RRd w' h A c xs xs.length true → (w.drewN n).grownBy w' (some h) → RNumP w h A c xs ⟨xs.drop k, bad⟩ wd (.returned (.int .u64 0)) w' := fun n w' q1 q2 =>
      ⟨by simp [numV, hok], by simp only [numS, if_neg hok]; exact RRS.failed q1, grownBy_trans (grownBy_drewN n _) q2⟩
    have HR := Lib.hid R
    clear r hx e1 R hok
    cases bad
    · go_enter Tryz.func43, Tryz.ntmps43
      go_wp2
      go_quiet ((go_at_call 73; exact Calls.quiet_of_same (HG.out _)))
      go_wp2_with (go_at_call 74; refine (HF.out _).mono ?_; rintro e w1 ⟨rfl, hr1, hg1⟩)
      go_ret
      exact HR.out _ _ hr1 hg1
    · go_enter Tryz.func43, Tryz.ntmps43
      go_wp2
      go_quiet ((go_at_call 73; exact Calls.quiet_of_same (HG.out _)))
      go_wp2_with (go_at_call 74; refine (HF.out _).mono ?_; rintro e w1 ⟨rfl, hr1, hg1⟩)
      go_ret
      exact HR.out _ _ hr1 hg1
end
end Go.Proofs.YtehgpnnfjgmiiaaGreat
end
