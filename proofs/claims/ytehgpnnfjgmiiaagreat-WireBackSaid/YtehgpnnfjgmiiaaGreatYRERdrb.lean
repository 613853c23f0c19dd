/- Contracts of the calls of a reader of package octet that was opened. Conditions: the bytes that are left are fewer than 900,000; a number that comes in is an int. Contracts of Take and Text of a reader of package octet that was opened, and of Open. Conditions: the bytes that are left are fewer than 900,000; a number that comes in is an int. Contract of Text of a reader of package octet that was opened. Conditions: the bytes that are left are fewer than 900,000; a number that comes in is an int. One step of a region that draws its order, with its slot given: plain lemmas over any program. No condition. -/
import Derived.Test.YtehgpnnfjgmiiaaGreatYOja
import Derived.Test.YtehgpnnfjgmiiaaGreatYOcb
import Derived.Test.YtehgpnnfjgmiiaaGreatYOga
import Derived.Test.YtehgpnnfjgmiiaaGreatProg
import Derived.RegionTactic
import Derived.RegionCalls
import Derived.WalkKit
import Derived.Deep.RegionHeld3
import Derived.Deep.QuietTactic
import Derived.BigQuiet
import Derived.Test.YtehgpnnfjgmiiaaGreatYREOcta
section
namespace Go.Proofs.YtehgpnnfjgmiiaaGreat
set_option maxRecDepth 100000
open Go.RowKit
set_option linter.unusedVariables false

/-- A reader in block g that is as s says. -/
def RdrS (w : World) (g : Nat) (s : St) : Prop := Rdr w g s.ys s.bad ∧ (s.bad = true → s.ys = []) ∧ s.ys.length ≤ 900000

theorem isOpen_yes (g : Nat) (w : World) (h1 : w.cell? ⟨g, 1, none⟩ = some (.bool true)) : Calls Tryz.prog 71 #[.pointer (some ⟨g, 0, none⟩)] w fun e w' => e = .returned (.bool true) ∧ w = w' := by
  go_enter Tryz.func71, Tryz.ntmps71
  go_wp2
  go_ret
  exact ⟨rfl, rfl⟩

section
variable {w : World} {g : Nat} {s : St}
theorem RdrS.cells (h : RdrS w g s) : ∃ A c, w.heap[g]? = some (.cells #[.slice A s.ys.length c, .bool true, .bool s.bad] 100 (0, 0)) ∧ BAt w w.heap.size A s.ys ∧ s.ys.length ≤ c ∧
    w.cell? ⟨g, 0, none⟩ = some (.slice A s.ys.length c) ∧ w.cell? ⟨g, 1, none⟩ = some (.bool true) ∧ w.cell? ⟨g, 2, none⟩ = some (.bool s.bad) ∧ (∀ i, w.frozen? ⟨g, i, none⟩ = false) := by
  obtain ⟨⟨A, c, h, hx, hc⟩, _⟩ := h
  have c0 := cell_of_row w g 0 _ 100 (0, 0) h
  have c1 := cell_of_row w g 1 _ 100 (0, 0) h
  have c2 := cell_of_row w g 2 _ 100 (0, 0) h
  simp at c0 c1 c2
  exact ⟨A, c, h, hx, hc, c0, c1, c2, fun i => frozen_of_row w g i _ 100 h⟩

theorem bad_any (h : RdrS w g s) : Calls Tryz.prog 64 #[.pointer (some ⟨g, 0, none⟩)] w fun e w' => e = .returned (.bool s.bad) ∧ w = w' := by
  obtain ⟨A, c, hh, hx, hc, c0, c1, c2, hf⟩ := h.cells
  have HI := Lib.hid (isOpen_yes g w c1)
  clear hh hx h
  go_enter Tryz.func64, Tryz.ntmps64
  go_wp2_with (go_at_call 71; refine (HI.out).mono ?_; rintro e w1 ⟨rfl, rfl⟩)
  go_ret
  exact ⟨rfl, rfl⟩

theorem RdrS.failed (h : Rdr w g [] true) : RdrS w g ⟨[], true⟩ := ⟨h, fun _ => rfl, by simp⟩
theorem RdrS.eta (h : RdrS w g s) (hb : s.bad = true) : RdrS w g ⟨[], true⟩ := by
  obtain ⟨h1, h2, h3⟩ := h
  have := h2 hb
  rw [this, hb] at h1
  exact RdrS.failed h1

/-- What a call of a reader leaves. -/
def NumP (w : World) (g : Nat) (s : St) (wd : Int) (e : Ending) (w' : World) : Prop := e = .returned (.int .u64 (numV s wd : Int)) ∧ RdrS w' g (numS s wd) ∧ w.grownBy w' (some g)

theorem num_any (h : RdrS w g s) (wd : Int) (hw : wd ≤ 9223372036854775807) : Calls Tryz.prog 40 #[.pointer (some ⟨g, 0, none⟩), .int .i64 wd] w (NumP w g s wd) := by
  obtain ⟨A, c, hh, hx, hc, c0, c1, c2, hf⟩ := h.cells
  have hlen := h.2.2
  have HB := Lib.hid (bad_any h)
  by_cases hb : s.bad = true
  · have hno : ¬ numOk s wd := fun hk => hb.symm.trans hk.1 |> fun h => by cases h
    have R : NumP w g s wd (.returned (.int .u64 0)) w := ⟨by simp [numV, hno], by simp only [numS, if_neg hno]; exact h.eta hb, World.grownBy.refl w _⟩
    have HR := Lib.hid R
    rw [hb] at HB
    clear hh hx h R hb hno
    go_enter Tryz.func40, Tryz.ntmps40
    go_wp2_with (go_at_call 64; refine (HB.out).mono ?_; rintro e w1 ⟨rfl, rfl⟩)
    go_ret
    exact HR.out
  · have hb' : s.bad = false := by simpa using hb
    rw [hb'] at HB
    by_cases hk : 1 ≤ wd ∧ wd ≤ 8 ∧ wd ≤ s.ys.length
    · obtain ⟨k, rfl⟩ : ∃ k : Nat, wd = k := ⟨wd.toNat, by omega⟩
      have hok : numOk s (k : Int) := ⟨hb', hk⟩
      have HN := Lib.hid (number_yes g c k A s.ys w c0 (hf 0) hx hlen (by omega) (by omega) (by omega))
      have R : NumP w g s k (.returned (.int .u64 (getN (s.ys.take k) : Int))) (w.setCell ⟨g, 0, none⟩ (.slice (cutA A c k) (s.ys.length - k) (c - k))) := by
        refine ⟨by simp [numV, hok], ?_, grownBy_setCell (World.grownBy.refl w _) _ _⟩
        simp only [numS, if_pos hok, Int.toNat_natCast]
        rw [hb'] at hh
        exact ⟨rdr_cut hh hx hc (by omega), by simp, by simp only [List.length_drop]; omega⟩
      have HR := Lib.hid R
      clear hh hx h R hb hb' hok
      go_enter Tryz.func40, Tryz.ntmps40
      go_wp2_with (first
        | (go_at_call 64; refine (HB.out).mono ?_; rintro e w1 ⟨rfl, rfl⟩)
        | (go_at_call 65; refine (HN.out).mono ?_; rintro e w1 ⟨rfl, rfl⟩))
      go_ret
      exact HR.out
    · have hno : ¬ numOk s wd := fun h' => hk h'.2
      have HN := Lib.hid (number_no g c A s.ys wd w c0 hlen hw hk)
      have HF := Lib.hid (fail_any g _ _ _ w hh)
      have R : ∀ w', Rdr w' g [] true ∧ w.grownBy w' (some g) → NumP w g s wd (.returned (.int .u64 0)) w' := fun w' hw' => ⟨by simp [numV, hno], by simp only [numS, if_neg hno]; exact RdrS.failed hw'.1, hw'.2⟩
      have HR := Lib.hid R
      clear hh hx h R hb hb' hno hk
      go_enter Tryz.func40, Tryz.ntmps40
      go_wp2_with (first
        | (go_at_call 64; refine (HB.out).mono ?_; rintro e w1 ⟨rfl, rfl⟩)
        | (go_at_call 65; refine (HN.out).mono ?_; rintro e w1 ⟨rfl, rfl⟩)
        | (go_at_call 66; refine (HF.out).mono ?_; rintro e w1 ⟨rfl, hr1⟩))
      go_ret
      exact HR.out _ hr1
end
end Go.Proofs.YtehgpnnfjgmiiaaGreat
end
section
namespace Go.Proofs.YtehgpnnfjgmiiaaGreat
set_option maxRecDepth 100000
open Go.RowKit
set_option linter.unusedVariables false

theorem clone_len (A : Option Addr) (n c : Nat) (xs : List UInt8) (w : World) (hx : BAt w w.heap.size A xs) (hl : xs.length ≤ 1000000) (hn : xs.length = n) :
    Calls Tryz.prog 50 #[.slice A n c] w (OwnB w xs) := by
  subst hn
  exact clone_any A c xs w hx hl

section
variable {w w' : World} {g : Nat} {s : St}
theorem RdrS.keep (h : RdrS w g s) (hg : w'.heap[g]? = w.heap[g]?) (hs : w.heap.size ≤ w'.heap.size) (hx : ∀ A, BAt w w.heap.size A s.ys → BAt w' w.heap.size A s.ys) : RdrS w' g s := by
  obtain ⟨⟨A, c, h1, h2, h3⟩, h4⟩ := h
  exact ⟨⟨A, c, hg.trans h1, (hx A h2).more hs, h3⟩, h4⟩
theorem RdrS.lt (h : RdrS w g s) : g < w.heap.size := by
  obtain ⟨⟨A, c, h1, h2, h3⟩, h4⟩ := h
  exact (Array.getElem?_eq_some_iff.1 h1).1
theorem RdrS.below {B : Nat} (h : RdrS w g s) (hb : Below B w w') (hB : w.heap.size ≤ B) : RdrS w' g s :=
  h.keep (hb.block g (Nat.lt_of_lt_of_le h.lt hB)) hb.size fun A hx => hx.below (hb.mono hB)
theorem grownBy_trans {a b c : World} {row : Option Nat} (h : a.grownBy b row) (k : b.grownBy c row) : a.grownBy c row :=
  ⟨k.os.trans h.os, k.tape.trans h.tape, k.output.trans h.output, Nat.le_trans h.size k.size, fun i hi hn => (k.block i (Nat.lt_of_lt_of_le hi h.size) hn).trans (h.block i hi hn)⟩

/-- What Take leaves. -/
def TakeP (w : World) (g : Nat) (s : St) (n : Int) (e : Ending) (w' : World) : Prop :=
  ∃ v, e = .returned v ∧ w'.ownsRow w.heap.size 5 1 v (takeV s n).length (bcells (takeV s n)) ∧ RdrS w' g (takeS s n) ∧ w.grownBy w' (some g)

theorem take_any (h : RdrS w g s) (n : Int) (hw : n ≤ 9223372036854775807) : Calls Tryz.prog 67 #[.pointer (some ⟨g, 0, none⟩), .int .i64 n] w (TakeP w g s n) := by
  obtain ⟨A, c, hh, hx, hc, c0, c1, c2, hf⟩ := h.cells
  have hlen := h.2.2
  have HB := Lib.hid (bad_any h)
  by_cases hb : s.bad = true
  · have hno : ¬ takeOk s n := fun hk => hb.symm.trans hk.1 |> fun h => by cases h
    have R : TakeP w g s n (.returned (.slice none 0 0)) w := ⟨_, rfl, by simp only [takeV, if_neg hno]; exact World.ownsRow_nil _ _ _ _, by simp only [takeS, if_neg hno]; exact h.eta hb, World.grownBy.refl w _⟩
    have HR := Lib.hid R
    rw [hb] at HB
    clear hh hx h R hb hno
    go_enter Tryz.func67, Tryz.ntmps67
    go_wp2_with (go_at_call 64; refine (HB.out).mono ?_; rintro e w1 ⟨rfl, rfl⟩)
    go_ret
    exact HR.out
  · have hb' : s.bad = false := by simpa using hb
    rw [hb'] at HB
    by_cases hk : 0 ≤ n ∧ n ≤ s.ys.length
    · obtain ⟨k, rfl⟩ : ∃ k : Nat, n = k := ⟨n.toNat, by omega⟩
      have hok : takeOk s (k : Int) := ⟨hb', hk⟩
      have HN := Lib.hid (cut_yes g c s.ys.length k A w c0 (hf 0) hlen hc (by omega))
      have hhd : BAt w w.heap.size (headA A c) (s.ys.take k) := hx.head hc
      have hx1 : BAt (w.setCell ⟨g, 0, none⟩ (.slice (cutA A c k) (s.ys.length - k) (c - k))) (w.setCell ⟨g, 0, none⟩ (.slice (cutA A c k) (s.ys.length - k) (c - k))).heap.size (headA A c) (s.ys.take k) := by
        have := hhd.set (j := 0) (.slice (cutA A c k) (s.ys.length - k) (c - k)) (hhd.ne hh (by simp) (by simp) (by simp))
        simpa [World.setCell] using this
      have HC := Lib.hid (clone_len (headA A c) k c (s.ys.take k) _ hx1 (by rw [List.length_take]; omega) (by rw [List.length_take]; omega))
      have R : ∀ e w', OwnB (w.setCell ⟨g, 0, none⟩ (.slice (cutA A c k) (s.ys.length - k) (c - k))) (s.ys.take k) e w' → TakeP w g s k e w' := by
        rintro e w' ⟨v, he, ho, hbl⟩
        have e1 : (w.setCell ⟨g, 0, none⟩ (.slice (cutA A c k) (s.ys.length - k) (c - k))).heap.size = w.heap.size := by simp [World.setCell]
        refine ⟨v, he, ?_, ?_, grownBy_trans (grownBy_setCell (World.grownBy.refl w _) 0 _) (grownBy_of_below hbl (Nat.le_refl _) _)⟩
        · simp only [takeV, if_pos hok, Int.toNat_natCast]
          rw [e1] at ho
          exact ho
        · simp only [takeS, if_pos hok, Int.toNat_natCast]
          rw [hb'] at hh
          have h1 : RdrS (w.setCell ⟨g, 0, none⟩ (.slice (cutA A c k) (s.ys.length - k) (c - k))) g ⟨s.ys.drop k, false⟩ := ⟨rdr_cut hh hx hc (by omega), by simp, by simp only [List.length_drop]; omega⟩
          exact h1.below hbl (Nat.le_refl _)
      have HR := Lib.hid R
      clear hh hx h R hb hb' hok hhd hx1
      go_enter Tryz.func67, Tryz.ntmps67
      go_wp2_with (first
        | (go_at_call 64; refine (HB.out).mono ?_; rintro e w1 ⟨rfl, rfl⟩)
        | (go_at_call 90; refine (HN.out).mono ?_; rintro e w1 ⟨rfl, rfl⟩)
        | (go_at_call 50; refine (HC.out).mono ?_; rintro e w1 ⟨v1, rfl, ho1, hb1⟩))
      go_ret
      exact HR.out _ _ ⟨v1, rfl, ho1, hb1⟩
    · have hno : ¬ takeOk s n := fun h' => hk h'.2
      have HN := Lib.hid (cut_no g c A s.ys.length n w c0 hlen hk)
      have HF := Lib.hid (fail_any g _ _ _ w hh)
      have HC := Lib.hid (fun W => clone_len none 0 0 [] W (.inl rfl) (by simp) rfl)
      have R : ∀ w1, Rdr w1 g [] true → w.grownBy w1 (some g) → ∀ e w', OwnB w1 [] e w' → TakeP w g s n e w' := by
        rintro w1 h1 h2 e w' ⟨v, he, ho, hbl⟩
        refine ⟨v, he, by simp only [takeV, if_neg hno]; exact own_base ho h2.size, by simp only [takeS, if_neg hno]; exact (RdrS.failed h1).below hbl (Nat.le_refl _), grownBy_trans h2 (grownBy_of_below hbl (Nat.le_refl _) _)⟩
      have HR := Lib.hid R
      clear hh hx h R hb hb' hno hk
      go_enter Tryz.func67, Tryz.ntmps67
      go_wp2_with (first
        | (go_at_call 64; refine (HB.out).mono ?_; rintro e w1 ⟨rfl, rfl⟩)
        | (go_at_call 90; refine (HN.out).mono ?_; rintro e w1 ⟨rfl, rfl⟩)
        | (go_at_call 66; refine (HF.out).mono ?_; rintro e w1 ⟨rfl, hr1, hg1⟩)
        | (go_at_call 50; refine (HC.out _).mono ?_; rintro e w2 ⟨v1, rfl, ho1, hb1⟩))
      go_ret
      exact HR.out _ hr1 hg1 _ _ ⟨v1, rfl, ho1, hb1⟩

/-- Open. -/
theorem open_any (A : Option Addr) (c : Nat) (xs : List UInt8) (w : World) (hx : BAt w w.heap.size A xs) (hl : xs.length ≤ 900000) :
    Calls Tryz.prog 39 #[.slice A xs.length c] w fun e w' => ∃ g, e = .returned (.pointer (some ⟨g, 0, none⟩)) ∧ w.heap.size ≤ g ∧ RdrS w' g ⟨xs, false⟩ ∧ Below w.heap.size w w' := by
  have hC : Calls Tryz.prog 50 #[.slice A xs.length c] w fun e w' => ∃ A1 c1, e = .returned (.slice A1 xs.length c1) ∧ w'.ownsRow w.heap.size 5 1 (.slice A1 xs.length c1) xs.length (bcells xs) ∧ Below w.heap.size w w' :=
    (clone_any A c xs w hx (by omega)).mono fun e w' ⟨v, he, ho, hb⟩ => by
      obtain ⟨A1, c1, rfl⟩ := slice_of_own ho
      exact ⟨A1, c1, he, ho, hb⟩
  have HC := Lib.hid hC
  clear hx hC
  go_enter Tryz.func39, Tryz.ntmps39
  go_wp2_with (go_at_call 50; refine (HC.out).mono ?_; rintro e w1 ⟨A1, c1, rfl, ho1, hb1⟩)
  go_ret
  refine ⟨_, rfl, hb1.size, ⟨⟨A1, c1, heap_alloc_new w1 _, ?_, ?_⟩, by simp, hl⟩, hb1.alloc hb1.size _⟩
  · have := BAt.of_own ho1 (Nat.le_refl _)
    exact (this.below ((Below.refl _ w1).alloc (Nat.le_refl _) _)).more (by simp)
  · rcases ho1.2 with ⟨h, h'⟩ | ⟨g, cap, cur, h, _, _, h', _⟩
    · simp only [Value.slice.injEq] at h
      have : xs.length = 0 := h'
      show xs.length ≤ c1
      omega
    · simp only [Value.slice.injEq] at h
      show xs.length ≤ c1
      omega

end
end Go.Proofs.YtehgpnnfjgmiiaaGreat
end
section
namespace Go.Proofs.YtehgpnnfjgmiiaaGreat
set_option maxRecDepth 100000
open Go.RowKit
set_option linter.unusedVariables false

theorem getN2_lt (ys : List UInt8) : getN (ys.take 2) < 65536 := by
  have h1 := getN_lt (ys.take 2)
  have h2 : 256 ^ (ys.take 2).length ≤ 256 ^ 2 := Nat.pow_le_pow_right (by omega) (by rw [List.length_take]; omega)
  omega

section
variable {w w' : World} {g : Nat} {s : St}

set_option maxRecDepth 100000 in
theorem rtxt_yes (A : Option Addr) (c : Nat) (ys : List UInt8) (b : Value) (most : Int) (hh : w.heap[g]? = some (.cells #[.slice A ys.length c, .bool true, b] 100 (0, 0))) (hx : BAt w w.heap.size A ys) (hc : ys.length ≤ c) (hl : ys.length ≤ 900000)
    (hbv : ∀ n, b ≠ .int .u8 n) (m : Nat) (hm : getN (ys.take 2) = m) (h2 : 2 ≤ ys.length) (h3 : (m : Int) ≤ most) (h4 : m ≤ 1024) (h5 : m + 2 ≤ ys.length) :
    Calls Tryz.prog 133 #[.pointer (some ⟨g, 0, none⟩), .int .i64 most] w fun e w' => e = .returned (.tuple #[.string (bstr ((ys.drop 2).take m)), .bool true]) ∧
      (w.setCell ⟨g, 0, none⟩ (.slice (cutA A c 2) (ys.length - 2) (c - 2))).setCell ⟨g, 0, none⟩ (.slice (cutA (cutA A c 2) (c - 2) m) (ys.length - 2 - m) (c - 2 - m)) = w' := by
  have c0 : w.cell? ⟨g, 0, none⟩ = some (.slice A ys.length c) := by
    have := cell_of_row w g 0 _ 100 (0, 0) hh
    simpa using this
  have f0 := frozen_of_row w g 0 _ 100 hh
  have hN : Calls Tryz.prog 65 #[.pointer (some ⟨g, 0, none⟩), .int .i64 2] w fun e w' => e = .returned (.tuple #[.int .u64 (m : Int), .bool true]) ∧ w.setCell ⟨g, 0, none⟩ (.slice (cutA A c 2) (ys.length - 2) (c - 2)) = w' := by
    rw [← hm]
    exact number_yes g c 2 A ys w c0 f0 hx hl (by omega) (by omega) h2
  have s0 := heap_setCell_same w g 0 _ 100 (.slice (cutA A c 2) (ys.length - 2) (c - 2)) hh
  have c0' : (w.setCell ⟨g, 0, none⟩ (.slice (cutA A c 2) (ys.length - 2) (c - 2))).cell? ⟨g, 0, none⟩ = some (.slice (cutA A c 2) (ys.length - 2) (c - 2)) := by
    have := cell_of_row _ g 0 _ 100 (0, 0) s0
    simpa using this
  have f0' := frozen_of_row _ g 0 _ 100 s0
  have HN := Lib.hid hN
  have HC := Lib.hid (cut_yes g (c - 2) (ys.length - 2) m (cutA A c 2) _ c0' f0' (by omega) (by omega) (by omega))
  -- the bytes of the text, in the last world
  have hb2 : BAt w w.heap.size (headA (cutA A c 2) (c - 2)) ((ys.drop 2).take m) := (hx.cut h2 hc).head (by rw [List.length_drop]; omega)
  have hne := hb2.ne hh (by simp) (by simp) hbv
  have hb3 := (hb2.set (j := 0) (.slice (cutA A c 2) (ys.length - 2) (c - 2)) hne).set (j := 0) (.slice (cutA (cutA A c 2) (c - 2) m) (ys.length - 2 - m) (c - 2 - m)) hne
  have hlen : ((ys.drop 2).take m).length = m := by rw [List.length_take, List.length_drop]; omega
  have hcv := run_convert_bat (P := Tryz.prog) 31 9 5 (c - 2) Tryz.underlying31 Tryz.underlying5 Tryz.underlying9 hb3
  rw [hlen] at hcv
  have d1 : (m : Int) ≤ 1024 := by omega
  clear hN c0 f0 c0' f0' hx hb2 hb3 hne s0 hh hm hc hl hbv h2 h5 hlen
  go_enter Tryz.func133, Tryz.ntmps133
  go_wp2_with (first
    | (go_at_call 65; refine (HN.out).mono ?_; rintro e w1 ⟨rfl, rfl⟩)
    | (go_at_call 90; refine (HC.out).mono ?_; rintro e w1 ⟨rfl, rfl⟩))
  all_goals go_ret2
  all_goals exact ⟨rfl, rfl⟩

/-- What is left where no text is read. -/
def TxtN (w : World) (g : Nat) (b : Value) (e : Ending) (w' : World) : Prop :=
  e = .returned (.tuple #[.string ⟨#[]⟩, .bool false]) ∧ (∃ a, w'.heap[g]? = some (.cells #[a, .bool true, b] 100 (0, 0))) ∧ w.grownBy w' (some g)

set_option maxRecDepth 100000 in
theorem rtxt_no (A : Option Addr) (c : Nat) (ys : List UInt8) (b : Value) (most : Int) (hh : w.heap[g]? = some (.cells #[.slice A ys.length c, .bool true, b] 100 (0, 0))) (hx : BAt w w.heap.size A ys) (hc : ys.length ≤ c) (hl : ys.length ≤ 900000)
    (m : Nat) (hm : getN (ys.take 2) = m) (hno : ¬ (2 ≤ ys.length ∧ (m : Int) ≤ most ∧ m ≤ 1024 ∧ m + 2 ≤ ys.length)) :
    Calls Tryz.prog 133 #[.pointer (some ⟨g, 0, none⟩), .int .i64 most] w (TxtN w g b) := by
  have c0 : w.cell? ⟨g, 0, none⟩ = some (.slice A ys.length c) := by
    have := cell_of_row w g 0 _ 100 (0, 0) hh
    simpa using this
  have f0 := frozen_of_row w g 0 _ 100 hh
  by_cases h2 : 2 ≤ ys.length
  · have hm16 := getN2_lt ys
    rw [hm] at hm16
    have hN : Calls Tryz.prog 65 #[.pointer (some ⟨g, 0, none⟩), .int .i64 2] w fun e w' => e = .returned (.tuple #[.int .u64 (m : Int), .bool true]) ∧ w.setCell ⟨g, 0, none⟩ (.slice (cutA A c 2) (ys.length - 2) (c - 2)) = w' := by
      rw [← hm]
      exact number_yes g c 2 A ys w c0 f0 hx hl (by omega) (by omega) h2
    have s0 := heap_setCell_same w g 0 _ 100 (.slice (cutA A c 2) (ys.length - 2) (c - 2)) hh
    have R : TxtN w g b (.returned (.tuple #[.string ⟨#[]⟩, .bool false])) (w.setCell ⟨g, 0, none⟩ (.slice (cutA A c 2) (ys.length - 2) (c - 2))) :=
      ⟨rfl, ⟨_, by simpa using s0⟩, grownBy_setCell (World.grownBy.refl w _) _ _⟩
    have c0' : (w.setCell ⟨g, 0, none⟩ (.slice (cutA A c 2) (ys.length - 2) (c - 2))).cell? ⟨g, 0, none⟩ = some (.slice (cutA A c 2) (ys.length - 2) (c - 2)) := by
      have := cell_of_row _ g 0 _ 100 (0, 0) s0
      simpa using this
    have HN := Lib.hid hN
    have HR := Lib.hid R
    by_cases h3 : (m : Int) ≤ most ∧ m ≤ 1024
    · obtain ⟨h3a, h3b⟩ := h3
      have HC := Lib.hid (cut_no g (c - 2) (cutA A c 2) (ys.length - 2) (m : Int) _ c0' (by omega) (by omega))
      have hcv := fun W => run_convert_bat (P := Tryz.prog) (w := W) (B := 0) (A := none) (xs := []) 31 9 5 0 Tryz.underlying31 Tryz.underlying5 Tryz.underlying9 (.inl rfl)
      have hcv' : ∀ W, (convert 31 9 (.slice none 0 0)).run Tryz.prog W = .ok (.string ⟨#[]⟩) W := hcv
      clear hN c0 f0 c0' hx s0 hh hm hc hl h2 hno hcv R
      go_enter Tryz.func133, Tryz.ntmps133
      go_wp2_with (first
        | (go_at_call 65; refine (HN.out).mono ?_; rintro e w1 ⟨rfl, rfl⟩)
        | (go_at_call 90; refine (HC.out).mono ?_; rintro e w1 ⟨rfl, rfl⟩))
      all_goals go_ret2
      all_goals exact HR.out
    · have h3' : most < (m : Int) ∨ 1024 < (m : Int) := by omega
      clear hN c0 f0 c0' hx s0 hh hm hc hl h2 hno R h3
      go_enter Tryz.func133, Tryz.ntmps133
      go_wp2_with (first
        | (go_at_call 65; refine (HN.out).mono ?_; rintro e w1 ⟨rfl, rfl⟩))
      all_goals go_ret2
      all_goals exact HR.out
  · have HN := Lib.hid (number_no g c A ys 2 w c0 hl (by omega) (by omega))
    have R : TxtN w g b (.returned (.tuple #[.string ⟨#[]⟩, .bool false])) w := ⟨rfl, ⟨_, hh⟩, World.grownBy.refl w _⟩
    have HR := Lib.hid R
    clear c0 f0 hx hh hm hc hl h2 hno R
    go_enter Tryz.func133, Tryz.ntmps133
    go_wp2_with (first
      | (go_at_call 65; refine (HN.out).mono ?_; rintro e w1 ⟨rfl, rfl⟩))
    go_ret2
    exact HR.out

/-- What Text leaves. -/
def TxtP (w : World) (g : Nat) (s : St) (most : Int) (e : Ending) (w' : World) : Prop := e = .returned (.string (bstr (txtV s most))) ∧ RdrS w' g (txtS s most) ∧ w.grownBy w' (some g)

theorem rdText_any (h : RdrS w g s) (most : Int) (hw : most ≤ 9223372036854775807) : Calls Tryz.prog 125 #[.pointer (some ⟨g, 0, none⟩), .int .i64 most] w (TxtP w g s most) := by
  obtain ⟨A, c, hh, hx, hc, c0, c1, c2, hf⟩ := h.cells
  have hlen := h.2.2
  have HB := Lib.hid (bad_any h)
  by_cases hb : s.bad = true
  · have hno : ¬ txtOk s most := fun hk => hb.symm.trans hk.1 |> fun h => by cases h
    have R : TxtP w g s most (.returned (.string ⟨#[]⟩)) w := ⟨by simp only [txtV, if_neg hno]; rfl, by simp only [txtS, if_neg hno]; exact h.eta hb, World.grownBy.refl w _⟩
    have HR := Lib.hid R
    rw [hb] at HB
    clear hh hx h R hb hno
    go_enter Tryz.func125, Tryz.ntmps125
    go_wp2_with (go_at_call 64; refine (HB.out).mono ?_; rintro e w1 ⟨rfl, rfl⟩)
    go_ret
    exact HR.out
  · have hb' : s.bad = false := by simpa using hb
    rw [hb'] at HB
    by_cases hk : 2 ≤ s.ys.length ∧ (getN (s.ys.take 2) : Int) ≤ most ∧ getN (s.ys.take 2) ≤ 1024 ∧ getN (s.ys.take 2) + 2 ≤ s.ys.length
    · have hok : txtOk s most := ⟨hb', hk⟩
      have hT := rtxt_yes A c s.ys _ most hh hx hc hlen (by simp) _ rfl hk.1 hk.2.1 hk.2.2.1 hk.2.2.2
      have e1 : txtV s most = (s.ys.drop 2).take (getN (s.ys.take 2)) := by simp only [txtV, if_pos hok]
      have R : ∀ w', (w.setCell ⟨g, 0, none⟩ (.slice (cutA A c 2) (s.ys.length - 2) (c - 2))).setCell ⟨g, 0, none⟩ (.slice (cutA (cutA A c 2) (c - 2) (getN (s.ys.take 2))) (s.ys.length - 2 - getN (s.ys.take 2)) (c - 2 - getN (s.ys.take 2))) = w' → RdrS w' g (txtS s most) ∧ w.grownBy w' (some g) := by
        rintro w' rfl
        refine ⟨?_, grownBy_setCell (grownBy_setCell (World.grownBy.refl w _) _ _) _ _⟩
        simp only [txtS, if_pos hok]
        rw [hb'] at hh
        obtain ⟨A1, k1, q1, q2, q3⟩ := rdr_cut hh hx hc hk.1
        have e2 : (s.ys.drop 2).length = s.ys.length - 2 := by rw [List.length_drop]
        have q1' : (w.setCell ⟨g, 0, none⟩ (.slice (cutA A c 2) (s.ys.length - 2) (c - 2))).heap[g]? = some (.cells #[.slice (cutA A c 2) (s.ys.drop 2).length (c - 2), .bool true, .bool false] 100 (0, 0)) := by
          have s0 := heap_setCell_same w g 0 _ 100 (.slice (cutA A c 2) (s.ys.length - 2) (c - 2)) hh
          rw [e2]
          simpa using s0
        have q2' : BAt (w.setCell ⟨g, 0, none⟩ (.slice (cutA A c 2) (s.ys.length - 2) (c - 2))) (w.setCell ⟨g, 0, none⟩ (.slice (cutA A c 2) (s.ys.length - 2) (c - 2))).heap.size (cutA A c 2) (s.ys.drop 2) := by
          rw [q1'] at q1
          injection q1 with q1
          injection q1 with q1
          simp at q1
          rw [← q1.1] at q2
          exact q2
        have q4 := rdr_cut (k := getN (s.ys.take 2)) q1' q2' (by rw [e2]; omega) (by rw [e2]; omega)
        rw [e2] at q4
        exact ⟨q4, by simp, by simp only [List.length_drop]; omega⟩
      have HR := Lib.hid R
      rw [← e1] at hT
      have HT := Lib.hid hT
      unfold TxtP
      generalize txtV s most = tv at HT ⊢
      generalize txtS s most = ts at HR ⊢
      clear hh hx h R hb hb' hok hT e1 hk c0 c1 c2 hf
      go_enter Tryz.func125, Tryz.ntmps125
      go_wp2_with (first
        | (go_at_call 64; refine (HB.out).mono ?_; rintro e w1 ⟨rfl, rfl⟩)
        | (go_at_call 133; refine (HT.out).mono ?_; rintro e w1 ⟨rfl, hw1⟩; have Hw1 := Lib.hid hw1; clear hw1))
      go_ret
      exact ⟨rfl, HR.out _ Hw1.out⟩
    · have hno : ¬ txtOk s most := fun h' => hk h'.2
      have HT := Lib.hid (rtxt_no A c s.ys _ most hh hx hc hlen _ rfl hk)
      have R : ∀ w', Rdr w' g [] true ∧ w.grownBy w' (some g) → TxtP w g s most (.returned (.string ⟨#[]⟩)) w' := fun w' hw' => ⟨by simp only [txtV, if_neg hno]; rfl, by simp only [txtS, if_neg hno]; exact RdrS.failed hw'.1, hw'.2⟩
      have HR := Lib.hid R
      clear hh hx h R hb hb' hno hk c0 c1 c2 hf
      go_enter Tryz.func125, Tryz.ntmps125
      go_wp2_with (first
        | (go_at_call 64; refine (HB.out).mono ?_; rintro e w1 ⟨rfl, rfl⟩)
        | (go_at_call 133; refine (HT.out).mono ?_; rintro e w1 ⟨rfl, ⟨a1, ha1⟩, hg1⟩; have HA := Lib.hid ha1; clear ha1)
        | (go_at_call 66; refine (fail_any g _ _ _ _ HA.out).mono ?_; rintro e w2 ⟨rfl, hr2, hg2⟩))
      go_ret
      exact HR.out _ ⟨hr2, grownBy_trans hg1 hg2⟩
end
end Go.Proofs.YtehgpnnfjgmiiaaGreat
end
section
namespace Go.Proofs.YtehgpnnfjgmiiaaGreat
set_option maxRecDepth 100000

theorem takeH_at {P : Program} {md : Region.Mode} {ops : Array Oper} {Q : Exit → Act → World → Prop} {S : World → Prop} (i d : Nat) {oi : Oper} {v : Value} {fuel : Nat} {listed : Array Bool} {a : Act} {w : World} (hi : ops[i]? = some oi) (hd : oi.dst = some d)
    (hs : Region.noSelect ops = true) (hf : Region.free md ops listed i = true) (hr : (Region.ready md ops listed).contains i = true)
    (hQ : ∀ c a w, Q (.panic c) (a.put (some d) v) w → Q (.panic c) a w) (hy : YieldsIf P ops S oi v a) (hS : S w)
    (h : wpAnyH P md ops Q S fuel (listed.setIfInBounds i true) (a.put (some d) v) w) : wpAnyH P md ops Q S (fuel + 1) listed a w :=
  wpAnyH_take hi hs hf hr (by rw [hd]; exact hQ) hy hS (by rw [hd]; exact h)

end Go.Proofs.YtehgpnnfjgmiiaaGreat
end
