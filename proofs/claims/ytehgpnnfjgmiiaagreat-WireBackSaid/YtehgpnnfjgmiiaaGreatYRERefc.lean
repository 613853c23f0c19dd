/- Contracts of the reader of the reference, for whatever comes in: Take and Text. Conditions: the bytes are fewer than 900,000; a number that comes in is an int. A reader of the program and one of the reference side by side in memory. Conditions: the bytes are fewer than 900,000; a number that comes in is an int. A reader whose bytes lie below a bound; Take of it. Conditions: at most 900,000 bytes. Contract of next of package contact. Conditions: at most 900,000 bytes. Contract of next of package contact. Conditions: at most 900,000 bytes. -/
import Derived.Test.YtehgpnnfjgmiiaaGreatYOja
import Derived.Test.YtehgpnnfjgmiiaaGreatYOcb
import Derived.Test.YtehgpnnfjgmiiaaGreatYOga
import Derived.Test.YtehgpnnfjgmiiaaGreatProg
import Derived.RegionTactic
import Derived.RegionCalls
import Derived.WalkKit
import Derived.Deep.RegionHeld3
import Derived.Deep.QuietTactic
import Derived.BigQuiet
import Derived.Test.YtehgpnnfjgmiiaaGreatYRERefa
import Derived.LoopTactic
import Derived.Laws.BitsAllLaws
import Derived.Deep.MidRow
import Derived.Deep.DeepCutAuto
import Derived.Great.BuildSlice
import Derived.Lib.SlBytesConst
import Derived.Stop.BytesEq
import Derived.Test.YtehgpnnfjgmiiaaGreatYREOcta
import Derived.Deep.AppendSrc
import Derived.Laws.BytesString
import Derived.Laws.CopyOwn
import Derived.Deep.AppendLies
import Derived.Deep.Draws
import Derived.WalkSpells
import Derived.Test.YtehgpnnfjgmiiaaGreatRows
import Derived.WalkLawsBesides
import Derived.Lib.Hide
import Derived.Outline
import Derived.Laws.BitsLemmas
import Derived.Laws.Bits64
import Derived.Sort.Grow
import Derived.Lib.ConvBytes
import Derived.StillTailTactics
import Derived.Lib.OwnBridge
import Derived.Lib.SliceRun
import Derived.Below
import Derived.ProofKit
import Derived.OpenShut
import Derived.ChangeOld
import Derived.Laws.Tables
import Derived.Deep.LoopGhost
import Derived.Shelf.LaysM
section
namespace Go.Proofs.YtehgpnnfjgmiiaaGreat
set_option maxRecDepth 100000
open Go.RowKit
set_option linter.unusedVariables false

section
variable {w w' : World} {h : Nat} {A : Option Addr} {c : Nat} {xs : List UInt8} {k : Nat} {bad : Bool}

set_option maxRecDepth 100000 in
theorem rrtake_no (r : RRd w h A c xs k bad) (n : Int) (hn : n ≤ 9223372036854775807) (hno : ¬ takeOk ⟨xs.drop k, bad⟩ n) : Calls Tryz.prog 44 #[.pointer (some ⟨h, 0, none⟩), .int .i64 n] w (RTakeP w h A c xs ⟨xs.drop k, bad⟩ n) := by
  obtain ⟨c0, c1, c2, f⟩ := r.cells
  have hl : xs.length ≤ 900000 := r.2.2.2.2.1
  have hk : k ≤ xs.length := r.2.2.1
  have HF := Lib.hid (fun n => rfail_any (r.drewN n))
  have R : ∀ m w', RRd w' h A c xs xs.length true → (w.drewN m).grownBy w' (some h) → RTakeP w h A c xs ⟨xs.drop k, bad⟩ n (.returned (.slice none 0 0)) w' := fun m w' q1 q2 =>
    ⟨_, rfl, by simp only [takeV, if_neg hno]; exact World.ownsRow_nil _ _ _ _, by simp only [takeS, if_neg hno]; exact RRS.failed q1, grownBy_trans (grownBy_drewN m _) q2⟩
  have HR := Lib.hid R
  have hno' : bad = true ∨ n < 0 ∨ (xs.length : Int) - (k : Int) < n := by
    by_cases hb : bad = true
    · exact .inl hb
    · right
      by_cases h0 : n < 0
      · exact .inl h0
      · right
        refine Int.not_le.1 fun hle => hno ⟨by simpa using hb, by omega, by simp only [List.length_drop]; omega⟩
  clear r R hno
  by_cases hb : bad = true
  · subst hb
    clear hno'
    go_enter Tryz.func44, Tryz.ntmps44
    go_wp2
    go_quiet (fail)
    go_wp2_with (go_at_call 74; refine (HF.out _).mono ?_; rintro e w1 ⟨rfl, hr1, hg1⟩)
    go_ret
    exact HR.out _ _ hr1 hg1
  · have hb' : bad = false := by simpa using hb
    subst hb'
    by_cases h0 : n < 0
    · clear hno' hb
      have q1 : decide (n < 0) = true := by simpa using h0
      go_enter Tryz.func44, Tryz.ntmps44
      go_wp2
      go_quiet (fail)
      go_wp2_with (go_at_call 74; refine (HF.out _).mono ?_; rintro e w1 ⟨rfl, hr1, hg1⟩)
      go_ret
      exact HR.out _ _ hr1 hg1
    · have h1 : (xs.length : Int) - (k : Int) < n := by
        rcases hno' with h | h | h
        · exact absurd h hb
        · exact absurd h h0
        · exact h
      clear hno' hb
      have q1 : decide (n < 0) = false := by simpa using h0
      have q2 : decide ((xs.length : Int) - (k : Int) < n) = true := by simpa using h1
      have q3 : (k : Int) ≤ (xs.length : Int) := by omega
      go_enter Tryz.func44, Tryz.ntmps44
      go_wp2
      go_quiet (fail)
      go_wp2_with (go_at_call 74; refine (HF.out _).mono ?_; rintro e w1 ⟨rfl, hr1, hg1⟩)
      go_ret
      exact HR.out _ _ hr1 hg1

theorem rrtake_any (r : RRd w h A c xs k bad) (n : Int) (hn : n ≤ 9223372036854775807) : Calls Tryz.prog 44 #[.pointer (some ⟨h, 0, none⟩), .int .i64 n] w (RTakeP w h A c xs ⟨xs.drop k, bad⟩ n) := by
  by_cases hok : takeOk ⟨xs.drop k, bad⟩ n
  · obtain ⟨hb, h0, hle⟩ := hok
    simp only [List.length_drop] at hb hle
    subst hb
    have hk : k ≤ xs.length := r.2.2.1
    obtain ⟨d, rfl⟩ : ∃ d : Nat, n = d := ⟨n.toNat, by omega⟩
    exact rrtake_yes r d (by omega)
  · exact rrtake_no r n hn hok

def RTxtP (w : World) (h : Nat) (A : Option Addr) (c : Nat) (xs : List UInt8) (s : St) (most : Int) (e : Ending) (w' : World) : Prop :=
  e = .returned (.string (bstr (txtV s most))) ∧ RRS w' h A c xs (txtS s most) ∧ w.grownBy w' (some h)

set_option maxRecDepth 100000 in
theorem rrtext_any (r : RRd w h A c xs k bad) (most : Int) (hm : most ≤ 9223372036854775807) : Calls Tryz.prog 96 #[.pointer (some ⟨h, 0, none⟩), .int .i64 most] w (RTxtP w h A c xs ⟨xs.drop k, bad⟩ most) := by
  have HN := Lib.hid (rrnum_any r 2 (by omega))
  by_cases hok2 : numOk ⟨xs.drop k, bad⟩ 2
  · -- the length is read
    obtain ⟨hb, _, _, hle⟩ := id hok2
    simp only [List.length_drop] at hb hle
    subst hb
    have hk : k ≤ xs.length := r.2.2.1
    have hl : xs.length ≤ 900000 := r.2.2.2.2.1
    obtain ⟨m, hm2⟩ : ∃ m, getN ((xs.drop k).take 2) = m := ⟨_, rfl⟩
    have hm16 := getN2_lt (xs.drop k)
    rw [hm2] at hm16
    have hN : Calls Tryz.prog 43 #[.pointer (some ⟨h, 0, none⟩), .int .i64 2] w fun e w' => e = .returned (.int .u64 (m : Int)) ∧ RRd w' h A c xs (k + 2) false ∧ w.grownBy w' (some h) :=
      HN.out.mono fun e w' ⟨he, ⟨k', hr, hy⟩, hg⟩ => by
        have e1 : numV ⟨xs.drop k, false⟩ 2 = m := by simp only [numV, if_pos hok2]; exact hm2
        have e2 : numS ⟨xs.drop k, false⟩ 2 = ⟨(xs.drop k).drop 2, false⟩ := by simp only [numS, if_pos hok2]; rfl
        rw [e1] at he
        rw [e2] at hr hy
        simp only [List.drop_drop] at hy
        have hk' : k' = k + 2 := by
          have h1 := congrArg List.length hy
          simp only [List.length_drop] at h1
          have := hr.2.2.1
          omega
        subst hk'
        exact ⟨he, hr, hg⟩
    have HN2 := Lib.hid hN
    by_cases h3 : (m : Int) ≤ most ∧ m ≤ 1024
    · obtain ⟨h3a, h3b⟩ := h3
      have e1 : txtV ⟨xs.drop k, false⟩ most = takeV ⟨xs.drop (k + 2), false⟩ (m : Int) ∧ txtS ⟨xs.drop k, false⟩ most = takeS ⟨xs.drop (k + 2), false⟩ (m : Int) := by
        by_cases h5 : m + 2 ≤ xs.length - k
        · have o1 : txtOk ⟨xs.drop k, false⟩ most := ⟨rfl, by simp only [List.length_drop]; omega, by rw [hm2]; exact h3a, by rw [hm2]; exact h3b, by rw [hm2]; simp only [List.length_drop]; omega⟩
          have o2 : takeOk ⟨xs.drop (k + 2), false⟩ (m : Int) := ⟨rfl, by omega, by simp only [List.length_drop]; omega⟩
          simp only [txtV, takeV, txtS, takeS, if_pos o1, if_pos o2, hm2, List.drop_drop, Int.toNat_natCast, and_self]
        · have o1 : ¬ txtOk ⟨xs.drop k, false⟩ most := by
            rintro ⟨_, _, _, _, q⟩
            rw [hm2] at q
            simp only [List.length_drop] at q
            omega
          have o2 : ¬ takeOk ⟨xs.drop (k + 2), false⟩ (m : Int) := by
            rintro ⟨_, _, q⟩
            simp only [List.length_drop] at q
            omega
          simp only [txtV, takeV, txtS, takeS, if_neg o1, if_neg o2, and_self]
      unfold RTxtP
      rw [e1.1, e1.2]
      have HT := Lib.hid (fun W (hr : RRd W h A c xs (k + 2) false) => rrtake_any hr (m : Int) (by omega))
      clear r HN hok2 e1 hm2 hN hle
      generalize hv : takeV ⟨xs.drop (k + 2), false⟩ (m : Int) = V at HT ⊢
      generalize hs : takeS ⟨xs.drop (k + 2), false⟩ (m : Int) = S' at HT ⊢
      have HT2 : ∀ W, RRd W h A c xs (k + 2) false → Calls Tryz.prog 44 #[.pointer (some ⟨h, 0, none⟩), .int .i64 (m : Int)] W fun e w' => ∃ v, e = .returned v ∧ (convert 31 9 v).run Tryz.prog w' = .ok (.string (bstr V)) w' ∧ RRS w' h A c xs S' ∧ W.grownBy w' (some h) := fun W hr =>
        (HT.out W hr).mono fun e w' ⟨v, he, ho, q1, q2⟩ => ⟨v, he, conv_own (by rw [hv] at ho; exact ho), by rw [hs] at q1; exact q1, q2⟩
      have HT3 := Lib.hid HT2
      clear HT HT2 hv hs
      go_enter Tryz.func96, Tryz.ntmps96
      go_wp2_with (first
        | (go_at_call 43; refine (HN2.out).mono ?_; rintro e w1 ⟨rfl, hr1, hg1⟩; obtain ⟨_, _, c2, _⟩ := hr1.cells; have HR1 := Lib.hid hr1; have HG1 := Lib.hid hg1; clear hr1 hg1)
        | (go_at_call 44; refine (HT3.out _ HR1.out).mono ?_; rintro e w2 ⟨v2, rfl, hc2, hr2, hg2⟩))
      go_ret
      exact ⟨rfl, hr2, grownBy_trans HG1.out hg2⟩
    · have h3' : most < (m : Int) ∨ 1024 < (m : Int) := by omega
      have o1 : ¬ txtOk ⟨xs.drop k, false⟩ most := by
        rintro ⟨_, _, q1, q2, _⟩
        rw [hm2] at q1 q2
        omega
      unfold RTxtP
      simp only [txtV, txtS, if_neg o1]
      have e0 : bstr [] = ⟨#[]⟩ := rfl
      rw [e0]
      have HF := Lib.hid (fun W (hr : RRd W h A c xs (k + 2) false) => rfail_any hr)
      clear r HN hok2 hm2 hN hle o1 h3 e0
      by_cases h4 : most < (m : Int)
      · clear h3'
        have q1 : decide (most < (m : Int)) = true := by simpa using h4
        go_enter Tryz.func96, Tryz.ntmps96
        go_wp2_with (first
          | (go_at_call 43; refine (HN2.out).mono ?_; rintro e w1 ⟨rfl, hr1, hg1⟩; obtain ⟨_, _, c2, _⟩ := hr1.cells; have HR1 := Lib.hid hr1; have HG1 := Lib.hid hg1; clear hr1 hg1)
          | (go_at_call 74; refine (HF.out _ HR1.out).mono ?_; rintro e w2 ⟨rfl, hr2, hg2⟩))
        go_ret
        exact ⟨rfl, RRS.failed hr2, grownBy_trans HG1.out hg2⟩
      · have h5 : 1024 < (m : Int) := by omega
        clear h3'
        have q1 : decide (most < (m : Int)) = false := by simpa using h4
        have q2 : decide (1024 < (m : Int)) = true := by simpa using h5
        go_enter Tryz.func96, Tryz.ntmps96
        go_wp2_with (first
          | (go_at_call 43; refine (HN2.out).mono ?_; rintro e w1 ⟨rfl, hr1, hg1⟩; obtain ⟨_, _, c2, _⟩ := hr1.cells; have HR1 := Lib.hid hr1; have HG1 := Lib.hid hg1; clear hr1 hg1)
          | (go_at_call 74; refine (HF.out _ HR1.out).mono ?_; rintro e w2 ⟨rfl, hr2, hg2⟩))
        go_ret
        exact ⟨rfl, RRS.failed hr2, grownBy_trans HG1.out hg2⟩
  · have o1 : ¬ txtOk ⟨xs.drop k, bad⟩ most := by
      rintro ⟨q0, q1, _⟩
      exact hok2 ⟨q0, by omega, by omega, by simp only at q1 ⊢; omega⟩
    have hN : Calls Tryz.prog 43 #[.pointer (some ⟨h, 0, none⟩), .int .i64 2] w fun e w' => e = .returned (.int .u64 0) ∧ (∃ k', RRd w' h A c xs k' true) ∧ w.grownBy w' (some h) :=
      HN.out.mono fun e w' ⟨he, ⟨k', hr, hy⟩, hg⟩ => by
        have e1 : numV ⟨xs.drop k, bad⟩ 2 = 0 := by simp only [numV, if_neg hok2]
        have e2 : numS ⟨xs.drop k, bad⟩ 2 = ⟨[], true⟩ := by simp only [numS, if_neg hok2]
        rw [e1] at he
        rw [e2] at hr
        exact ⟨he, ⟨k', hr⟩, hg⟩
    unfold RTxtP
    simp only [txtV, txtS, if_neg o1]
    have e0 : bstr [] = ⟨#[]⟩ := rfl
    rw [e0]
    have HN2 := Lib.hid hN
    have HF := Lib.hid (fun W k' (hr : RRd W h A c xs k' true) => rfail_any hr)
    clear r HN hok2 hN o1 e0
    go_enter Tryz.func96, Tryz.ntmps96
    go_wp2_with (first
      | (go_at_call 43; refine (HN2.out).mono ?_; rintro e w1 ⟨rfl, ⟨k', hr1⟩, hg1⟩; obtain ⟨_, _, c2, _⟩ := hr1.cells; have HR1 := Lib.hid hr1; have HG1 := Lib.hid hg1; clear hr1 hg1)
      | (go_at_call 74; refine (HF.out _ _ HR1.out).mono ?_; rintro e w2 ⟨rfl, hr2, hg2⟩))
    go_ret
    exact ⟨rfl, RRS.failed hr2, grownBy_trans HG1.out hg2⟩
end
end Go.Proofs.YtehgpnnfjgmiiaaGreat
end
section
namespace Go.Proofs.YtehgpnnfjgmiiaaGreat
set_option maxRecDepth 100000
open Go.RowKit
set_option linter.unusedVariables false

section
variable {w w' : World} {g h : Nat} {A : Option Addr} {c : Nat} {xs : List UInt8} {s s1 s2 : St}

theorem RRS.cells (r : RRS w h A c xs s) : ∃ k : Nat, w.heap[h]? = some (.cells #[.slice A xs.length c, .int .i64 (k : Int), .bool s.bad] 72 (0, 0)) := by
  obtain ⟨k, hr, _⟩ := r
  exact ⟨k, hr.1⟩
theorem RRS.below {B : Nat} (r : RRS w h A c xs s) (hb : Below B w w') (hB : w.heap.size ≤ B) : RRS w' h A c xs s := by
  obtain ⟨k, hr, hy⟩ := r
  exact ⟨k, hr.below hb hB, hy⟩

/-- Both readers, and what was there first. -/
def Pair (w0 : World) (g h : Nat) (A : Option Addr) (c : Nat) (xs : List UInt8) (w : World) (s1 s2 : St) : Prop :=
  RdrS w g s1 ∧ RRS w h A c xs s2 ∧ Below w0.heap.size w0 w ∧ w0.heap.size ≤ g ∧ w0.heap.size ≤ h ∧ g ≠ h

variable {w0 : World}
theorem Pair.below {B : Nat} (p : Pair w0 g h A c xs w s1 s2) (hb : Below B w w') (hB : w.heap.size ≤ B) : Pair w0 g h A c xs w' s1 s2 := by
  obtain ⟨p1, p2, p3, p4, p5, p6⟩ := p
  exact ⟨p1.below hb hB, p2.below hb hB, p3.trans (hb.mono (by have := p3.size; omega)), p4, p5, p6⟩
theorem Pair.drewN (p : Pair w0 g h A c xs w s1 s2) (n : Nat) : Pair w0 g h A c xs (w.drewN n) s1 s2 :=
  p.below (B := w.heap.size) ⟨rfl, rfl, rfl, Nat.le_refl _, fun _ _ => rfl⟩ (Nat.le_refl _)

theorem St.eta (s : St) {k : Nat} {bad : Bool} (h1 : s.ys = xs.drop k) (h2 : s.bad = bad) : s = ⟨xs.drop k, bad⟩ := by
  cases s
  simp only at h1 h2
  rw [h1, h2]

/-- What Take leaves, of whichever reader: an answer that reads as the string S here and later as long as only block x, older than it, is written. -/
def TakeQ (w w' : World) (x : Nat) (X : List UInt8) (e : Ending) : Prop := ∃ v, e = .returned v ∧ w'.ownsRow w.heap.size 5 1 v X.length (bcells X) ∧ w.grownBy w' (some x)
end
end Go.Proofs.YtehgpnnfjgmiiaaGreat
end
section
namespace Go.Proofs.YtehgpnnfjgmiiaaGreat
open Go.Shelf Go.RowKit Go.Lib Go.Sort Go.Great
set_option maxRecDepth 100000
set_option maxHeartbeats 1000000
/-- A reader whose bytes lie in a block below B. -/
def RdrB (w : World) (g : Nat) (s : St) (B : Nat) : Prop :=
  ∃ A c, w.heap[g]? = some (.cells #[.slice A s.ys.length c, .bool true, .bool s.bad] 100 (0, 0)) ∧ BAt w B A s.ys ∧ s.ys.length ≤ c ∧ (s.bad = true → s.ys = []) ∧ s.ys.length ≤ 900000 ∧ B ≤ w.heap.size
section
variable {w w' : World} {g B : Nat} {s : St}
theorem RdrB.rs (h : RdrB w g s B) : RdrS w g s := by
  obtain ⟨A, c, hh, hx, hc, hb, hl, hB⟩ := h
  exact ⟨⟨A, c, hh, hx.more hB, hc⟩, hb, hl⟩
theorem RdrS.rb (h : RdrS w g s) : RdrB w g s w.heap.size := by
  obtain ⟨⟨A, c, hh, hx, hc⟩, hb, hl⟩ := h
  exact ⟨A, c, hh, hx, hc, hb, hl, Nat.le_refl _⟩
/-- The reader's block and all below B stay. -/
theorem RdrB.keep (h : RdrB w g s B) (hg : w'.heap[g]? = w.heap[g]?) (hs : w.heap.size ≤ w'.heap.size) (hk : ∀ i, i < B → i ≠ g → w'.heap[i]? = w.heap[i]?) : RdrB w' g s B := by
  obtain ⟨A, c, hh, hx, hc, hb, hl, hB⟩ := h
  refine ⟨A, c, hg.trans hh, ?_, hc, hb, hl, by omega⟩
  rcases hx with hx | ⟨g', off, rfl, hlt, hcell⟩
  · exact .inl hx
  · refine .inr ⟨g', off, rfl, hlt, fun j hj => ?_⟩
    rw [← hcell j hj]
    have : w'.heap[g']? = w.heap[g']? := by
      by_cases e : g' = g
      · rw [e]; exact hg
      · exact hk g' hlt e
    simp only [World.cell?, this]
theorem RdrB.lt (h : RdrB w g s B) : g < w.heap.size := h.rs.lt
theorem RdrB.below (h : RdrB w g s B) (hb : Below w.heap.size w w') : RdrB w' g s B := by
  obtain ⟨A, c, _, _, _, _, _, hB⟩ := id h
  exact h.keep (hb.block g h.lt) hb.size (fun i hi _ => hb.block i (by omega))
def TakePB (w : World) (g : Nat) (s : St) (n : Int) (B : Nat) (e : Ending) (w' : World) : Prop :=
  ∃ v, e = .returned v ∧ w'.ownsRow w.heap.size 5 1 v (takeV s n).length (bcells (takeV s n)) ∧ RdrB w' g (takeS s n) B ∧ w.grownBy w' (some g)
theorem take_anyB (h : RdrB w g s B) (n : Int) (hw : n ≤ 9223372036854775807) : Calls Tryz.prog 67 #[.pointer (some ⟨g, 0, none⟩), .int .i64 n] w (TakePB w g s n B) := by
  have hS := h.rs
  have HB := Lib.hid (bad_any hS)
  obtain ⟨A, c, hh, hxB, hc, hbd, hlen, hBw⟩ := id h
  have hx := hxB.more hBw
  have c0 := cell_of_row w g 0 _ 100 (0, 0) hh
  simp at c0
  have hf := fun i => frozen_of_row w g i _ 100 hh
  by_cases hb : s.bad = true
  · have hno : ¬ takeOk s n := fun hk => hb.symm.trans hk.1 |> fun h => by cases h
    have R : TakePB w g s n B (.returned (.slice none 0 0)) w := by
      refine ⟨_, rfl, by simp only [takeV, if_neg hno]; exact World.ownsRow_nil _ _ _ _, ?_, World.grownBy.refl w _⟩
      simp only [takeS, if_neg hno]
      have e : s = ⟨[], true⟩ := by cases s; simp only [St.mk.injEq] at *; exact ⟨hbd hb, hb⟩
      rw [← e]
      exact h
    have HR := Lib.hid R
    rw [hb] at HB
    clear hh hx h R hb hno hxB hS hbd
    go_enter Tryz.func67, Tryz.ntmps67
    go_wp2_with (go_at_call 64; (with_reducible refine (HB.out).mono ?_); rintro e w1 ⟨rfl, rfl⟩)
    go_ret
    exact HR.out
  · have hb' : s.bad = false := by simpa using hb
    rw [hb'] at HB
    by_cases hk : 0 ≤ n ∧ n ≤ s.ys.length
    · obtain ⟨k, rfl⟩ : ∃ k : Nat, n = k := ⟨n.toNat, by omega⟩
      have hok : takeOk s (k : Int) := ⟨hb', hk⟩
      have HN := Lib.hid (cut_yes g c s.ys.length k A w c0 (hf 0) hlen hc (by omega))
      have hhd : BAt w w.heap.size (headA A c) (s.ys.take k) := hx.head hc
      have hx1 : BAt (w.setCell ⟨g, 0, none⟩ (.slice (cutA A c k) (s.ys.length - k) (c - k))) (w.setCell ⟨g, 0, none⟩ (.slice (cutA A c k) (s.ys.length - k) (c - k))).heap.size (headA A c) (s.ys.take k) := by
        have := hhd.set (j := 0) (.slice (cutA A c k) (s.ys.length - k) (c - k)) (hhd.ne hh (by simp) (by simp) (by simp))
        simpa [World.setCell] using this
      have HC := Lib.hid (clone_len (headA A c) k c (s.ys.take k) _ hx1 (by rw [List.length_take]; omega) (by rw [List.length_take]; omega))
      have R : ∀ e w', OwnB (w.setCell ⟨g, 0, none⟩ (.slice (cutA A c k) (s.ys.length - k) (c - k))) (s.ys.take k) e w' → TakePB w g s k B e w' := by
        rintro e w' ⟨v, he, ho, hbl⟩
        have e1 : (w.setCell ⟨g, 0, none⟩ (.slice (cutA A c k) (s.ys.length - k) (c - k))).heap.size = w.heap.size := by simp [World.setCell]
        refine ⟨v, he, ?_, ?_, grownBy_trans (grownBy_setCell (World.grownBy.refl w _) 0 _) (grownBy_of_below hbl (Nat.le_refl _) _)⟩
        · simp only [takeV, if_pos hok, Int.toNat_natCast]
          rw [e1] at ho
          exact ho
        · simp only [takeS, if_pos hok, Int.toNat_natCast]
          rw [hb'] at hh
          have h1 : RdrB (w.setCell ⟨g, 0, none⟩ (.slice (cutA A c k) (s.ys.length - k) (c - k))) g ⟨s.ys.drop k, false⟩ B := by
            refine ⟨cutA A c k, c - k, ?_, ?_, by simp only [List.length_drop]; omega, by simp, by simp only [List.length_drop]; omega, by rw [e1]; exact hBw⟩
            · have s0 := heap_setCell_same w g 0 _ 100 (.slice (cutA A c k) (s.ys.length - k) (c - k)) hh
              simp only [List.length_drop]
              simpa using s0
            · have hx' : BAt w B (cutA A c k) (s.ys.drop k) := hxB.cut (by omega) hc
              have := hx'.set (j := 0) (.slice (cutA A c k) (s.ys.length - k) (c - k)) (hx'.ne hh (by simp) (by simp) (by simp))
              simpa [World.setCell] using this
          exact h1.below hbl
      have HR := Lib.hid R
      clear hh hx h R hb hb' hok hhd hx1 hxB hS hbd
      go_enter Tryz.func67, Tryz.ntmps67
      go_wp2_with (first
        | (go_at_call 64; (with_reducible refine (HB.out).mono ?_); rintro e w1 ⟨rfl, rfl⟩)
        | (go_at_call 90; (with_reducible refine (HN.out).mono ?_); rintro e w1 ⟨rfl, rfl⟩)
        | (go_at_call 50; (with_reducible refine (HC.out).mono ?_); rintro e w1 ⟨v1, rfl, ho1, hb1⟩))
      go_ret
      exact HR.out _ _ ⟨v1, rfl, ho1, hb1⟩
    · have hno : ¬ takeOk s n := fun h' => hk h'.2
      refine (take_any hS n hw).mono ?_
      rintro e w' ⟨v, rfl, ho, hr, hg⟩
      refine ⟨v, rfl, ho, ?_, hg⟩
      have hB2 : B ≤ w'.heap.size := Nat.le_trans hBw hg.size
      simp only [takeS, if_neg hno] at hr ⊢
      obtain ⟨⟨A', c', hh', _, hc'⟩, _, _⟩ := hr
      exact ⟨A', c', hh', .inl rfl, hc', fun _ => rfl, by simp, hB2⟩
end
end Go.Proofs.YtehgpnnfjgmiiaaGreat
end
section
namespace Go.Proofs.YtehgpnnfjgmiiaaGreat
open Go.Shelf Go.RowKit Go.Lib Go.Sort Go.Great
set_option maxRecDepth 100000
set_option maxHeartbeats 1000000
theorem getN_lt' (xs : List UInt8) (n : Nat) (h : xs.length ≤ n) : getN xs < 256 ^ n := by
  have h1 : getN xs < 256 ^ xs.length := getN_lt xs
  exact Nat.lt_of_lt_of_le h1 (Nat.pow_le_pow_right (by omega) h)
end Go.Proofs.YtehgpnnfjgmiiaaGreat
end
section
namespace Go.Proofs.YtehgpnnfjgmiiaaGreat
set_option maxRecDepth 100000
open Go.Shelf Go.RowKit Go.Lib Go.Sort Go.Great
set_option maxRecDepth 1000000
set_option maxHeartbeats 2000000
theorem grown_cells {g : Nat} {W : World} : ∀ (vs : List Value) (o : Nat) (W1 : World), W.grownBy W1 (some g) → W.grownBy (W1.setCells g o vs) (some g)
  | [], _, _, h => h
  | _ :: vs, o, W1, h => grown_cells vs (o + 1) _ (grownBy_setCell h o _)
theorem step_copy_row {P : Program} {ops : Array Oper} {o : Oper} {a : Act} {w : World} {K : Act → World → Prop} {Q : Exit → Act → World → Prop} {E : Prop} (hgd : o.guard = none) (dd : Nat) (hdd : o.dst = some dd) (d s : Operand) (dT sT : TypeId)
    (ho : o.op = .call { callee := .builtin .copy, args := #[d, s], argTypes := #[dT, sT] }) (elem : TypeId) (hu : P.underlying dT = some (.slice elem)) (hsz : (P.info? elem).map (·.size) = some 1)
    (dp sp : Option Addr) (dLen dCap sLen sCap : Nat) (hd : a.eval d = .slice dp dLen dCap) (hs : a.eval s = .slice sp sLen sCap)
    (g off : Nat) (cur : List Value) (t : TypeId) (hg : w.heap[g]? = some (.cells cur.toArray t (0, 0))) (cs : List Value) (hn : cs.length = Nat.min sLen dLen)
    (hpos : 0 < cs.length → dp = some ⟨g, off, none⟩ ∧ ∃ ad, sp = some ad ∧ ∀ j v, cs[j]? = some v → w.cell? (ad.add j) = some v)
    (hfit : off + cs.length ≤ cur.length) (h1 : ∀ v ∈ cs, v.oneCell' = true)
    (h : ∀ w', w'.heap[g]? = some (.cells (splice cur off cs).toArray t (0, 0)) → w.grownBy w' (some g) → K (a.put (some dd) (goInt cs.length)) w') :
    if Region.wanted o (yielded ops a.tmps) = true then Oper.wp P o a w K Q else E := by
  have hw : Region.wanted o (yielded ops a.tmps) = true := by simp [Region.wanted, hgd]
  rw [if_pos hw]
  rw [← hdd] at h
  by_cases h0 : cs.length = 0
  · obtain rfl : cs = [] := List.eq_nil_of_length_eq_zero h0
    have hrun := run_copy_none (P := P) w dT sT o.type elem dp sp dLen dCap sLen sCap hu hsz (by simpa using hn.symm)
    unfold Oper.wp
    simp [execOp, ho, resolve, invoke, builtin, hd, hs, hrun, Result.andThen]
    exact h w (by simpa [splice] using hg) (World.grownBy.refl w _)
  · obtain ⟨rfl, ad, rfl, hsrc⟩ := hpos (by omega)
    have hrun := run_copy_row (P := P) w dT sT o.type elem g off dLen dCap ad sLen sCap cur.toArray t cs hu hsz hg hn hsrc (by simpa using hfit) h1
    unfold Oper.wp
    simp [execOp, ho, resolve, invoke, builtin, hd, hs, hrun, Result.andThen]
    exact h _ (by simpa [splice] using setRow_heap w g _ _ t _ hg) ⟨rfl, rfl, rfl, by simp, fun k _ hk => setRow_other w g k _ (fun e => hk (by simp [e]))⟩
section
variable {w W W' : World} {g B r q : Nat} {s s' : St} {cq cq' : List Value}
end
end Go.Proofs.YtehgpnnfjgmiiaaGreat
end
