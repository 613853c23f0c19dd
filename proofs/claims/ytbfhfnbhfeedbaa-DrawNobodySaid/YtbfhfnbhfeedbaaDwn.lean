/- The walk of DrawNobody. No condition. -/
import Derived.Test.YtbfhfnbhfeedbaaDnx
namespace Go.Proofs.Ytbfhfnbhfeedbaa
set_option maxRecDepth 100000
set_option maxHeartbeats 1000000
open Go.RowKit Go.Lib Go.Great
/-- What stays while an unmade source is asked. -/
def NInv (w W : World) (p : Option Addr) : Prop :=
  DNx W p none [] ∧ (p = none ∨ p = some ⟨w.heap.size, 0, none⟩) ∧ W.heap[w.heap.size]? = some (.cells #[.bool false, .slice none 0 0] 51 (0, 0)) ∧ W.heap[w.heap.size + 1]? = some (.cells #[.pointer none, .pointer (some ⟨w.heap.size, 0, none⟩)] 25 (0, 0)) ∧ Below w.heap.size w W
theorem NInv.step {w W W' : World} {p : Option Addr} (i : NInv w W p) (s : DNx W' p none []) (g : W.grownBy W' (pblk p)) : NInv w W' p := by
  obtain ⟨s0, hp, c1, c2, hb⟩ := i
  have h1 := (Array.getElem?_eq_some_iff.1 c1).1
  have h2 := (Array.getElem?_eq_some_iff.1 c2).1
  refine ⟨s, hp, ?_, ?_, ?_⟩
  · rcases hp with rfl | rfl
    · exact (g.block _ h1 (by intro e; cases e)).trans c1
    · obtain ⟨_, _, e | ⟨h, e, a⟩⟩ := s
      · cases e
      · injection e with e; injection e with e; subst e; exact a
  · refine (g.block _ h2 ?_).trans c2
    rcases hp with rfl | rfl
    · intro e; cases e
    · intro e; first | (simp [pblk] at e; done) | (simp [pblk] at e; omega)
  · refine ⟨g.os.trans hb.os, g.tape.trans hb.tape, g.output.trans hb.output, Nat.le_trans hb.size g.size, fun k hk => (g.block k (Nat.lt_of_lt_of_le hk hb.size) ?_).trans (hb.block k hk)⟩
    rcases hp with rfl | rfl
    · intro e; cases e
    · intro e; first | (simp [pblk] at e; done) | (simp [pblk] at e; omega)
def NoRel (w : World) (i : Value) (wr : World) : Prop := ∃ j : Nat, j ≤ 2 ∧ i = .int .i64 (j : Int) ∧ NInv w wr none
def NiRel (N : Nat) (W0 : World) (i : Value) (wr : World) : Prop := ∃ k : Nat, k ≤ N ∧ i = .int .i64 (k : Int) ∧ wr = W0
theorem NInv.to {w W : World} {p : Option Addr} (i : NInv w W p) (q : Option Addr) (hq : q = none ∨ q = some ⟨w.heap.size, 0, none⟩) : NInv w W q :=
  ⟨⟨rfl, rfl, hq.imp id (fun e => ⟨_, e, i.2.2.1⟩)⟩, hq, i.2.2⟩
theorem drawnobody_big (A : Option Addr) (c : Nat) (bs : List UInt8) (n : Int) (w : World) (h : 1000 < bs.length) :
    Calls Try.prog 6 #[.int .i64 n, .slice A bs.length c] w fun e w' => e = .returned (.bool true) ∧ Below w.heap.size w w' := by
  have HL := Lib.hid (lives_any w)
  have q : (1000 : Int) < (bs.length : Int) := by omega
  clear h
  generalize bs.length = l at *
  go_enter Try.func6, Try.ntmps6
  go_wp2_with (go_at_call 10; (with_reducible refine HL.out.mono ?_); rintro e w1 ⟨rfl, hb1⟩)
  go_ret
  exact ⟨rfl, hb1⟩
theorem drawnobody_in (A : Option Addr) (c : Nat) (bs : List UInt8) (n : Int) (hn0 : -9223372036854775808 ≤ n) (hn : n ≤ 9223372036854775807) (w : World) (h : ¬ 1000 < bs.length) :
    Calls Try.prog 6 #[.int .i64 n, .slice A bs.length c] w fun e w' => e = .returned (.bool true) ∧ Below w.heap.size w w' := by
  have q : ¬ (1000 : Int) < (bs.length : Int) := by omega
  obtain ⟨N, hN⟩ : ∃ N, N = (min n 1024).toNat := ⟨_, rfl⟩
  have HT : Hid (∀ W p, NInv w W p → Calls Try.prog 18 #[.pointer p, .int .i64 n] W fun e W' => ∃ A2 c2, e = .returned (.slice A2 N c2) ∧ (∀ k, k < N → ∃ g off, A2 = some ⟨g, off, none⟩ ∧ W'.cell? ⟨g, off + k, none⟩ = some (.int .u8 0)) ∧ NInv w W' p) := by
    refine Lib.hid (fun W p i => (ntake_anyX i.1 n hn hn0).mono ?_)
    rintro e W' ⟨v, rfl, o, s, g⟩
    rw [← hN, padT_nil] at o
    obtain ⟨A2, c2, rfl, hb, _⟩ := own_bat o
    refine ⟨A2, c2, by rw [List.length_replicate], fun k hk => ?_, i.step (by rw [← hN] at s; simpa using s) g⟩
    obtain ⟨g2, off, rfl, _, hc⟩ := hb.some_ (by rw [List.length_replicate]; omega)
    refine ⟨g2, off, rfl, ?_⟩
    have := hc k (by rw [List.length_replicate]; exact hk)
    rw [List.getElem_replicate] at this
    exact this
  have HBy : Hid (∀ W p, NInv w W p → Calls Try.prog 12 #[.pointer p] W fun e W' => e = .returned (.int .u8 0) ∧ NInv w W' p) := Lib.hid (fun W p i => (nbyte_anyX i.1).mono (by rintro e W' ⟨rfl, s, g⟩; exact ⟨rfl, i.step s g⟩))
  have HNu : Hid (∀ W p, NInv w W p → Calls Try.prog 14 #[.pointer p, .int .i64 n] W fun e W' => e = .returned (.int .i64 0) ∧ NInv w W' p) := Lib.hid (fun W p i => (nnum_anyX i.1 n hn).mono (by rintro e W' ⟨rfl, s, g⟩; rw [numL_nil n hn] at s ⊢; exact ⟨rfl, i.step s g⟩))
  have HWo : Hid (∀ W p, NInv w W p → Calls Try.prog 16 #[.pointer p] W fun e W' => e = .returned (.int .u32 0) ∧ NInv w W' p) := Lib.hid (fun W p i => (nword_anyX i.1).mono (by rintro e W' ⟨rfl, s, g⟩; rw [eat_nil] at s ⊢; exact ⟨rfl, i.step s g⟩))
  have HLe : Hid (∀ W p, NInv w W p → Calls Try.prog 23 #[.pointer p] W fun e W' => e = .returned (.int .i64 0) ∧ NInv w W' p) := Lib.hid (fun W p i => (nleft_anyX i.1).mono (by rintro e W' ⟨rfl, s, g⟩; exact ⟨rfl, i.step s g⟩))
  have HAd : Hid (∀ W p l, NInv w W p → Calls Try.prog 20 #[.pointer p, .slice A l c] W fun e W' => e = .returned (.int .i64 1) ∧ NInv w W' p) := Lib.hid (fun W p l i => (nadd_no i.1 A l c).mono (by rintro e W' ⟨rfl, rfl⟩; exact ⟨rfl, i⟩))
  have HCl : Hid (Calls Try.prog 22 #[.pointer none] w fun e w' => e = .returned (.pointer none) ∧ w = w') := Lib.hid ((nclone_none w).mono (fun e w' h => ⟨h.1, h.2.symm⟩))
  have HLV : Hid (∀ w3, Below w.heap.size w w3 → Calls Try.prog 10 #[] w3 fun e w4 => e = .returned (.bool true) ∧ Below w.heap.size w w4) := Lib.hid (fun w3 hb3 => (lives_any w3).mono (by rintro e w4 ⟨rfl, hb4⟩; exact ⟨rfl, hb3.trans (hb4.mono hb3.size)⟩))
  have R0 : Hid (NoRel w (.int .i64 0) ((w.alloc (.cells #[.bool false, .slice none 0 0] 51)).alloc (.cells #[.pointer none, .pointer (some ⟨w.heap.size, 0, none⟩)] 25))) := by
    have b1 : Below (w.heap.size + 1) (w.alloc (.cells #[.bool false, .slice none 0 0] 51)) ((w.alloc (.cells #[.bool false, .slice none 0 0] 51)).alloc (.cells #[.pointer none, .pointer (some ⟨w.heap.size, 0, none⟩)] 25)) := (Below.refl _ _).alloc (by simp) _
    refine Lib.hid ⟨0, by omega, rfl, ⟨rfl, rfl, .inl rfl⟩, .inl rfl, (b1.block _ (by omega)).trans (heap_alloc_new w _), ?_, ((Below.refl w.heap.size w).alloc (Nat.le_refl _) _).alloc (by simp) _⟩
    have := heap_alloc_new (w.alloc (.cells #[.bool false, .slice none 0 0] 51)) (.cells #[.pointer none, .pointer (some ⟨w.heap.size, 0, none⟩)] 25)
    simpa using this
  have hN1 : N ≤ 1024 := by omega
  clear h hN
  generalize bs.length = l at *
  go_enter Try.func6, Try.ntmps6
  go_upto_region 7 with (go_at_call 22; (with_reducible refine HCl.out.mono ?_); rintro e w1 ⟨rfl, rfl⟩)
  go_loopw [22] (NoRel w) (fun i _ => 2 - (RowKit.intOf i).toNat)
  case atStart => exact R0.out
  case round =>
    obtain ⟨j, hj, rfl, hi⟩ := hrel
    clear R0 HCl
    by_cases hlt : j < 2
    · have hlt' : (j : Int) < 2 := by omega
      obtain ⟨p, hp, hcp⟩ : ∃ p, (p = none ∨ p = some ⟨w.heap.size, 0, none⟩) ∧ wr.cell? ⟨w.heap.size + 1, j, none⟩ = some (.pointer p) := by
        have hc := cell_of_row wr (w.heap.size + 1) j _ 25 (0, 0) hi.2.2.2.1
        have : j = 0 ∨ j = 1 := by omega
        rcases this with rfl | rfl
        · exact ⟨none, .inl rfl, by simpa using hc⟩
        · exact ⟨_, .inr rfl, by simpa using hc⟩
      have HT1 := Lib.hid (HT.out wr p (hi.to p hp))
      have HREL : Hid (∀ W, NInv w W p → NoRel w (.int .i64 ((j : Int) + 1)) W) := Lib.hid (fun W i => ⟨j + 1, by omega, by go_num, i.to none (.inl rfl)⟩)
      clear hi HT hp
      go_upto_region 10 with (go_at_call 18; (with_reducible refine HT1.out.mono ?_); rintro e W2 ⟨A2, c2, rfl, hz, hi2⟩)
      have HI2 := Lib.hid hi2
      have HZ := Lib.hid hz
      have R1 : Hid (NiRel N W2 (.int .i64 0) W2) := Lib.hid ⟨0, by omega, rfl, rfl⟩
      clear hi2 hz HT1 hcp
      go_loopw [30] (NiRel N W2) (fun i _ => N - (RowKit.intOf i).toNat)
      case atStart => exact R1.out
      case round =>
        obtain ⟨k, hk, rfl, hww⟩ := hrel
        subst hww
        clear R1
        by_cases hkl : k < N
        · have hki : (k : Int) < (N : Int) := by omega
          obtain ⟨g2, o2, rfl, c2'⟩ := HZ.out k hkl
          have HR2 : Hid (NiRel N wr (.int .i64 ((k : Int) + 1)) wr) := Lib.hid ⟨k + 1, by omega, by go_num, rfl⟩
          go_wp2
          go_roundw
          case rel => exact HR2.out
          case measure => simp [RowKit.intOf]; omega
        · have hki : ¬ (k : Int) < (N : Int) := by omega
          have hii := HI2.out
          clear HZ
          go_wp2_with (first
            | (go_at_call 12; (with_reducible refine (HBy.out _ _ hii).mono ?_); rintro e w3 ⟨rfl, i3⟩)
            | (go_at_call 14; (with_reducible refine (HNu.out _ _ i3).mono ?_); rintro e w4 ⟨rfl, i4⟩)
            | (go_at_call 16; (with_reducible refine (HWo.out _ _ i4).mono ?_); rintro e w5 ⟨rfl, i5⟩)
            | (go_at_call 23; (with_reducible refine (HLe.out _ _ i5).mono ?_); rintro e w6 ⟨rfl, i6⟩)
            | (go_at_call 20; (with_reducible refine (HAd.out _ _ _ i6).mono ?_); rintro e w7 ⟨rfl, i7⟩))
          have HR7 := Lib.hid (HREL.out _ i7)
          go_roundw
          case rel => exact HR7.out
          case measure => simp [RowKit.intOf]; omega
    · obtain rfl : j = 2 := by omega
      have hb := hi.2.2.2.2
      clear hi
      go_wp2_with (go_at_call 10; (with_reducible refine (HLV.out _ hb).mono ?_); rintro e w6 ⟨rfl, hb6⟩)
      go_ret
      exact ⟨rfl, hb6⟩
theorem drawnobody_any (n : Int) (hn0 : -9223372036854775808 ≤ n) (hn : n ≤ 9223372036854775807) (A : Option Addr) (c : Nat) (bs : List UInt8) (w : World) :
    Calls Try.prog 6 #[.int .i64 n, .slice A bs.length c] w fun e w' => e = .returned (.bool true) ∧ Below w.heap.size w w' := by
  by_cases h : 1000 < bs.length
  · exact drawnobody_big A c bs n w h
  · exact drawnobody_in A c bs n hn0 hn w h
end Go.Proofs.Ytbfhfnbhfeedbaa
