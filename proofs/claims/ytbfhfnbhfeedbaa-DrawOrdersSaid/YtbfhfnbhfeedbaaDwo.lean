/- The walk of DrawOrders. No condition. -/
import Derived.Test.YtbfhfnbhfeedbaaDro
namespace Go.Proofs.Ytbfhfnbhfeedbaa
set_option maxRecDepth 100000
set_option maxHeartbeats 1000000
open Go.RowKit Go.Lib Go.Great
theorem info4 : ∃ i0, Try.prog.info? 4 = some i0 ∧ i0.zero = some (.bool false) ∧ i0.size = 1 ∧ i0.bytes = 1 := by
  have h : (Try.prog.info? 4).map (fun i => (i.zero, i.size, i.bytes)) = some (some (.bool false), 1, 1) := by kernel_rfl
  cases hi : Try.prog.info? 4 with
  | none => rw [hi] at h; cases h
  | some i =>
    rw [hi] at h
    simp only [Option.map_some, Option.some.injEq, Prod.mk.injEq] at h
    exact ⟨i, rfl, h.1, h.2.1, h.2.2⟩
/-- Which of the first N numbers stand in S. -/
def seenC (N : Nat) (S : List Nat) : List Value := (List.range N).map fun x => .bool (decide (x ∈ S))
theorem seenC_length (N : Nat) (S : List Nat) : (seenC N S).length = N := by simp [seenC]
theorem seenC_get (N : Nat) (S : List Nat) (x : Nat) (hx : x < N) : (seenC N S)[x]? = some (.bool (decide (x ∈ S))) := by simp [seenC, hx]
theorem seenC_nil (N : Nat) : seenC N [] = List.replicate N (.bool false) := by
  apply List.ext_getElem?
  intro k
  by_cases hk : k < N
  · rw [seenC_get N [] k hk, List.getElem?_replicate, if_pos hk]; simp
  · rw [List.getElem?_eq_none (by rw [seenC_length]; omega), List.getElem?_eq_none (by simp; omega)]
theorem seenC_set (N : Nat) (S : List Nat) (x : Nat) : (seenC N S).set x (.bool true) = seenC N (S ++ [x]) := by
  apply List.ext_getElem?
  intro k
  by_cases hk : k < N
  · rw [seenC_get N _ k hk, List.getElem?_set]
    by_cases hkx : x = k
    · subst hkx
      rw [if_pos rfl, if_pos (by rw [seenC_length]; exact hk)]; simp
    · rw [if_neg hkx, seenC_get N S k hk]
      have : (k ∈ S ++ [x]) ↔ k ∈ S := by simp; intro e; omega
      simp [this]
  · rw [List.getElem?_eq_none (by rw [List.length_set, seenC_length]; omega), List.getElem?_eq_none (by rw [seenC_length]; omega)]
theorem run_make_l (n : Nat) (hc : n ≤ 2000000) (w : World) :
    (Instr.makeSlice 45 (.int .i64 (n : Int)) (.int .i64 (n : Int))).run Try.prog w = .ok (.slice (some ⟨w.heap.size, 0, none⟩) n n) (w.alloc (.cells (seenC n []).toArray 4)) := by
  obtain ⟨i0, hi, hz0, hz1, hz2⟩ := info4
  have hr := run_make (P := Try.prog) w 45 4 i0 _ Try.underlying45 hi hz0 .i64 .i64 n n (by omega) (by omega) (by rw [hz2]; omega) (by omega)
  simp only [Int.toNat_natCast, hz1] at hr
  rw [hr, seenC_nil]
  congr 3
  apply Array.ext
  · simp [madeCells]
  · intro j h1 h2
    simp [madeCells, Value.cells, Nat.mod_one]
def DoRel (W2 : World) (N : Nat) (L : List Nat) (i : Value) (wr : World) : Prop :=
  ∃ j : Nat, j ≤ L.length ∧ i = .int .i64 (j : Int) ∧ wr.heap[W2.heap.size]? = some (.cells (seenC N (L.take j)).toArray 4 (0, 0)) ∧ Below W2.heap.size W2 wr
theorem ordOf_len2 (n : Int) (hn : n ≤ 60) (r : List UInt8) : (ordOf n r).1.length = n.toNat := by
  by_cases h : 1 ≤ n
  · exact ordOf_length n r (by omega)
  · unfold ordOf; rw [if_neg (by omega)]
    simp; omega
theorem ordOf_lt2 (n : Int) (r : List UInt8) : ∀ x ∈ (ordOf n r).1, x < n.toNat := by
  unfold ordOf
  split
  · exact ord_lt _ _
  · simp
theorem ordOf_nodup2 (n : Int) (r : List UInt8) : (ordOf n r).1.Nodup := by
  unfold ordOf
  split
  · exact ord_nodup _ _
  · simp
theorem nat_of_own {w : World} {base n c m : Nat} {A : Option Addr} {L : List Nat} (h : w.ownsRow base 3 1 (.slice A n c) m (intsL L)) : NAt w w.heap.size A L := by
  obtain ⟨A', c', e, _, hn⟩ := nat_own h
  injection e with e1 e2 e3
  subst e1
  exact hn
theorem drawords_big (A : Option Addr) (c : Nat) (bs : List UInt8) (n m : Int) (w : World) (h : 4000 < bs.length ∨ 60 < n) :
    Calls Try.prog 4 #[.slice A bs.length c, .int .i64 n, .int .i64 m] w fun e w' => e = .returned (.bool true) ∧ Below w.heap.size w w' := by
  have HL := Lib.hid (lives_any w)
  have hq : (4000 : Int) < (bs.length : Int) ∨ (¬ (4000 : Int) < (bs.length : Int) ∧ 60 < n) := by omega
  clear h
  generalize bs.length = l at *
  rcases hq with q | ⟨q, q2⟩
  all_goals
    go_enter Try.func4, Try.ntmps4
    go_wp2_with (go_at_call 10; (with_reducible refine HL.out.mono ?_); rintro e w1 ⟨rfl, hb1⟩)
    go_ret
    exact ⟨rfl, hb1⟩
theorem drawords_in (A : Option Addr) (c : Nat) (bs : List UInt8) (n m : Int) (w : World) (hm63 : m ≤ 9223372036854775807) (hl : bs.length ≤ 4000) (hn : n ≤ 60) (hA : BAt w w.heap.size A bs) :
    Calls Try.prog 4 #[.slice A bs.length c, .int .i64 n, .int .i64 m] w fun e w' => e = .returned (.bool true) ∧ Below w.heap.size w w' := by
  have HN := Lib.hid (new_any c hA (by omega))
  obtain ⟨L, hL⟩ : ∃ L, L = (ordOf n bs).1 := ⟨_, rfl⟩
  obtain ⟨r2, hr2⟩ : ∃ r2, r2 = (ordOf n bs).2 := ⟨_, rfl⟩
  obtain ⟨N, hN⟩ : ∃ N, N = n.toNat := ⟨_, rfl⟩
  have hLN : L.length = N := by rw [hL, hN]; exact ordOf_len2 n hn bs
  have hLlt : ∀ x ∈ L, x < N := by rw [hL, hN]; exact ordOf_lt2 n bs
  have hLnd : L.Nodup := by rw [hL]; exact ordOf_nodup2 n bs
  have hmax : max n 0 = (N : Int) := by omega
  have HO : Hid (∀ w1 h go, DMade w1 h go bs → Calls Try.prog 25 #[.pointer (some ⟨h, 0, none⟩), .int .i64 n] w1 fun e w2 => ∃ A5 c5, e = .returned (.slice A5 N c5) ∧ w2.ownsRow w1.heap.size 3 1 (.slice A5 N c5) L.length (intsL L) ∧ DSt w2 (some ⟨h, 0, none⟩) go r2 ∧ w1.grownBy w2 (some h)) := by
    refine Lib.hid (fun w1 h go hm => (norder_any hm.st n).mono ?_)
    rintro e w2 ⟨v, rfl, o2, s2, g2⟩
    rw [← hL] at o2
    rw [← hr2] at s2
    obtain ⟨A5, c5, rfl⟩ := own_slice o2
    rw [hLN] at *
    exact ⟨A5, c5, rfl, o2, s2, g2⟩
  have HRO : Hid (∀ w4 : World, Below w.heap.size w w4 → Calls Try.prog 27 #[.pointer (some ⟨w4.heap.size, 0, none⟩), .int .i64 n] (w4.alloc (.cells #[.slice A bs.length c, .int .i64 0] 29)) fun e w5 => ∃ A6 c6, e = .returned (.slice A6 N c6) ∧ NAt w5 w5.heap.size A6 L ∧ Below w4.heap.size w4 w5) := by
    refine Lib.hid (fun w4 hb4 => ?_)
    have hba : Below w4.heap.size w4 (w4.alloc (.cells #[.slice A bs.length c, .int .i64 0] 29)) := (Below.refl _ w4).alloc (Nat.le_refl _) _
    have hs : RS (w4.alloc (.cells #[.slice A bs.length c, .int .i64 0] 29)) w4.heap.size A c bs bs := by
      refine ⟨0, ⟨heap_alloc_new w4 _, ?_, by omega, by omega⟩, rfl⟩
      have h1 := (hA.below hb4).more hb4.size
      exact (h1.below hba).more hba.size
    refine (sorder_any hs n).mono ?_
    rintro e w5 ⟨v, rfl, o5, s5, g5⟩
    rw [← hL] at o5
    obtain ⟨A6, c6, rfl, _, hn6⟩ := nat_own o5
    refine ⟨A6, c6, by rw [hLN], hn6, ⟨g5.os.trans hba.os, g5.tape.trans hba.tape, g5.output.trans hba.output, Nat.le_trans hba.size g5.size, fun k hk => ?_⟩⟩
    exact (g5.block k (Nat.lt_of_lt_of_le hk hba.size) (by intro e; injection e with e; omega)).trans (hba.block k hk)
  have hmk := fun W => run_make_l N (by omega) W
  have HLN := Lib.hid hLN
  have HLT := Lib.hid hLlt
  have HND := Lib.hid hLnd
  have HMX := Lib.hid hmax
  have HNN : Hid (∀ x : Nat, x < N → (x : Int) < n) := Lib.hid (fun x hx => by omega)
  have hN60 : N ≤ 60 := by omega
  have q1 : ¬ (4000 : Int) < (bs.length : Int) := by omega
  have q2 : ¬ (60 : Int) < n := by omega
  clear hA hL hr2 hl hN hLN hLlt hLnd
  generalize bs.length = l at *
  go_enter Try.func4, Try.ntmps4
  go_upto_region 5 with (first
    | (go_at_call 11; (with_reducible refine HN.out.mono ?_); rintro e w1 ⟨h, go, rfl, hm, hh, hgo, hb1⟩)
    | (go_at_call 25; (with_reducible refine (HO.out _ _ _ hm).mono ?_); rintro e W2 ⟨A5, c5, rfl, ho2, hs2, hg2⟩))
  have hh1 := hm.lt
  have hb2 : Below w.heap.size w W2 := below_grown_made hb1 hh hg2
  have HH1 : Hid (h < w1.heap.size ∧ w.heap.size ≤ h ∧ w1.heap.size ≤ W2.heap.size) := Lib.hid ⟨hh1, hh, hg2.size⟩
  have HB2 := Lib.hid hb2
  have HO2 := Lib.hid ho2
  have HS2 := Lib.hid hs2
  have R0 : Hid (DoRel W2 N L (.int .i64 0) (W2.alloc (.cells (seenC N []).toArray 4))) := Lib.hid ⟨0, by omega, rfl, by rw [List.take_zero]; exact heap_alloc_new W2 _, (Below.refl _ W2).alloc (Nat.le_refl _) _⟩
  clear HN HO hm hh hgo hb1 hb2 ho2 hs2 hg2 hh1
  generalize (seenC N []).toArray = Z0 at *
  go_upto_region 7 with fail
  clear hmk
  go_loopw [31] (DoRel W2 N L) (fun i _ => N - (RowKit.intOf i).toNat)
  case atStart => exact R0.out
  case round =>
    obtain ⟨j, hj, rfl, hrow, hb⟩ := hrel
    clear R0
    have HB := Lib.hid hb
    have hLN := HLN.out
    by_cases hlt : j < N
    · have hlt' : (j : Int) < (N : Int) := by omega
      obtain ⟨g5, o5, hA5, hg5, hc5'⟩ := ((nat_of_own HO2.out).below hb).some_ (by omega)
      subst hA5
      have k1 := hc5' j L[j] (List.getElem?_eq_getElem (by omega))
      have hx := HLT.out L[j] (List.getElem_mem _)
      have hxn := HNN.out _ hx
      have hnm : L[j] ∉ L.take j := by
        intro hmem
        obtain ⟨i, hi, hie⟩ := List.getElem_of_mem hmem
        rw [List.length_take] at hi
        rw [List.getElem_take] at hie
        have := (List.getElem_inj HND.out).1 hie
        omega
      have k2 : wr.cell? ⟨W2.heap.size, L[j], none⟩ = some (.bool false) := by
        rw [cell_of_row wr _ L[j] _ 4 (0, 0) hrow, List.getElem?_toArray, seenC_get N _ _ hx]
        simp [hnm]
      have k3 := frozen_of_row wr W2.heap.size L[j] _ 4 hrow
      have HR2 : Hid (DoRel W2 N L (.int .i64 ((j : Int) + 1)) (wr.setCell ⟨W2.heap.size, L[j], none⟩ (.bool true))) := by
        refine Lib.hid ⟨j + 1, by omega, by go_num, ?_, ?_⟩
        · rw [heap_setCell_same wr W2.heap.size L[j] _ 4 (.bool true) hrow, List.setIfInBounds_toArray, seenC_set, List.take_succ_eq_append_getElem (by omega)]
        · exact hb.setCell (p := ⟨W2.heap.size, L[j], none⟩) (Nat.le_refl _) _
      clear hrow hb hc5' hnm
      obtain ⟨x, hx'⟩ : ∃ x, x = L[j] := ⟨_, rfl⟩
      rw [← hx'] at k1 k2 k3 hx hxn HR2
      clear hx' hLN
      have hxN : (x : Int) < (N : Int) := by omega
      go_wp2
      go_roundw
      case rel => exact HR2.out
      case measure => simp [RowKit.intOf]; omega
    · obtain rfl : j = N := by omega
      have hs3 := HS2.out.below hb (Nat.le_refl _)
      have hg3 : W2.grownBy wr none := grown_of_bel hb _
      have ho3 := HO2.out.kept hg3 (by cases (Value.slice A5 j c5).ownBlock <;> simp)
      have hb3 : Below w.heap.size w wr := HB2.out.trans (hb.mono HB2.out.size)
      have hob : ∀ k, (Value.slice A5 j c5).ownBlock = some k → w1.heap.size ≤ k := fun k hk => (HO2.out.lt k hk).1
      obtain ⟨y, hy⟩ : ∃ y, y = (numL m r2).1 := ⟨_, rfl⟩
      have HNU : Hid (Calls Try.prog 14 #[.pointer (some ⟨h, 0, none⟩), .int .i64 m] wr fun e w4 => e = .returned (.int .i64 (y : Int)) ∧ Below w.heap.size w w4 ∧ w4.ownsRow w1.heap.size 3 1 (.slice A5 j c5) L.length (intsL L)) := by
        refine Lib.hid ((nnum_any hs3 m hm63).mono ?_)
        rintro e w4 ⟨rfl, s4, g4⟩
        refine ⟨by rw [hy], below_grown_made hb3 HH1.out.2.1 g4, ho3.kept g4 ?_⟩
        cases hk : (Value.slice A5 j c5).ownBlock with
        | none => exact .inl rfl
        | some k =>
          refine .inr ?_
          intro e
          have k1 := hob k hk
          have k2 := HH1.out.1
          have e' : some k = some h := by first | exact e | exact e.symm
          injection e' with e'
          omega
      have HI : Hid (∀ A6 c6 w4 w5, w4.ownsRow w1.heap.size 3 1 (.slice A5 j c5) L.length (intsL L) → Below w.heap.size w w4 → NAt w5 w5.heap.size A6 L → Below w4.heap.size w4 w5 → Calls Try.prog 26 #[.slice A5 j c5, .slice A6 j c6] w5 fun e w6 => e = .returned (.bool true) ∧ Below w.heap.size w w6) := by
        refine Lib.hid (fun A6 c6 w4 w5 o4 b4 n6 b5 => ?_)
        have n5 := ((nat_of_own o4).below b5).more b5.size
        have := ints_same A5 A6 c5 c6 L w5 (by omega) n5 n6
        rw [hLN] at this
        refine this.mono ?_
        rintro e w6 ⟨rfl, b6⟩
        have hb10 := b4.trans (b5.mono b4.size)
        exact ⟨rfl, hb10.trans (b6.mono hb10.size)⟩
      have HLV : Hid (∀ w3, Below w.heap.size w w3 → Calls Try.prog 10 #[] w3 fun e w4 => e = .returned (.bool true) ∧ Below w.heap.size w w4) := Lib.hid (fun w3 hb3 => (lives_any w3).mono (by rintro e w4 ⟨rfl, hb4⟩; exact ⟨rfl, hb3.trans (hb4.mono hb3.size)⟩))
      have hy0 : (0 : Int) ≤ (y : Int) := by omega
      have hcase : (y : Int) < m ∨ (y = 0 ∧ m < 1) := by
        by_cases h1 : 1 ≤ m
        · have := numL_lt h1 r2
          left; omega
        · right
          rw [hy, numL_small (by omega)]
          exact ⟨rfl, by omega⟩
      clear hrow hb hs3 hg3 ho3 hb3 hob hy hLN HO2 HS2 HB2 HB HLN HLT HND HNN HH1 hm63
      rcases hcase with hq | ⟨rfl, hq⟩
      · go_wp2_with (first
          | (go_at_call 14; (with_reducible refine HNU.out.mono ?_); rintro e w4 ⟨rfl, hb4, ho4⟩)
          | (go_at_call 27; (with_reducible refine (HRO.out _ hb4).mono ?_); rintro e w5 ⟨A6, c6, rfl, hn6, hb5⟩)
          | (go_at_call 26; (with_reducible refine (HI.out _ _ _ _ ho4 hb4 hn6 hb5).mono ?_); rintro e w6 ⟨rfl, hb6⟩)
          | (go_at_call 10; (with_reducible refine (HLV.out _ hb6).mono ?_); rintro e w7 ⟨rfl, hb7⟩))
        go_ret
        exact ⟨rfl, hb7⟩
      · have hq2 : ¬ (0 : Int) < m := by omega
        go_wp2_with (first
          | (go_at_call 14; (with_reducible refine HNU.out.mono ?_); rintro e w4 ⟨rfl, hb4, ho4⟩)
          | (go_at_call 27; (with_reducible refine (HRO.out _ hb4).mono ?_); rintro e w5 ⟨A6, c6, rfl, hn6, hb5⟩)
          | (go_at_call 26; (with_reducible refine (HI.out _ _ _ _ ho4 hb4 hn6 hb5).mono ?_); rintro e w6 ⟨rfl, hb6⟩)
          | (go_at_call 10; (with_reducible refine (HLV.out _ hb6).mono ?_); rintro e w7 ⟨rfl, hb7⟩))
        go_ret
        exact ⟨rfl, hb7⟩
theorem drawords_any (A : Option Addr) (c : Nat) (bs : List UInt8) (n m : Int) (w : World) (hA : BAt w w.heap.size A bs) (hm : m ≤ 9223372036854775807) :
    Calls Try.prog 4 #[.slice A bs.length c, .int .i64 n, .int .i64 m] w fun e w' => e = .returned (.bool true) ∧ Below w.heap.size w w' := by
  by_cases h : 4000 < bs.length ∨ 60 < n
  · exact drawords_big A c bs n m w h
  · exact drawords_in A c bs n m w hm (by omega) (by omega) hA
end Go.Proofs.Ytbfhfnbhfeedbaa
