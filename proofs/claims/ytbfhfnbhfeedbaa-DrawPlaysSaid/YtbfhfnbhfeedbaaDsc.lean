/- Contracts of draw (the program): New, Take. Conditions: the bytes are at most 900,000. -/
import Derived.Test.YtbfhfnbhfeedbaaDsb
namespace Go.Proofs.Ytbfhfnbhfeedbaa
set_option maxRecDepth 100000
set_option maxHeartbeats 1000000
open Go.RowKit Go.Lib Go.Great
section
variable {w w' w2 : World} {h : Nat} {go : Option Nat} {xs bs : List UInt8} {p A : Option Addr} {v : Value}
theorem run_make_b (n c : Nat) (hnc : n ≤ c) (hc : c ≤ 2000000) (w : World) :
    (Instr.makeSlice 22 (.int .i64 (n : Int)) (.int .i64 (c : Int))).run Try.prog w = .ok (.slice (some ⟨w.heap.size, 0, none⟩) n c) (w.alloc (.cells (List.replicate c (Value.int .u8 0)).toArray 5)) := by
  obtain ⟨i0, hi, hz0, hz1, hz2⟩ := info5b
  have hr := run_make (P := Try.prog) w 22 5 i0 _ Try.underlying22 hi hz0 .i64 .i64 n c (by omega) (by omega) (by rw [hz2]; omega) (by omega)
  simp only [Int.toNat_natCast, hz1] at hr
  rw [hr]
  congr 3
  apply Array.ext
  · simp [madeCells]
  · intro j h1 h2
    simp [madeCells, Value.cells, Nat.mod_one]
theorem own_tail (base : Nat) (ho : w.ownsRow base 5 1 v xs.length (bcells xs)) (hl : xs.length ≤ 900000) : ∃ go, OwnT w v go xs ∧ ∀ g, go = some g → base ≤ g := by
  rcases ho.2 with ⟨rfl, h0⟩ | ⟨g, cap, cur, rfl, hb, hg, h1, h2, h3, h4⟩
  · exact ⟨none, ⟨hl, .inl ⟨rfl, rfl, List.eq_nil_of_length_eq_zero h0⟩⟩, fun _ e => by cases e⟩
  · refine ⟨some g, ⟨hl, .inr ⟨g, 0, cap, cur, rfl, rfl, hg, h1, h2, by omega, fun j hj => ?_⟩⟩, fun g' e => by cases e; exact hb⟩
    have : (bcells xs)[j]? = some (.int .u8 (xs[j].toNat : Int)) := by simp [bcells, List.getElem?_map, List.getElem?_eq_getElem hj]
    rw [← h4, List.getElem?_take_of_lt (by omega)] at this
    rw [Nat.zero_add]
    simpa using this
/-- What New answers. -/
def NewIs (w : World) (bs : List UInt8) (e : Ending) (w' : World) : Prop :=
  ∃ h go, e = .returned (.pointer (some ⟨h, 0, none⟩)) ∧ DMade w' h go bs ∧ w.heap.size ≤ h ∧ (∀ g, go = some g → w.heap.size ≤ g) ∧ Below w.heap.size w w'
theorem new_of (w1 : World) (hb : Below w.heap.size w w1) (ho : w1.ownsRow w.heap.size 5 1 v bs.length (bcells bs)) (hl : bs.length ≤ 900000) :
    NewIs w bs (.returned (.pointer (some ⟨w1.heap.size, 0, none⟩))) (w1.alloc (.cells #[.bool true, v] 51)) := by
  obtain ⟨go, o, hge⟩ := own_tail _ ho hl
  refine ⟨w1.heap.size, go, rfl, ⟨v, heap_alloc_new w1 _, o.keep (fun g hg => ((Below.refl w1.heap.size w1).alloc (Nat.le_refl _) _).block g (o.lt g hg)), ?_⟩, hb.size, hge, hb.alloc hb.size _⟩
  intro e
  have := o.lt _ e
  omega
theorem nnew_any (c : Nat) (hA : BAt w w.heap.size A bs) (hA2 : A = none ∨ ∃ g off, A = some ⟨g, off, none⟩) (hl : bs.length ≤ 900000) : Calls Try.prog 11 #[.slice A bs.length c] w (NewIs w bs) := by
  have HC : Hid (Calls Try.prog 55 #[.slice A bs.length c] w fun e w' => ∃ A' n' c', e = .returned (.slice A' n' c') ∧ w'.ownsRow w.heap.size 5 1 (.slice A' n' c') bs.length (bcells bs) ∧ Below w.heap.size w w') := by
    refine Lib.hid ?_
    rcases hA2 with rfl | ⟨g, off, rfl⟩
    · obtain rfl : bs = [] := by
        rcases hA with e | ⟨g, off, e, _⟩
        · exact e
        · cases e
      refine (cloneB_nil _ _ _).mono ?_
      rintro e w' ⟨rfl, rfl⟩
      exact ⟨_, _, _, rfl, ⟨by simp [bcells], .inl ⟨rfl, rfl⟩⟩, Below.refl _ _⟩
    · refine (cloneB_some g off bs.length c (bcells bs) w (by simp [bcells]) hl (fun j u hu => ?_) (bcells_oneC bs)).mono ?_
      · have hj : j < bs.length := by have := (List.getElem?_eq_some_iff.1 hu).1; simpa [bcells] using this
        obtain ⟨g', off', e, _, hc⟩ := hA.some_ (by omega)
        injection e with e
        injection e with e1 e2
        subst e1 e2
        simp only [bcells, List.getElem?_map, List.getElem?_eq_getElem hj, Option.map_some, Option.some.injEq] at hu
        rw [← hu]
        exact hc j hj
      · rintro e w' ⟨v', rfl, ho, _, hb⟩
        obtain ⟨A', c', rfl, _⟩ := own_bat ho
        exact ⟨_, _, _, rfl, ho, hb⟩
  have HN : Hid (∀ v w1, Below w.heap.size w w1 → w1.ownsRow w.heap.size 5 1 v bs.length (bcells bs) → NewIs w bs (.returned (.pointer (some ⟨w1.heap.size, 0, none⟩))) (w1.alloc (.cells #[.bool true, v] 51))) := Lib.hid (fun v w1 hb ho => new_of w1 hb ho hl)
  clear hA hA2 hl
  go_enter Try.func11, Try.ntmps11
  go_wp2_with (go_at_call 55; (with_reducible refine HC.out.mono ?_); rintro e w1 ⟨A1, n1, c1, rfl, ho, hb⟩)
  go_ret
  exact HN.out _ w1 hb ho

def TnRel (w : World) (p : Option Addr) (go : Option Nat) (xs : List UInt8) (N G : Nat) (i : Value) (w' : World) : Prop :=
  ∃ j : Nat, j ≤ N ∧ i = .int .i64 (j : Int) ∧ w'.heap[G]? = some (.cells (bcells (padT j xs) ++ List.replicate (N - j) (Value.int .u8 0)).toArray 5 (0, 0)) ∧ DSt w' p go (xs.drop j) ∧ w.grownBy w' (pblk p)
/-- What Take tells, and leaves: N is how many bytes. -/
def TnIs (w : World) (p : Option Addr) (go : Option Nat) (xs : List UInt8) (N : Nat) (e : Ending) (w' : World) : Prop :=
  ∃ v, e = .returned v ∧ w'.ownsRow w.heap.size 5 1 v (padT N xs).length (bcells (padT N xs)) ∧ DSt w' p go (xs.drop N) ∧ w.grownBy w' (pblk p)
theorem ntake_any (s : DSt w p go xs) (n : Int) (hn : n ≤ 9223372036854775807) (hn0 : -9223372036854775808 ≤ n) : Calls Try.prog 18 #[.pointer p, .int .i64 n] w (TnIs w p go xs (min n 1024).toNat) := by
  obtain ⟨N, hN⟩ : ∃ N, N = (min n 1024).toNat := ⟨_, rfl⟩
  rw [← hN]
  have hN1 : N ≤ 1024 := by omega
  have hm : max 0 (min n 1024) = (N : Int) := by omega
  have hmk := fun W => run_make_b N N (Nat.le_refl _) (by omega) W
  obtain ⟨Z, hZ⟩ : ∃ Z, Z = (List.replicate N (Value.int .u8 0)).toArray := ⟨_, rfl⟩
  rw [← hZ] at hmk
  have hlt := s.lt
  have R0 : Hid (TnRel w p go xs N w.heap.size (.int .i64 0) (w.alloc (.cells Z 5))) := Lib.hid ⟨0, by omega, rfl, by rw [hZ, heap_alloc_new w _]; simp [padT, bcells], s.below ((Below.refl w.heap.size w).alloc (Nat.le_refl _) _) (Nat.le_refl _), grown_of_bel ((Below.refl w.heap.size w).alloc (Nat.le_refl _) _) _⟩
  have HLT := Lib.hid hlt
  clear s hN hZ hlt
  go_enter Try.func18, Try.ntmps18
  go_upto_region 3 with fail
  go_loopw [13] (TnRel w p go xs N w.heap.size) (fun i _ => N - (RowKit.intOf i).toNat)
  case atStart => exact R0.out
  case round =>
    obtain ⟨j, hj, rfl, hrow, hs, hg⟩ := hrel
    clear R0
    by_cases hlt : j < N
    · have hlt' : (j : Int) < (N : Int) := by omega
      obtain ⟨b, hbd⟩ : ∃ b, b = (xs.drop j).headD 0 := ⟨_, rfl⟩
      have hne : ∀ h, pblk p = some h → h ≠ w.heap.size := fun h e => by have := HLT.out.1 h e; omega
      have HB : Hid (Calls Try.prog 12 #[.pointer p] wr fun e w2 => e = .returned (.int .u8 (b.toNat : Int)) ∧ w2.cell? ⟨w.heap.size, j, none⟩ = some (.int .u8 0) ∧ w2.frozen? ⟨w.heap.size, j, none⟩ = false ∧ TnRel w p go xs N w.heap.size (.int .i64 ((j : Int) + 1)) (w2.setCell ⟨w.heap.size, j, none⟩ (.int .u8 (b.toNat : Int)))) := by
        refine Lib.hid ((nbyte_any hs).mono ?_)
        rintro e w2 ⟨rfl, hs2, hg2⟩
        have hsz : w.heap.size < wr.heap.size := (Array.getElem?_eq_some_iff.1 hrow).1
        have hrow2 : w2.heap[w.heap.size]? = _ := (hg2.block w.heap.size hsz (by intro e; exact hne _ (by first | exact e | exact e.symm) rfl)).trans hrow
        have hlen : (bcells (padT j xs)).length = j := by rw [bcells, List.length_map, padT_length]
        have hlt1 := hs2.lt
        refine ⟨by rw [hbd], ?_, frozen_of_row w2 _ j _ 5 hrow2, j + 1, by omega, by go_num, ?_, ?_, ?_⟩
        · rw [cell_of_row w2 _ j _ 5 (0, 0) hrow2, List.getElem?_toArray, List.getElem?_append_right (by omega), hlen, Nat.sub_self, List.getElem?_replicate, if_pos (by omega)]
        · have := heap_setCell_same w2 w.heap.size j _ 5 (.int .u8 (b.toNat : Int)) hrow2
          rw [this, padT_succ, ← hbd, bcells_app, List.setIfInBounds_toArray, List.set_append_right _ _ (by omega), hlen, Nat.sub_self, show N - j = (N - (j + 1)) + 1 from by omega, List.replicate_succ, List.set_cons_zero, List.append_assoc]
          rfl
        · rw [List.tail_drop] at hs2
          refine hs2.keep (fun h e => Below.heap_setCell w2 ⟨w.heap.size, j, none⟩ _ h (by intro e2; exact hne h e (by first | exact e2 | exact e2.symm))) (fun g e => Below.heap_setCell w2 ⟨w.heap.size, j, none⟩ _ g (by intro e2; have := HLT.out.2 g e; simp at e2; omega))
        · have g1 := grownBy_trans hg hg2
          exact ⟨g1.os, g1.tape, g1.output, by simpa [World.setCell] using g1.size, fun i hi hne => (Below.heap_setCell w2 ⟨w.heap.size, j, none⟩ _ i (by intro e2; simp at e2; omega)).trans (g1.block i hi hne)⟩
      clear hs hg hrow hne
      generalize b.toNat = bb at *
      go_wp2_with (go_at_call 12; (with_reducible refine HB.out.mono ?_); rintro e w2 ⟨rfl, hc2, hf2, hr2⟩)
      go_roundw
      case rel => exact hr2
      case measure => simp [RowKit.intOf]; omega
    · obtain rfl : j = N := by omega
      have HF : Hid (TnIs w p go xs j (.returned (.slice (some ⟨w.heap.size, 0, none⟩) j j)) wr) := Lib.hid ⟨_, rfl, by
        rw [Nat.sub_self, List.replicate_zero, List.append_nil] at hrow
        have hlen : (bcells (padT j xs)).length = j := by rw [bcells, List.length_map, padT_length]
        rw [padT_length]
        refine ⟨by rw [hlen, Nat.mul_one], .inr ⟨w.heap.size, j, _, rfl, Nat.le_refl _, hrow, Nat.le_refl _, by simp only [maxLen]; omega, by simp [hlen], by rw [List.take_of_length_le (by simp [hlen])]⟩⟩, hs, hg⟩
      clear hs hg hrow
      go_wp2
      go_ret
      exact HF.out
end
end Go.Proofs.Ytbfhfnbhfeedbaa
