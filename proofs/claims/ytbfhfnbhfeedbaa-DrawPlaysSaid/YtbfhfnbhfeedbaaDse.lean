/- Order of draw (the program). Conditions: the bytes are at most 900,000. -/
import Derived.Test.YtbfhfnbhfeedbaaDsd
namespace Go.Proofs.Ytbfhfnbhfeedbaa
set_option maxRecDepth 100000
set_option maxHeartbeats 1000000
open Go.RowKit Go.Lib Go.Great
/-- The order of n numbers that r draws, and what is left. -/
def ordOf (n : Int) (r : List UInt8) : List Nat × List UInt8 := if 1 ≤ n ∧ n ≤ 1024 then ordG n.toNat (List.range n.toNat) r else ([], r)
def lenV : Value → Nat
  | .slice _ n _ => n
  | _ => 0
section
variable {w w' w2 : World} {h : Nat} {go : Option Nat} {xs bs : List UInt8} {p A : Option Addr} {v : Value}
def OrIs (w : World) (p : Option Addr) (go : Option Nat) (xs : List UInt8) (n : Int) (e : Ending) (w' : World) : Prop :=
  ∃ v, e = .returned v ∧ w'.ownsRow w.heap.size 3 1 v (ordOf n xs).1.length (intsL (ordOf n xs).1) ∧ DSt w' p go (ordOf n xs).2 ∧ w.grownBy w' (pblk p)
def FiRel (w : World) (p : Option Addr) (go : Option Nat) (xs : List UInt8) (N : Nat) (i : Value) (w' : World) : Prop :=
  ∃ j : Nat, j ≤ N ∧ i = .int .i64 (j : Int) ∧ IRow w' w.heap.size (List.range j) (N - j) ∧ DSt w' p go xs ∧ w.grownBy w' (pblk p)
def OrRel (w : World) (p : Option Addr) (go : Option Nat) (xs : List UInt8) (N : Nat) (v5 v7 : Value) (w' : World) : Prop :=
  ∃ (l out : List Nat) (m : Nat) (r : List UInt8), v5 = .slice (some ⟨w.heap.size, 0, none⟩) l.length N ∧ l.length + m = N ∧ IRow w' w.heap.size l m ∧ out.length = m ∧ w'.ownsRow (w.heap.size + 1) 3 1 v7 out.length (intsL out) ∧ DSt w' p go r ∧ ordG N (List.range N) xs = (out ++ (ordG l.length l r).1, (ordG l.length l r).2) ∧ w.grownBy w' (pblk p)
theorem ordG_step (l : List Nat) (r : List UInt8) (hl : 0 < l.length) : ordG l.length l r = (l.getD (numL l.length r).1 0 :: (ordG (l.eraseIdx (numL l.length r).1).length (l.eraseIdx (numL l.length r).1) (numL l.length r).2).1, (ordG (l.eraseIdx (numL l.length r).1).length (l.eraseIdx (numL l.length r).1) (numL l.length r).2).2) := by
  have hlt : (numL l.length r).1 < l.length := by
    have := numL_lt (n := (l.length : Int)) (by omega) r
    omega
  rw [List.length_eraseIdx_of_lt hlt]
  obtain ⟨k, hk⟩ : ∃ k, l.length = k + 1 := ⟨l.length - 1, by omega⟩
  rw [show ordG l.length l r = ordG (k + 1) l r from by rw [hk], ordG, show l.length - 1 = k from by omega]
theorem ownsRow_base {w : World} {b1 b2 e size n : Nat} {v : Value} {xs : List Value} (h : w.ownsRow b1 e size v n xs) (hb : b2 ≤ b1) : w.ownsRow b2 e size v n xs :=
  ⟨h.1, h.2.imp id (fun ⟨g, cap, cur, h1, h2, h3⟩ => ⟨g, cap, cur, h1, Nat.le_trans hb h2, h3⟩)⟩

theorem norder_no (s : DSt w p go xs) (n : Int) (hn : ¬ (1 ≤ n ∧ n ≤ 1024)) : Calls Try.prog 25 #[.pointer p, .int .i64 n] w (OrIs w p go xs n) := by
  have e1 : ordOf n xs = ([], xs) := by unfold ordOf; rw [if_neg hn]
  have HF : Hid (OrIs w p go xs n (.returned (.slice none 0 0)) w) := Lib.hid ⟨_, rfl, by rw [e1]; exact World.ownsRow_nil w _ 3 1, by rw [e1]; exact s, World.grownBy.refl _ _⟩
  clear s e1
  by_cases h1 : n < 1
  · go_enter Try.func25, Try.ntmps25
    go_wp2
    go_ret
    exact HF.out
  · have h2 : 1024 < n := by omega
    go_enter Try.func25, Try.ntmps25
    go_wp2
    go_ret
    exact HF.out
theorem norder_yes (s : DSt w p go xs) (N : Nat) (h1 : 1 ≤ N) (h2 : N ≤ 1024) : Calls Try.prog 25 #[.pointer p, .int .i64 (N : Int)] w (OrIs w p go xs (N : Int)) := by
  have e1 : ordOf (N : Int) xs = ordG N (List.range N) xs := by unfold ordOf; rw [if_pos (by omega), Int.toNat_natCast]
  have hmk := fun W => run_make_i N (by omega) W
  obtain ⟨Z, hZ⟩ : ∃ Z, Z = (List.replicate N (Value.int .i64 0)).toArray := ⟨_, rfl⟩
  rw [← hZ] at hmk
  have hlt := s.lt
  have R0 : Hid (FiRel w p go xs N (.int .i64 0) (w.alloc (.cells Z 3))) := Lib.hid ⟨0, by omega, rfl, by unfold IRow; rw [hZ, heap_alloc_new w _]; simp [intsL], s.below ((Below.refl w.heap.size w).alloc (Nat.le_refl _) _) (Nat.le_refl _), grown_of_bel ((Below.refl w.heap.size w).alloc (Nat.le_refl _) _) _⟩
  have HLT := Lib.hid hlt
  have HE := Lib.hid e1
  have q1 : ¬ (N : Int) < 1 := by omega
  have q2 : ¬ (1024 : Int) < (N : Int) := by omega
  clear s hZ hlt e1
  go_enter Try.func25, Try.ntmps25
  go_upto_region 5 with fail
  go_loopw [18] (FiRel w p go xs N) (fun i _ => N - (RowKit.intOf i).toNat)
  case atStart => exact R0.out
  case round =>
    obtain ⟨j, hj, rfl, hrow, hs, hg⟩ := hrel
    clear R0
    by_cases hlt : j < N
    · have hlt' : (j : Int) < (N : Int) := by omega
      have hlen : (intsL (List.range j)).length = j := by rw [intsL_length, List.length_range]
      have c0 : wr.cell? ⟨w.heap.size, j, none⟩ = some (.int .i64 0) := by
        rw [cell_of_row wr _ j _ 3 (0, 0) hrow, List.getElem?_toArray, List.getElem?_append_right (by omega), hlen, Nat.sub_self, getElem_replicate_zero _ _ _ (by omega)]
      have f0 := frozen_of_row wr w.heap.size j _ 3 hrow
      have HR2 : Hid (FiRel w p go xs N (.int .i64 ((j : Int) + 1)) (wr.setCell ⟨w.heap.size, j, none⟩ (.int .i64 (j : Int)))) := by
        refine Lib.hid ⟨j + 1, by omega, by go_num, ?_, ?_, ?_⟩
        · have := heap_setCell_same wr w.heap.size j _ 3 (.int .i64 (j : Int)) hrow
          unfold IRow
          rw [this, List.range_succ, intsL_append, List.setIfInBounds_toArray, List.set_append_right _ _ (by omega), hlen, Nat.sub_self, show N - j = (N - (j + 1)) + 1 from by omega, List.replicate_succ, List.set_cons_zero, List.append_assoc]
          rfl
        · exact hs.keep (fun h e => Below.heap_setCell wr ⟨w.heap.size, j, none⟩ _ h (by intro e2; have := HLT.out.1 h e; simp at e2; omega)) (fun g e => Below.heap_setCell wr ⟨w.heap.size, j, none⟩ _ g (by intro e2; have := HLT.out.2 g e; simp at e2; omega))
        · exact ⟨hg.os, hg.tape, hg.output, by simpa [World.setCell] using hg.size, fun i hi hne => (Below.heap_setCell wr ⟨w.heap.size, j, none⟩ _ i (by intro e2; simp at e2; omega)).trans (hg.block i hi hne)⟩
      clear hs hg hrow
      go_wp2
      go_roundw
      case rel => exact HR2.out
      case measure => simp [RowKit.intOf]; omega
    · obtain rfl : j = N := by omega
      have R1 : Hid (OrRel w p go xs j (.slice (some ⟨w.heap.size, 0, none⟩) j j) (.slice none 0 0) wr) := Lib.hid ⟨List.range j, [], 0, xs, by rw [List.length_range], by rw [List.length_range]; omega, by rw [Nat.sub_self] at hrow; exact hrow, rfl, World.ownsRow_nil wr _ 3 1, hs, by rw [List.length_range, List.nil_append], hg⟩
      have hsz : Hid (w.heap.size < wr.heap.size) := Lib.hid (Array.getElem?_eq_some_iff.1 hrow).1
      clear hs hg hrow
      go_upto_region 10 with fail
      go_loopw [5, 7] (OrRel w p go xs j) (fun v5 _ _ => lenV v5)
      case atStart => exact R1.out
      case round =>
        obtain ⟨l, out, m, r, rfl, hlm, hrow, hom, hown, hs, hord, hg⟩ := hrel
        clear R1 hmk q1 q2 h1
        by_cases h0 : 0 < l.length
        · have h0' : (0 : Int) < (l.length : Int) := by omega
          have hat : (numL l.length r).1 < l.length := by
            have := numL_lt (n := (l.length : Int)) (by omega) r
            omega
          obtain ⟨a, ha⟩ : ∃ a, a = (numL l.length r).1 := ⟨_, rfl⟩
          obtain ⟨r2, hr2⟩ : ∃ r2, r2 = (numL l.length r).2 := ⟨_, rfl⟩
          have hstep := ordG_step l r h0
          rw [← ha, ← hr2] at hstep
          rw [← ha] at hat
          have hx : l.getD a 0 = l[a] := by rw [List.getD_eq_getElem?_getD, List.getElem?_eq_getElem hat]; rfl
          have hne : ∀ h, pblk p = some h → h < w.heap.size := HLT.out.1
          have hsz2 : w.heap.size < wr.heap.size := (Array.getElem?_eq_some_iff.1 hrow).1
          have HB : Hid (Calls Try.prog 14 #[.pointer p, .int .i64 (l.length : Int)] wr fun e w2 => e = .returned (.int .i64 (a : Int)) ∧ w2.cell? ⟨w.heap.size, a, none⟩ = some (.int .i64 (l[a] : Int)) ∧ IRow w2 w.heap.size l m ∧ (w2.alloc (.cells #[.int .i64 (l[a] : Int)] 3)).ownsRow (w.heap.size + 1) 3 1 u7 out.length (intsL out) ∧ DSt w2 p go r2 ∧ w.grownBy w2 (pblk p) ∧ w.heap.size < w2.heap.size) := by
            refine Lib.hid ((nnum_any hs (l.length : Int) (by omega)).mono ?_)
            rintro e w2 ⟨rfl, hs2, hg2⟩
            have hrow2 : IRow w2 w.heap.size l m := (hg2.block w.heap.size hsz2 (by intro e; have := hne w.heap.size (by first | exact e | exact e.symm); omega)).trans hrow
            refine ⟨by rw [ha], hrow2.cell a hat, hrow2, ?_, by rw [hr2]; exact hs2, grownBy_trans hg hg2, Nat.lt_of_lt_of_le hsz2 hg2.size⟩
            refine (hown.kept hg2 ?_).alloc _
            cases hob : u7.ownBlock with
            | none => exact .inl rfl
            | some k =>
              refine .inr ?_
              intro e
              have k1 := (hown.lt k hob).1
              have := hne k (by first | exact e | exact e.symm)
              omega
          have HL : Hid (out.length + [l[a]].length ≤ 100000) := Lib.hid (by simp; omega)
          have HOW := Lib.hid hown
          have HD : Hid (∀ v3 w2 w3, IRow w2 w.heap.size l m → DSt w2 p go r2 → w.grownBy w2 (pblk p) → w.heap.size < w2.heap.size → (w2.alloc (.cells #[.int .i64 (l[a] : Int)] 3)).grownBy w3 u7.ownBlock → w3.ownsRow (w.heap.size + 1) 3 1 v3 (out ++ [l[a]]).length (intsL (out ++ [l[a]])) →
              Calls Try.prog 59 #[.slice (some ⟨w.heap.size, 0, none⟩) l.length j, .int .i64 (a : Int), .int .i64 ((a : Int) + 1)] w3 fun e w4 => e = .returned (.slice (some ⟨w.heap.size, 0, none⟩) (l.eraseIdx a).length j) ∧ OrRel w p go xs j (.slice (some ⟨w.heap.size, 0, none⟩) (l.eraseIdx a).length j) v3 w4) := by
            refine Lib.hid (fun v3 w2 w3 i2 s2 g2 z2 g3 o3 => ?_)
            have hob : ∀ k, u7.ownBlock = some k → w.heap.size + 1 ≤ k := fun k hk => (HOW.out.lt k hk).1
            have gA : w2.grownBy (w2.alloc (.cells #[.int .i64 (l[a] : Int)] 3)) none := grown_of_bel ((Below.refl _ w2).alloc (Nat.le_refl _) _) _
            have hblk : ∀ i, i < w2.heap.size → i ≤ w.heap.size → w3.heap[i]? = w2.heap[i]? := fun i hi hi2 => (g3.block i (by simp; omega) (by intro e; have := hob i (by first | exact e | exact e.symm); omega)).trans (gA.block i hi (by intro e; cases e))
            have i3 : IRow w3 w.heap.size l m := (hblk _ z2 (Nat.le_refl _)).trans i2
            have hd := delete_row i3 hat (by omega)
            rw [hlm] at hd
            refine hd.mono ?_
            rintro e w4 ⟨rfl, i4, g4⟩
            have hlt2 := HLT.out
            have hel : (l.eraseIdx a).length = l.length - 1 := List.length_eraseIdx_of_lt hat
            have hsize3 : w.heap.size < w3.heap.size := by have := g3.size; simp at this; omega
            have h43 : ∀ i, i < w3.heap.size → i ≠ w.heap.size → w4.heap[i]? = w3.heap[i]? := fun i hi hn => g4.block i hi (by intro e; injection e with e; omega)
            refine ⟨rfl, l.eraseIdx a, out ++ [l[a]], m + 1, r2, rfl, by omega, i4, by simp; omega, ?_, ?_, ?_, ?_⟩
            · refine o3.kept g4 (.inr ?_)
              intro e
              have := (o3.lt w.heap.size (by first | exact e | exact e.symm)).1
              omega
            · refine s2.keep (fun h e => ?_) (fun g e => ?_)
              · have := hlt2.1 h e
                rw [h43 h (by omega) (by omega), hblk h (by omega) (by omega)]
              · have := hlt2.2 g e
                rw [h43 g (by omega) (by omega), hblk g (by omega) (by omega)]
            · rw [hord, hstep, hx, List.append_assoc]
              rfl
            · refine ⟨g4.os.trans (g3.os.trans g2.os), g4.tape.trans (g3.tape.trans g2.tape), g4.output.trans (g3.output.trans g2.output), by have := g4.size; omega, fun i hi hn => ?_⟩
              rw [h43 i (by omega) (by omega), hblk i (by omega) (by omega)]
              exact g2.block i hi hn
          have hai : (a : Int) < (l.length : Int) := by omega
          have hln : Hid ((l.eraseIdx a).length < l.length) := Lib.hid (by rw [List.length_eraseIdx_of_lt hat]; omega)
          have hll : l.length ≤ 1024 := by omega
          clear hs hg hrow hown hord hstep hx hne hom hlm ha hr2
          generalize l[a] = x at *
          generalize (l.eraseIdx a).length = k2 at *
          generalize l.length = k at *
          go_upto_region 12 with (go_at_call 14; (with_reducible refine HB.out.mono ?_); rintro e w2 ⟨rfl, hc2, hi2, ho2, hs2, hg2, hz2⟩)
          go_upto_region 13 with (refine wpList_append_ints rfl (.tmp 33) (.tmp 38) rfl (w.heap.size + 1) u7 out rfl ho2 _ [x] rfl (src_int x _) HL.out (by simp; omega) ?_; intro v3 w3 ho3 hg3)
          have HD2 := Lib.hid (HD.out v3 w2 w3 hi2 hs2 hg2 hz2 hg3 ho3)
          clear HD ho3 hg3 hi2 hs2 hg2 hc2 ho2 HB HOW
          go_wp2_with (go_at_call 59; (with_reducible refine HD2.out.mono ?_); rintro e w4 ⟨rfl, hr4⟩)
          go_roundw
          case rel => exact hr4
          case measure => simp [lenV]; exact hln.out
        · have hl0 : l = [] := List.eq_nil_of_length_eq_zero (by omega)
          subst hl0
          have HF : Hid (OrIs w p go xs (j : Int) (.returned u7) wr) := by
            refine Lib.hid ⟨_, rfl, ?_, ?_, hg⟩
            · rw [HE.out, hord]
              simp only [List.length_nil, ordG, List.append_nil]
              exact ownsRow_base hown (by omega)
            · rw [HE.out, hord]
              exact hs
          clear hs hg hrow hown hord hom
          simp only [List.length_nil]
          go_wp2
          go_ret
          exact HF.out
theorem norder_any (s : DSt w p go xs) (n : Int) : Calls Try.prog 25 #[.pointer p, .int .i64 n] w (OrIs w p go xs n) := by
  by_cases h : 1 ≤ n ∧ n ≤ 1024
  · obtain ⟨N, rfl⟩ : ∃ N : Nat, n = (N : Int) := ⟨n.toNat, by omega⟩
    exact norder_yes s N (by omega) (by omega)
  · exact norder_no s n h
end
end Go.Proofs.Ytbfhfnbhfeedbaa
