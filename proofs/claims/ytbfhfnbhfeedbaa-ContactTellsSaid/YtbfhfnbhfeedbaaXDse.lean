/- Order of draw (the program). Conditions: the bytes are at most 900,000. The example of layer 7 (lives). No condition. New at any slice; Ints of the statements. Conditions: the bytes are at most 900,000. -/
import Derived.Test.YtbfhfnbhfeedbaaXDsb
section
namespace Go.Proofs.Ytbfhfnbhfeedbaa
set_option maxRecDepth 100000
set_option maxHeartbeats 1000000
open Go.RowKit Go.Lib Go.Great
/-- The order of n numbers that r draws, and what is left. -/
def ordOf (n : Int) (r : List UInt8) : List Nat × List UInt8 := if 1 ≤ n ∧ n ≤ 1024 then ordG n.toNat (List.range n.toNat) r else ([], r)
def lenV : Value → Nat
  | .slice _ n _ => n
  | _ => 0
section
variable {w w' w2 : World} {h : Nat} {go : Option Nat} {xs bs : List UInt8} {p A : Option Addr} {v : Value}
def OrIs (w : World) (p : Option Addr) (go : Option Nat) (xs : List UInt8) (n : Int) (e : Ending) (w' : World) : Prop :=
  ∃ v, e = .returned v ∧ w'.ownsRow w.heap.size 3 1 v (ordOf n xs).1.length (intsL (ordOf n xs).1) ∧ DSt w' p go (ordOf n xs).2 ∧ w.grownBy w' (pblk p)
def FiRel (w : World) (p : Option Addr) (go : Option Nat) (xs : List UInt8) (N : Nat) (i : Value) (w' : World) : Prop :=
  ∃ j : Nat, j ≤ N ∧ i = .int .i64 (j : Int) ∧ IRow w' w.heap.size (List.range j) (N - j) ∧ DSt w' p go xs ∧ w.grownBy w' (pblk p)
def OrRel (w : World) (p : Option Addr) (go : Option Nat) (xs : List UInt8) (N : Nat) (v5 v7 : Value) (w' : World) : Prop :=
  ∃ (l out : List Nat) (m : Nat) (r : List UInt8), v5 = .slice (some ⟨w.heap.size, 0, none⟩) l.length N ∧ l.length + m = N ∧ IRow w' w.heap.size l m ∧ out.length = m ∧ w'.ownsRow (w.heap.size + 1) 3 1 v7 out.length (intsL out) ∧ DSt w' p go r ∧ ordG N (List.range N) xs = (out ++ (ordG l.length l r).1, (ordG l.length l r).2) ∧ w.grownBy w' (pblk p)
theorem ordG_step (l : List Nat) (r : List UInt8) (hl : 0 < l.length) : ordG l.length l r = (l.getD (numL l.length r).1 0 :: (ordG (l.eraseIdx (numL l.length r).1).length (l.eraseIdx (numL l.length r).1) (numL l.length r).2).1, (ordG (l.eraseIdx (numL l.length r).1).length (l.eraseIdx (numL l.length r).1) (numL l.length r).2).2) := by
  have hlt : (numL l.length r).1 < l.length := by
    have := numL_lt (n := (l.length : Int)) (by omega) r
    omega
  rw [List.length_eraseIdx_of_lt hlt]
  obtain ⟨k, hk⟩ : ∃ k, l.length = k + 1 := ⟨l.length - 1, by omega⟩
  rw [show ordG l.length l r = ordG (k + 1) l r from by rw [hk], ordG, show l.length - 1 = k from by omega]
theorem ownsRow_base {w : World} {b1 b2 e size n : Nat} {v : Value} {xs : List Value} (h : w.ownsRow b1 e size v n xs) (hb : b2 ≤ b1) : w.ownsRow b2 e size v n xs :=
  ⟨h.1, h.2.imp id (fun ⟨g, cap, cur, h1, h2, h3⟩ => ⟨g, cap, cur, h1, Nat.le_trans hb h2, h3⟩)⟩

theorem norder_no (s : DSt w p go xs) (n : Int) (hn : ¬ (1 ≤ n ∧ n ≤ 1024)) : Calls Try.prog 25 #[.pointer p, .int .i64 n] w (OrIs w p go xs n) := by
  have e1 : ordOf n xs = ([], xs) := by unfold ordOf; rw [if_neg hn]
  have HF : Hid (OrIs w p go xs n (.returned (.slice none 0 0)) w) := Lib.hid ⟨_, rfl, by rw [e1]; exact World.ownsRow_nil w _ 3 1, by rw [e1]; exact s, World.grownBy.refl _ _⟩
  clear s e1
  by_cases h1 : n < 1
  · go_enter Try.func25, Try.ntmps25
    go_wp2
    go_ret
    exact HF.out
  · have h2 : 1024 < n := by omega
    go_enter Try.func25, Try.ntmps25
    go_wp2
    go_ret
    exact HF.out
theorem norder_yes (s : DSt w p go xs) (N : Nat) (h1 : 1 ≤ N) (h2 : N ≤ 1024) : Calls Try.prog 25 #[.pointer p, .int .i64 (N : Int)] w (OrIs w p go xs (N : Int)) := by
  have e1 : ordOf (N : Int) xs = ordG N (List.range N) xs := by unfold ordOf; rw [if_pos (by omega), Int.toNat_natCast]
  have hmk := fun W => run_make_i N (by omega) W
  obtain ⟨Z, hZ⟩ : ∃ Z, Z = (List.replicate N (Value.int .i64 0)).toArray := ⟨_, rfl⟩
  rw [← hZ] at hmk
  have hlt := s.lt
  have R0 : Hid (FiRel w p go xs N (.int .i64 0) (w.alloc (.cells Z 3))) := Lib.hid ⟨0, by omega, rfl, by unfold IRow; rw [hZ, heap_alloc_new w _]; simp [intsL], s.below ((Below.refl w.heap.size w).alloc (Nat.le_refl _) _) (Nat.le_refl _), grown_of_bel ((Below.refl w.heap.size w).alloc (Nat.le_refl _) _) _⟩
  have HLT := Lib.hid hlt
  have HE := Lib.hid e1
  have q1 : ¬ (N : Int) < 1 := by omega
  have q2 : ¬ (1024 : Int) < (N : Int) := by omega
  clear s hZ hlt e1
  go_enter Try.func25, Try.ntmps25
  go_upto_region 5 with fail
  go_loopw [18] (FiRel w p go xs N) (fun i _ => N - (RowKit.intOf i).toNat)
  case atStart => exact R0.out
  case round =>
    obtain ⟨j, hj, rfl, hrow, hs, hg⟩ := hrel
    clear R0
    by_cases hlt : j < N
    · have hlt' : (j : Int) < (N : Int) := by omega
      have hlen : (intsL (List.range j)).length = j := by rw [intsL_length, List.length_range]
      have c0 : wr.cell? ⟨w.heap.size, j, none⟩ = some (.int .i64 0) := by
        rw [cell_of_row wr _ j _ 3 (0, 0) hrow, List.getElem?_toArray, List.getElem?_append_right (by omega), hlen, Nat.sub_self, getElem_replicate_zero _ _ _ (by omega)]
      have f0 := frozen_of_row wr w.heap.size j _ 3 hrow
      have HR2 : Hid (FiRel w p go xs N (.int .i64 ((j : Int) + 1)) (wr.setCell ⟨w.heap.size, j, none⟩ (.int .i64 (j : Int)))) := by
        refine Lib.hid ⟨j + 1, by omega, by go_num, ?_, ?_, ?_⟩
        · have := heap_setCell_same wr w.heap.size j _ 3 (.int .i64 (j : Int)) hrow
          unfold IRow
          rw [this, List.range_succ, intsL_append, List.setIfInBounds_toArray, List.set_append_right _ _ (by omega), hlen, Nat.sub_self, show N - j = (N - (j + 1)) + 1 from by omega, List.replicate_succ, List.set_cons_zero, List.append_assoc]
          rfl
        · exact hs.keep (fun h e => Below.heap_setCell wr ⟨w.heap.size, j, none⟩ _ h (by intro e2; have := HLT.out.1 h e; simp at e2; omega)) (fun g e => Below.heap_setCell wr ⟨w.heap.size, j, none⟩ _ g (by intro e2; have := HLT.out.2 g e; simp at e2; omega))
        · exact ⟨hg.os, hg.tape, hg.output, by simpa [World.setCell] using hg.size, fun i hi hne => (Below.heap_setCell wr ⟨w.heap.size, j, none⟩ _ i (by intro e2; simp at e2; omega)).trans (hg.block i hi hne)⟩
      clear hs hg hrow
      go_wp2
      go_roundw
      case rel => exact HR2.out
      case measure => simp [RowKit.intOf]; omega
    · obtain rfl : j = N := by omega
      have R1 : Hid (OrRel w p go xs j (.slice (some ⟨w.heap.size, 0, none⟩) j j) (.slice none 0 0) wr) := Lib.hid ⟨List.range j, [], 0, xs, by rw [List.length_range], by rw [List.length_range]; omega, by rw [Nat.sub_self] at hrow; exact hrow, rfl, World.ownsRow_nil wr _ 3 1, hs, by rw [List.length_range, List.nil_append], hg⟩
      have hsz : Hid (w.heap.size < wr.heap.size) := Lib.hid (Array.getElem?_eq_some_iff.1 hrow).1
      clear hs hg hrow
      go_upto_region 10 with fail
      go_loopw [5, 7] (OrRel w p go xs j) (fun v5 _ _ => lenV v5)
      case atStart => exact R1.out
      case round =>
        obtain ⟨l, out, m, r, rfl, hlm, hrow, hom, hown, hs, hord, hg⟩ := hrel
        clear R1 hmk q1 q2 h1
        by_cases h0 : 0 < l.length
        · have h0' : (0 : Int) < (l.length : Int) := by omega
          have hat : (numL l.length r).1 < l.length := by
            have := numL_lt (n := (l.length : Int)) (by omega) r
            omega
          obtain ⟨a, ha⟩ : ∃ a, a = (numL l.length r).1 := ⟨_, rfl⟩
          obtain ⟨r2, hr2⟩ : ∃ r2, r2 = (numL l.length r).2 := ⟨_, rfl⟩
          have hstep := ordG_step l r h0
          rw [← ha, ← hr2] at hstep
          rw [← ha] at hat
          have hx : l.getD a 0 = l[a] := by rw [List.getD_eq_getElem?_getD, List.getElem?_eq_getElem hat]; rfl
          have hne : ∀ h, pblk p = some h → h < w.heap.size := HLT.out.1
          have hsz2 : w.heap.size < wr.heap.size := (Array.getElem?_eq_some_iff.1 hrow).1
          have HB : Hid (Calls Try.prog 14 #[.pointer p, .int .i64 (l.length : Int)] wr fun e w2 => e = .returned (.int .i64 (a : Int)) ∧ w2.cell? ⟨w.heap.size, a, none⟩ = some (.int .i64 (l[a] : Int)) ∧ IRow w2 w.heap.size l m ∧ (w2.alloc (.cells #[.int .i64 (l[a] : Int)] 3)).ownsRow (w.heap.size + 1) 3 1 u7 out.length (intsL out) ∧ DSt w2 p go r2 ∧ w.grownBy w2 (pblk p) ∧ w.heap.size < w2.heap.size) := by
            refine Lib.hid ((nnum_any hs (l.length : Int) (by omega)).mono ?_)
            rintro e w2 ⟨rfl, hs2, hg2⟩
            have hrow2 : IRow w2 w.heap.size l m := (hg2.block w.heap.size hsz2 (by intro e; have := hne w.heap.size (by first | exact e | exact e.symm); omega)).trans hrow
            refine ⟨by rw [ha], hrow2.cell a hat, hrow2, ?_, by rw [hr2]; exact hs2, grownBy_trans hg hg2, Nat.lt_of_lt_of_le hsz2 hg2.size⟩
            refine (hown.kept hg2 ?_).alloc _
            cases hob : u7.ownBlock with
            | none => exact .inl rfl
            | some k =>
              refine .inr ?_
              intro e
              have k1 := (hown.lt k hob).1
              have := hne k (by first | exact e | exact e.symm)
              omega
          have HL : Hid (out.length + [l[a]].length ≤ 100000) := Lib.hid (by simp; omega)
          have HOW := Lib.hid hown
          have HD : Hid (∀ v3 w2 w3, IRow w2 w.heap.size l m → DSt w2 p go r2 → w.grownBy w2 (pblk p) → w.heap.size < w2.heap.size → (w2.alloc (.cells #[.int .i64 (l[a] : Int)] 3)).grownBy w3 u7.ownBlock → w3.ownsRow (w.heap.size + 1) 3 1 v3 (out ++ [l[a]]).length (intsL (out ++ [l[a]])) →
              Calls Try.prog 59 #[.slice (some ⟨w.heap.size, 0, none⟩) l.length j, .int .i64 (a : Int), .int .i64 ((a : Int) + 1)] w3 fun e w4 => e = .returned (.slice (some ⟨w.heap.size, 0, none⟩) (l.eraseIdx a).length j) ∧ OrRel w p go xs j (.slice (some ⟨w.heap.size, 0, none⟩) (l.eraseIdx a).length j) v3 w4) := by
            refine Lib.hid (fun v3 w2 w3 i2 s2 g2 z2 g3 o3 => ?_)
            have hob : ∀ k, u7.ownBlock = some k → w.heap.size + 1 ≤ k := fun k hk => (HOW.out.lt k hk).1
            have gA : w2.grownBy (w2.alloc (.cells #[.int .i64 (l[a] : Int)] 3)) none := grown_of_bel ((Below.refl _ w2).alloc (Nat.le_refl _) _) _
            have hblk : ∀ i, i < w2.heap.size → i ≤ w.heap.size → w3.heap[i]? = w2.heap[i]? := fun i hi hi2 => (g3.block i (by simp; omega) (by intro e; have := hob i (by first | exact e | exact e.symm); omega)).trans (gA.block i hi (by intro e; cases e))
            have i3 : IRow w3 w.heap.size l m := (hblk _ z2 (Nat.le_refl _)).trans i2
            have hd := delete_row i3 hat (by omega)
            rw [hlm] at hd
            refine hd.mono ?_
            rintro e w4 ⟨rfl, i4, g4⟩
            have hlt2 := HLT.out
            have hel : (l.eraseIdx a).length = l.length - 1 := List.length_eraseIdx_of_lt hat
            have hsize3 : w.heap.size < w3.heap.size := by have := g3.size; simp at this; omega
            have h43 : ∀ i, i < w3.heap.size → i ≠ w.heap.size → w4.heap[i]? = w3.heap[i]? := fun i hi hn => g4.block i hi (by intro e; injection e with e; omega)
            refine ⟨rfl, l.eraseIdx a, out ++ [l[a]], m + 1, r2, rfl, by omega, i4, by simp; omega, ?_, ?_, ?_, ?_⟩
            · refine o3.kept g4 (.inr ?_)
              intro e
              have := (o3.lt w.heap.size (by first | exact e | exact e.symm)).1
              omega
            · refine s2.keep (fun h e => ?_) (fun g e => ?_)
              · have := hlt2.1 h e
                rw [h43 h (by omega) (by omega), hblk h (by omega) (by omega)]
              · have := hlt2.2 g e
                rw [h43 g (by omega) (by omega), hblk g (by omega) (by omega)]
            · rw [hord, hstep, hx, List.append_assoc]
              rfl
            · refine ⟨g4.os.trans (g3.os.trans g2.os), g4.tape.trans (g3.tape.trans g2.tape), g4.output.trans (g3.output.trans g2.output), by have := g4.size; omega, fun i hi hn => ?_⟩
              rw [h43 i (by omega) (by omega), hblk i (by omega) (by omega)]
              exact g2.block i hi hn
          have hai : (a : Int) < (l.length : Int) := by omega
          have hln : Hid ((l.eraseIdx a).length < l.length) := Lib.hid (by rw [List.length_eraseIdx_of_lt hat]; omega)
          have hll : l.length ≤ 1024 := by omega
          clear hs hg hrow hown hord hstep hx hne hom hlm ha hr2
          generalize l[a] = x at *
          generalize (l.eraseIdx a).length = k2 at *
          generalize l.length = k at *
          go_upto_region 12 with (go_at_call 14; (with_reducible refine HB.out.mono ?_); rintro e w2 ⟨rfl, hc2, hi2, ho2, hs2, hg2, hz2⟩)
          go_upto_region 13 with (refine wpList_append_ints rfl (.tmp 33) (.tmp 38) rfl (w.heap.size + 1) u7 out rfl ho2 _ [x] rfl (src_int x _) HL.out (by simp; omega) ?_; intro v3 w3 ho3 hg3)
          have HD2 := Lib.hid (HD.out v3 w2 w3 hi2 hs2 hg2 hz2 hg3 ho3)
          clear HD ho3 hg3 hi2 hs2 hg2 hc2 ho2 HB HOW
          go_wp2_with (go_at_call 59; (with_reducible refine HD2.out.mono ?_); rintro e w4 ⟨rfl, hr4⟩)
          go_roundw
          case rel => exact hr4
          case measure => simp [lenV]; exact hln.out
        · have hl0 : l = [] := List.eq_nil_of_length_eq_zero (by omega)
          subst hl0
          have HF : Hid (OrIs w p go xs (j : Int) (.returned u7) wr) := by
            refine Lib.hid ⟨_, rfl, ?_, ?_, hg⟩
            · rw [HE.out, hord]
              simp only [List.length_nil, ordG, List.append_nil]
              exact ownsRow_base hown (by omega)
            · rw [HE.out, hord]
              exact hs
          clear hs hg hrow hown hord hom
          simp only [List.length_nil]
          go_wp2
          go_ret
          exact HF.out
theorem norder_any (s : DSt w p go xs) (n : Int) : Calls Try.prog 25 #[.pointer p, .int .i64 n] w (OrIs w p go xs n) := by
  by_cases h : 1 ≤ n ∧ n ≤ 1024
  · obtain ⟨N, rfl⟩ : ∃ N : Nat, n = (N : Int) := ⟨n.toNat, by omega⟩
    exact norder_yes s N (by omega) (by omega)
  · exact norder_no s n h
end
end Go.Proofs.Ytbfhfnbhfeedbaa
end
section
namespace Go.Proofs.Ytbfhfnbhfeedbaa
set_option maxRecDepth 100000
set_option maxHeartbeats 1000000
open Go.RowKit Go.Lib Go.Great
theorem DMade.st {w : World} {h : Nat} {go : Option Nat} {xs : List UInt8} (m : DMade w h go xs) : DSt w (some ⟨h, 0, none⟩) go xs := .inr ⟨h, rfl, .inr m⟩
theorem ordG_length (k : Nat) (l : List Nat) (r : List UInt8) (h : l.length = k) : (ordG k l r).1.length = k := by rw [(ordG_perm k l r h).length_eq, h]
theorem ordOf_length (n : Int) (r : List UInt8) (h : 1 ≤ n ∧ n ≤ 1024) : (ordOf n r).1.length = n.toNat := by
  unfold ordOf; rw [if_pos h]
  exact ordG_length _ _ _ List.length_range
theorem num3 : numL 3 [1, 2, 7] = (1, [2, 7]) := numL_byte (n := 3) (c := 1) (by omega) (by omega) (by omega) [2, 7]
theorem num300 : numL 300 [2, 7] = (219, []) := by
  unfold numL
  rw [if_neg (by omega), show (300 : Int).toNat - 1 = 299 from rfl, numX_step (by omega), show 299 / 256 = 1 from rfl, numX_step (by omega), show 1 / 256 = 0 from rfl, numX_zero]
  rfl
theorem own_slice {w : World} {base e n : Nat} {v : Value} {cs : List Value} (h : w.ownsRow base e 1 v n cs) : ∃ A c, v = .slice A n c := by
  rcases h.2 with ⟨rfl, rfl⟩ | ⟨g, cap, cur, rfl, _⟩
  · exact ⟨_, _, rfl⟩
  · exact ⟨_, _, rfl⟩
theorem below_grown_made {w w1 w2 : World} {h : Nat} (hb : Below w.heap.size w w1) (hh : w.heap.size ≤ h) (hg : w1.grownBy w2 (some h)) : Below w.heap.size w w2 :=
  ⟨hg.os.trans hb.os, hg.tape.trans hb.tape, hg.output.trans hb.output, Nat.le_trans hb.size hg.size, fun k hk => (hg.block k (Nat.lt_of_lt_of_le hk hb.size) (by intro e; injection e with e; omega)).trans (hb.block k hk)⟩
theorem lives_any (w : World) : Calls Try.prog 10 #[] w fun e w' => e = .returned (.bool true) ∧ Below w.heap.size w w' := by
  obtain ⟨W0, hW0⟩ : ∃ W0, W0 = w.alloc (.cells #[.int .u8 1, .int .u8 2, .int .u8 7] 5) := ⟨_, rfl⟩
  have hb0 : Below w.heap.size w W0 := by rw [hW0]; exact (Below.refl _ w).alloc (Nat.le_refl _) _
  have hrow : W0.heap[w.heap.size]? = some (.cells #[.int .u8 1, .int .u8 2, .int .u8 7] 5 (0, 0)) := by rw [hW0]; exact heap_alloc_new w _
  have hA : BAt W0 W0.heap.size (some ⟨w.heap.size, 0, none⟩) [1, 2, 7] := .inr ⟨w.heap.size, 0, rfl, (Array.getElem?_eq_some_iff.1 hrow).1, fun j hj => by
    rw [Nat.zero_add, cell_of_row W0 _ j _ 5 (0, 0) hrow]
    match j, hj with
    | 0, _ => rfl
    | 1, _ => rfl
    | 2, _ => rfl⟩
  have HN := Lib.hid (nnew_any 3 hA (.inr ⟨_, _, rfl⟩) (by simp))
  have HW := Lib.hid hW0
  have HB0 := Lib.hid hb0
  clear hA hrow hb0 hW0
  simp only [List.length_cons, List.length_nil, Nat.zero_add, Nat.reduceAdd] at HN
  go_enter Try.func10, Try.ntmps10
  go_upto_region 2 with (go_at_call 11; rw [← HW.out]; (with_reducible refine HN.out.mono ?_); rintro e w1 ⟨h, go, rfl, hm, hh, hgo, hb1⟩)
  have hbb : Below w.heap.size w w1 := HB0.out.trans (hb1.mono HB0.out.size)
  have hh0 : w.heap.size ≤ h := Nat.le_trans HB0.out.size hh
  have C1 : Hid (Calls Try.prog 14 #[.pointer (some ⟨h, 0, none⟩), .int .i64 3] w1 fun e w2 => e = .returned (.int .i64 1) ∧ DSt w2 (some ⟨h, 0, none⟩) go [2, 7] ∧ Below w.heap.size w w2) := by
    refine Lib.hid ((nnum_any hm.st 3 (by omega)).mono ?_)
    rintro e w2 ⟨rfl, s2, g2⟩
    rw [num3] at s2 ⊢
    exact ⟨rfl, s2, below_grown_made hbb hh0 g2⟩
  have C2 : Hid (∀ w2, DSt w2 (some ⟨h, 0, none⟩) go [2, 7] → Below w.heap.size w w2 → Calls Try.prog 14 #[.pointer (some ⟨h, 0, none⟩), .int .i64 300] w2 fun e w3 => e = .returned (.int .i64 219) ∧ DSt w3 (some ⟨h, 0, none⟩) go [] ∧ Below w.heap.size w w3) := by
    refine Lib.hid (fun w2 s2 b2 => (nnum_any s2 300 (by omega)).mono ?_)
    rintro e w3 ⟨rfl, s3, g3⟩
    rw [num300] at s3 ⊢
    exact ⟨rfl, s3, below_grown_made b2 hh0 g3⟩
  have C3 : Hid (∀ w2, DSt w2 (some ⟨h, 0, none⟩) go [] → Below w.heap.size w w2 → Calls Try.prog 12 #[.pointer (some ⟨h, 0, none⟩)] w2 fun e w3 => e = .returned (.int .u8 0) ∧ DSt w3 (some ⟨h, 0, none⟩) go [] ∧ Below w.heap.size w w3) := by
    refine Lib.hid (fun w2 s2 b2 => (nbyte_any s2).mono ?_)
    rintro e w3 ⟨rfl, s3, g3⟩
    exact ⟨rfl, s3, below_grown_made b2 hh0 g3⟩
  have C4 : Hid (∀ w2, DSt w2 (some ⟨h, 0, none⟩) go [] → Below w.heap.size w w2 → Calls Try.prog 23 #[.pointer (some ⟨h, 0, none⟩)] w2 fun e w3 => e = .returned (.int .i64 0) ∧ DSt w3 (some ⟨h, 0, none⟩) go [] ∧ Below w.heap.size w w3) := by
    refine Lib.hid (fun w2 s2 b2 => (nleft_any s2).mono ?_)
    rintro e w3 ⟨rfl, n, rfl⟩
    exact ⟨rfl, s2, below_grown_made b2 hh0 (grownBy_drewN n _)⟩
  have C5 : Hid (∀ w2, DSt w2 (some ⟨h, 0, none⟩) go [] → Below w.heap.size w w2 → Calls Try.prog 25 #[.pointer (some ⟨h, 0, none⟩), .int .i64 3] w2 fun e w3 => (∃ A c, e = .returned (.slice A 3 c)) ∧ Below w.heap.size w w3) := by
    refine Lib.hid (fun w2 s2 b2 => (norder_any s2 3).mono ?_)
    rintro e w3 ⟨v, rfl, o3, s3, g3⟩
    obtain ⟨A, c, rfl⟩ := own_slice o3
    rw [ordOf_length 3 [] (by omega)]
    exact ⟨⟨A, c, rfl⟩, below_grown_made b2 hh0 g3⟩
  clear hm hbb hgo hb1 HN
  go_wp2_with (first
    | (go_at_call 14; (with_reducible refine C1.out.mono ?_); rintro e w2 ⟨rfl, s2, b2⟩)
    | (go_at_call 14; (with_reducible refine (C2.out _ s2 b2).mono ?_); rintro e w3 ⟨rfl, s3, b3⟩)
    | (go_at_call 12; (with_reducible refine (C3.out _ s3 b3).mono ?_); rintro e w4 ⟨rfl, s4, b4⟩)
    | (go_at_call 23; (with_reducible refine (C4.out _ s4 b4).mono ?_); rintro e w5 ⟨rfl, s5, b5⟩)
    | (go_at_call 25; (with_reducible refine (C5.out _ s5 b5).mono ?_); rintro e w6 ⟨⟨A6, c6, rfl⟩, b6⟩))
  go_ret
  exact ⟨rfl, b6⟩
end Go.Proofs.Ytbfhfnbhfeedbaa
end
section
namespace Go.Proofs.Ytbfhfnbhfeedbaa
set_option maxRecDepth 100000
set_option maxHeartbeats 1000000
open Go.RowKit Go.Lib Go.Great
theorem cloneB_empty (a : Addr) (c : Nat) (w : World) : Calls Try.prog 55 #[.slice (some a) 0 c] w fun e w' => ∃ A' n' c', e = .returned (.slice A' n' c') ∧ w'.ownsRow w.heap.size 5 1 (.slice A' n' c') ([] : List UInt8).length (bcells []) ∧ Below w.heap.size w w' := by
  have HO1 : Hid ((w.alloc (.cells #[] 5)).ownsRow w.heap.size 5 1 (.slice (some ⟨w.heap.size, 0, none⟩) 0 0) ([] : List UInt8).length (bcells [])) := Lib.hid ⟨by simp [bcells], .inr ⟨w.heap.size, 0, #[], rfl, Nat.le_refl _, heap_alloc_new w (.cells #[] 5), Nat.le_refl _, by simp [maxLen], rfl, rfl⟩⟩
  have HS : Hid (∀ W, Src Try.prog 1 22 (.slice (some a) 0 c) ([] : List UInt8).length (bcells []) W) := Lib.hid (fun W => Src.ofSlice W undBs a 0 c (bcells []) (by simp [bcells]) (fun j u hu => by simp [bcells] at hu) (bcells_oneC []))
  have HF : Hid (∀ v w2, w2.ownsRow w.heap.size 5 1 v (([] : List UInt8) ++ []).length (bcells ([] ++ [])) → (w.alloc (.cells #[] 5)).grownBy w2 (some w.heap.size) → ∃ A' n' c', v = .slice A' n' c' ∧ w2.ownsRow w.heap.size 5 1 (.slice A' n' c') ([] : List UInt8).length (bcells []) ∧ Below w.heap.size w w2) := Lib.hid (fun v w2 o g => by
    obtain ⟨A, c, rfl⟩ := own_slice o
    exact ⟨_, _, _, rfl, o, ((Below.refl w.heap.size w).alloc (Nat.le_refl _) _).grown g (by simp) (fun k hk => by injection hk with hk; omega)⟩)
  obtain ⟨ab, ao, asp⟩ := a
  have heq : ∀ w, (binOp .eql 22 (.slice (some ⟨ab, ao, asp⟩) 0 c) (.slice none 0 0)).run Try.prog w = .ok (.bool false) w := fun w => by kernel_rfl
  go_enter Try.func55, Try.ntmps55
  go_wp2_with (refine wpList_append_bytes rfl (.tmp 5) (.tmp 6) rfl w.heap.size (.slice (some ⟨w.heap.size, 0, none⟩) 0 0) [] rfl HO1.out _ [] rfl (HS.out _) (by simp) (by simp) ?_; intro v2 w2 ho2 hg2)
  obtain ⟨A', n', c', rfl, h1, h2⟩ := HF.out _ _ ho2 hg2
  go_ret
  exact ⟨A', n', c', rfl, h1, h2⟩
theorem new_any {w : World} {A : Option Addr} {bs : List UInt8} (c : Nat) (hA : BAt w w.heap.size A bs) (hl : bs.length ≤ 900000) : Calls Try.prog 11 #[.slice A bs.length c] w (NewIs w bs) := by
  rcases hA with rfl | ⟨g, off, rfl, h⟩
  · cases A with
    | none => exact nnew_any c (.inl rfl) (.inl rfl) hl
    | some a =>
      have HC := Lib.hid (cloneB_empty a c w)
      have HN : Hid (∀ v w1, Below w.heap.size w w1 → w1.ownsRow w.heap.size 5 1 v ([] : List UInt8).length (bcells []) → NewIs w [] (.returned (.pointer (some ⟨w1.heap.size, 0, none⟩))) (w1.alloc (.cells #[.bool true, v] 51))) := Lib.hid (fun v w1 hb ho => new_of w1 hb ho hl)
      clear hl
      simp only [List.length_nil]
      go_enter Try.func11, Try.ntmps11
      go_wp2_with (go_at_call 55; (with_reducible refine HC.out.mono ?_); rintro e w1 ⟨A1, n1, c1, rfl, ho, hb⟩)
      go_ret
      exact HN.out _ w1 hb ho
  · exact nnew_any c (.inr ⟨g, off, rfl, h⟩) (.inr ⟨g, off, rfl⟩) hl

/-- The address A leads to the numbers L, in a block below B. -/
def NAt (w : World) (B : Nat) (A : Option Addr) (L : List Nat) : Prop := L = [] ∨ ∃ g off, A = some ⟨g, off, none⟩ ∧ g < B ∧ ∀ (j n : Nat), L[j]? = some n → w.cell? ⟨g, off + j, none⟩ = some (.int .i64 (n : Int))
section
variable {w w' : World} {B B' : Nat} {A : Option Addr} {L : List Nat}
theorem NAt.below (h : NAt w B A L) (hb : Below B w w') : NAt w' B A L := by
  rcases h with rfl | ⟨g, off, rfl, hg, hc⟩
  · exact .inl rfl
  · exact .inr ⟨g, off, rfl, hg, fun j n hn => by rw [World.cell?_of_block (w := w) (w' := w') (a := ⟨g, off + j, none⟩) (hb.block g hg)]; exact hc j n hn⟩
theorem NAt.more (h : NAt w B A L) (hB : B ≤ B') : NAt w B' A L := by
  rcases h with rfl | ⟨g, off, rfl, hg, hc⟩
  · exact .inl rfl
  · exact .inr ⟨g, off, rfl, by omega, hc⟩
theorem NAt.some_ (h : NAt w B A L) (hL : 0 < L.length) : ∃ g off, A = some ⟨g, off, none⟩ ∧ g < B ∧ ∀ (j n : Nat), L[j]? = some n → w.cell? ⟨g, off + j, none⟩ = some (.int .i64 (n : Int)) := by
  rcases h with rfl | h
  · simp at hL
  · exact h
/-- A row of one's own, as a slice. -/
theorem nat_own {base n : Nat} {v : Value} (h : w.ownsRow base 3 1 v n (intsL L)) : ∃ A c, v = .slice A L.length c ∧ L.length ≤ c ∧ NAt w w.heap.size A L := by
  have hl := h.1
  rw [intsL_length, Nat.mul_one] at hl
  rcases h.2 with ⟨rfl, h0⟩ | ⟨g, cap, cur, rfl, hb, hg, hc, _⟩
  · have hL : L = [] := List.eq_nil_of_length_eq_zero (by omega)
    subst hL
    exact ⟨none, 0, rfl, Nat.le_refl _, .inl rfl⟩
  · refine ⟨_, cap, by rw [hl], by omega, .inr ⟨g, 0, rfl, (Array.getElem?_eq_some_iff.1 hg).1, fun j m hm => ?_⟩⟩
    have := h.cells (g := g) rfl j (.int .i64 (m : Int)) (by simp [intsL, hm])
    rwa [Addr.add_mid] at this
end
def InRel2 (W : World) (n : Nat) (i : Value) (wr : World) : Prop := ∃ j : Nat, j ≤ n ∧ i = .int .i64 (j : Int) ∧ Below W.heap.size W wr
theorem ints_same (A1 A2 : Option Addr) (c1 c2 : Nat) (L : List Nat) (w : World) (hL : L.length ≤ 100000) (h1 : NAt w w.heap.size A1 L) (h2 : NAt w w.heap.size A2 L) :
    Calls Try.prog 26 #[.slice A1 L.length c1, .slice A2 L.length c2] w fun e w' => e = .returned (.bool true) ∧ Below w.heap.size w w' := by
  have H1 := Lib.hid h1
  have H2 := Lib.hid h2
  obtain ⟨n, hn⟩ : ∃ n, n = L.length := ⟨_, rfl⟩
  rw [← hn] at hL ⊢
  have HN := Lib.hid hn
  have R0 : Hid (InRel2 w n (.int .i64 0) w) := Lib.hid ⟨0, by omega, rfl, Below.refl _ _⟩
  clear h1 h2 hn
  go_enter Try.func26, Try.ntmps26
  go_upto_region 4 with fail
  go_loopw [13] (InRel2 w n) (fun i _ => n - (RowKit.intOf i).toNat)
  case atStart => exact R0.out
  case round =>
    obtain ⟨j, hj, rfl, hb⟩ := hrel
    clear R0
    have HB := Lib.hid hb
    by_cases hlt : j < n
    · obtain ⟨x, hx⟩ : ∃ x, L[j]? = some x := ⟨L[j]'(by have := HN.out; omega), List.getElem?_eq_getElem _⟩
      obtain ⟨g1, o1, rfl, hg1, hc1⟩ := (H1.out.below hb).some_ (by have := HN.out; omega)
      obtain ⟨g2, o2, rfl, hg2, hc2⟩ := (H2.out.below hb).some_ (by have := HN.out; omega)
      have k1 := hc1 j x hx
      have k2 := hc2 j x hx
      have HREL : Hid (∀ m, InRel2 w n (.int .i64 ((j : Int) + 1)) (wr.drewN m)) := Lib.hid (fun m => ⟨j + 1, by omega, by go_num, below_drewN HB.out m⟩)
      clear hc1 hc2 hx hb hg1 hg2 HB
      go_wp2
      go_quiet (fail)
      go_wp2
      go_roundw
      case rel => exact HREL.out _
      case measure => simp [RowKit.intOf]; omega
    · clear hb
      go_wp2
      go_ret
      exact ⟨rfl, HB.out⟩
end Go.Proofs.Ytbfhfnbhfeedbaa
end
