/- Contracts of draw at a source that New made. Conditions: the bytes are at most 900,000. Two sources, the program's and the document's, side by side. Conditions: the bytes are at most 900,000. -/
import Derived.Test.YtbfhfnbhfeedbaaXDnx
section
namespace Go.Proofs.Ytbfhfnbhfeedbaa
set_option maxRecDepth 100000
set_option maxHeartbeats 1000000
open Go.RowKit Go.Lib Go.Great
/-- A source that New made. -/
def DMx (w : World) (p : Option Addr) (go : Option Nat) (xs : List UInt8) : Prop := ∃ h, p = some ⟨h, 0, none⟩ ∧ DMade w h go xs
section
variable {w w' w2 : World} {h : Nat} {go : Option Nat} {xs : List UInt8} {p : Option Addr} {v : Value}
theorem DMx.drewN (s : DMx w p go xs) (n : Nat) : DMx (w.drewN n) p go xs := s
theorem DMx.st (s : DMx w p go xs) : DSt w p go xs := by
  obtain ⟨h, rfl, m⟩ := s
  exact .inr ⟨h, rfl, .inr m⟩
theorem DMx.lt (s : DMx w p go xs) : (∀ h, pblk p = some h → h < w.heap.size) ∧ ∀ g, go = some g → g < w.heap.size := s.st.lt
theorem DMx.keep (s : DMx w p go xs) (hh : ∀ h, pblk p = some h → w'.heap[h]? = w.heap[h]?) (hk : ∀ g, go = some g → w'.heap[g]? = w.heap[g]?) : DMx w' p go xs := by
  obtain ⟨h, rfl, m⟩ := s
  exact ⟨h, rfl, m.keep (hh h rfl) hk⟩
theorem DMx.below {B : Nat} (s : DMx w p go xs) (hb : Below B w w') (hB : w.heap.size ≤ B) : DMx w' p go xs :=
  s.keep (fun h e => hb.block h (Nat.lt_of_lt_of_le (s.lt.1 h e) hB)) (fun g e => hb.block g (Nat.lt_of_lt_of_le (s.lt.2 g e) hB))
theorem DSt.mx {g : Nat} (s : DSt w p (some g) xs) : DMx w p (some g) xs := by
  rcases s with ⟨_, e, _⟩ | ⟨h, rfl, ⟨_, e, _⟩ | m⟩
  · cases e
  · cases e
  · exact ⟨h, rfl, m⟩
theorem DMade.go_some {x : UInt8} (s : DMade w h go (x :: xs)) : ∃ g, go = some g := by
  obtain ⟨v, hh, ⟨hl, ⟨rfl, _, hx⟩ | ⟨g, off, cap, cur, rfl, rfl, hg, h1, h2, h3, hc⟩⟩, hne⟩ := s
  · cases hx
  · exact ⟨g, rfl⟩
def NBytePM (w : World) (p : Option Addr) (go : Option Nat) (xs : List UInt8) (e : Ending) (w' : World) : Prop :=
  e = .returned (.int .u8 ((xs.headD 0).toNat : Int)) ∧ DMx w' p go xs.tail ∧ w.grownBy w' (pblk p)
theorem nbyte_anyM (s : DMx w p go xs) : Calls Try.prog 12 #[.pointer p] w (NBytePM w p go xs) := by
  cases xs with
  | nil =>
    have HL := Lib.hid (nleft_any s.st)
    have R : ∀ n, NBytePM w p go [] (.returned (.int .u8 0)) (w.drewN n) := fun n => ⟨by simp, s.drewN n, grownBy_drewN n _⟩
    have HR := Lib.hid R
    clear s R
    simp only [List.length_nil] at HL
    go_enter Try.func12, Try.ntmps12
    go_wp2_with (go_at_call 23; (with_reducible refine HL.out.mono ?_); rintro e w1 ⟨rfl, n1, rfl⟩)
    go_ret
    exact HR.out n1
  | cons x xs =>
    obtain ⟨h, rfl, m⟩ := s
    obtain ⟨g, rfl⟩ := m.go_some
    refine (nbyte_more x m).mono ?_
    rintro e w' ⟨rfl, b, c⟩
    exact ⟨rfl, b.mx, c⟩
def NbRelM (w : World) (p : Option Addr) (go : Option Nat) (r : List UInt8) (W : Nat) (v i : Value) (w' : World) : Prop :=
  ∃ j : Nat, j ≤ W ∧ i = .int .i64 (j : Int) ∧ v = .int .u64 ((eat j r).1 : Int) ∧ DMx w' p go (eat j r).2 ∧ w.grownBy w' (pblk p)
theorem number_anyM (s : DMx w p go xs) (W : Nat) (hW : W ≤ 8) : Calls Try.prog 56 #[.func (.func 12) #[.pointer p] #[], .int .i64 (W : Int)] w fun e w' => e = .returned (.int .u64 ((eat W xs).1 : Int)) ∧ DMx w' p go (eat W xs).2 ∧ w.grownBy w' (pblk p) := by
  have R0 : Hid (NbRelM w p go xs W (.int .u64 0) (.int .i64 0) w) := Lib.hid ⟨0, by omega, rfl, rfl, s, World.grownBy.refl _ _⟩
  have HE : Hid (∀ args w, (callFunc 12 args).run Try.prog w = .ok (.enter 12 args) w) := Lib.hid (enters_of Try.func12 (by kernel_rfl) rfl)
  clear s
  go_enter Try.func56, Try.ntmps56
  go_upto_region 3 with fail
  go_loopw [5, 7] (NbRelM w p go xs W) (fun _ i _ => W - (RowKit.intOf i).toNat)
  case atStart => exact R0.out
  case round =>
    obtain ⟨j, hj, rfl, rfl, hs, hg⟩ := hrel
    clear R0
    by_cases hlt : j < W
    · have hlt' : (j : Int) < (W : Int) := by omega
      have hb := ((eat j xs).2.headD 0).toNat_lt
      have hx : (eat j xs).1 < 72057594037927936 := by
        have := eat_lt j xs
        have h2 : 256 ^ j ≤ 256 ^ 7 := Nat.pow_le_pow_right (by omega) (by omega)
        have h3 : (256 : Nat) ^ 7 = 72057594037927936 := by decide
        omega
      have HB := Lib.hid (nbyte_anyM hs)
      unfold NBytePM at HB
      have HREL : Hid (∀ w', DMx w' p go (eat j xs).2.tail → wr.grownBy w' (pblk p) → NbRelM w p go xs W (.int .u64 (((eat j xs).1 : Int) * 256 + (((eat j xs).2.headD 0).toNat : Int))) (.int .i64 ((j : Int) + 1)) w') := Lib.hid (fun w' a b => ⟨j + 1, by omega, by go_num, by rw [eat]; go_num, by rw [eat]; exact a, grownBy_trans hg b⟩)
      clear hs hg
      generalize (eat j xs).1 = x at *
      generalize ((eat j xs).2.headD 0).toNat = b at *
      generalize (eat j xs).2.tail = r2 at *
      have hx1 : (x : Int) * 256 < 18446744073709551616 := by omega
      have hx2 : (x : Int) * 256 + (b : Int) < 18446744073709551616 := by omega
      go_upto_region 5 with (go_at_call 12; (with_reducible refine HB.out.mono ?_); rintro e w2 ⟨rfl, hs2, hg2⟩)
      have HR2 := Lib.hid (HREL.out _ hs2 hg2)
      clear HREL hs2 hg2 HB
      go_wp2
      go_roundw
      case rel => rw [orb x b hx (by simpa using hb)]; exact HR2.out
      case measure => simp [RowKit.intOf]; omega
    · obtain rfl : j = W := by omega
      have HF := Lib.hid (And.intro hs hg)
      clear hs hg
      go_wp2
      go_ret
      exact ⟨rfl, HF.out⟩
theorem nnum_anyM (s : DMx w p go xs) (n : Int) (hn : n ≤ 9223372036854775807) : Calls Try.prog 14 #[.pointer p, .int .i64 n] w fun e w' => e = .returned (.int .i64 ((numL n xs).1 : Int)) ∧ DMx w' p go (numL n xs).2 ∧ w.grownBy w' (pblk p) := by
  by_cases h2 : n < 2
  · rw [numL_small h2]
    have HF := Lib.hid (And.intro s (World.grownBy.refl w (pblk p)))
    clear s
    go_enter Try.func14, Try.ntmps14
    go_wp2
    go_ret
    exact ⟨rfl, HF.out⟩
  · obtain ⟨N, rfl⟩ : ∃ N : Nat, n = (N : Int) + 1 := ⟨(n - 1).toNat, by omega⟩
    have hN : 0 < N := by omega
    have hN2 : N < 18446744073709551616 := by omega
    have e1 : numL ((N : Int) + 1) xs = ((eat (widN N) xs).1 % (N + 1), (eat (widN N) xs).2) := by
      unfold numL
      rw [if_neg h2, show ((N : Int) + 1).toNat = N + 1 from by omega, Nat.add_sub_cancel, numX_eat N xs hN2]
    rw [e1]
    have HW := Lib.hid (fun w => width_any N hN2 w)
    have HN := Lib.hid (number_anyM s (widN N) (widN_le N hN2))
    have hx := eat_lt (widN N) xs
    have hx2 : (eat (widN N) xs).1 < 18446744073709551616 := by
      have h2 : 256 ^ (widN N) ≤ 256 ^ 8 := Nat.pow_le_pow_right (by omega) (widN_le N hN2)
      have h3 : (256 : Nat) ^ 8 = 18446744073709551616 := by decide
      omega
    clear s e1 hx
    generalize (eat (widN N) xs).1 = x at *
    generalize (eat (widN N) xs).2 = r2 at *
    have hml : x % (N + 1) < N + 1 := Nat.mod_lt _ (by omega)
    have hmi : ((x % (N + 1) : Nat) : Int) = (x : Int) % ((N : Int) + 1) := by simp
    have hmo : (x : Int) % ((N : Int) + 1) < (N : Int) + 1 := by omega
    have hmp : 0 ≤ (x : Int) % ((N : Int) + 1) := by omega
    rw [hmi]
    clear hml hmi
    generalize widN N = W at *
    go_enter Try.func14, Try.ntmps14
    go_wp2_with (first
      | (go_at_call 57; (with_reducible refine (HW.out _).mono ?_); rintro e w1 ⟨rfl, rfl⟩)
      | (go_at_call 56; (with_reducible refine HN.out.mono ?_); rintro e w2 ⟨rfl, hs2, hg2⟩))
    go_ret
    exact ⟨rfl, hs2, hg2⟩
theorem nword_anyM (s : DMx w p go xs) : Calls Try.prog 16 #[.pointer p] w fun e w' => e = .returned (.int .u32 ((eat 4 xs).1 : Int)) ∧ DMx w' p go (eat 4 xs).2 ∧ w.grownBy w' (pblk p) := by
  have HN := Lib.hid (number_anyM s 4 (by omega))
  have hx := eat_lt 4 xs
  have hx2 : (eat 4 xs).1 < 4294967296 := hx
  clear s hx
  generalize (eat 4 xs).1 = x at *
  generalize (eat 4 xs).2 = r2 at *
  simp only [Int.cast_ofNat_Int] at HN
  go_enter Try.func16, Try.ntmps16
  go_wp2_with (go_at_call 56; (with_reducible refine HN.out.mono ?_); rintro e w2 ⟨rfl, hs2, hg2⟩)
  go_ret
  exact ⟨rfl, hs2, hg2⟩
def TnRelM (w : World) (p : Option Addr) (go : Option Nat) (xs : List UInt8) (N G : Nat) (i : Value) (w' : World) : Prop :=
  ∃ j : Nat, j ≤ N ∧ i = .int .i64 (j : Int) ∧ w'.heap[G]? = some (.cells (bcells (padT j xs) ++ List.replicate (N - j) (Value.int .u8 0)).toArray 5 (0, 0)) ∧ DMx w' p go (xs.drop j) ∧ w.grownBy w' (pblk p)
/-- What Take tells, and leaves: N is how many bytes. -/
def TnIsM (w : World) (p : Option Addr) (go : Option Nat) (xs : List UInt8) (N : Nat) (e : Ending) (w' : World) : Prop :=
  ∃ v, e = .returned v ∧ w'.ownsRow w.heap.size 5 1 v (padT N xs).length (bcells (padT N xs)) ∧ DMx w' p go (xs.drop N) ∧ w.grownBy w' (pblk p)
theorem ntake_anyM (s : DMx w p go xs) (n : Int) (hn : n ≤ 9223372036854775807) (hn0 : -9223372036854775808 ≤ n) : Calls Try.prog 18 #[.pointer p, .int .i64 n] w (TnIsM w p go xs (min n 1024).toNat) := by
  obtain ⟨N, hN⟩ : ∃ N, N = (min n 1024).toNat := ⟨_, rfl⟩
  rw [← hN]
  have hN1 : N ≤ 1024 := by omega
  have hm : max 0 (min n 1024) = (N : Int) := by omega
  have hmk := fun W => run_make_b N N (Nat.le_refl _) (by omega) W
  obtain ⟨Z, hZ⟩ : ∃ Z, Z = (List.replicate N (Value.int .u8 0)).toArray := ⟨_, rfl⟩
  rw [← hZ] at hmk
  have hlt := s.lt
  have R0 : Hid (TnRelM w p go xs N w.heap.size (.int .i64 0) (w.alloc (.cells Z 5))) := Lib.hid ⟨0, by omega, rfl, by rw [hZ, heap_alloc_new w _]; simp [padT, bcells], s.below ((Below.refl w.heap.size w).alloc (Nat.le_refl _) _) (Nat.le_refl _), grown_of_bel ((Below.refl w.heap.size w).alloc (Nat.le_refl _) _) _⟩
  have HLT := Lib.hid hlt
  clear s hN hZ hlt
  go_enter Try.func18, Try.ntmps18
  go_upto_region 3 with fail
  go_loopw [13] (TnRelM w p go xs N w.heap.size) (fun i _ => N - (RowKit.intOf i).toNat)
  case atStart => exact R0.out
  case round =>
    obtain ⟨j, hj, rfl, hrow, hs, hg⟩ := hrel
    clear R0
    by_cases hlt : j < N
    · have hlt' : (j : Int) < (N : Int) := by omega
      obtain ⟨b, hbd⟩ : ∃ b, b = (xs.drop j).headD 0 := ⟨_, rfl⟩
      have hne : ∀ h, pblk p = some h → h ≠ w.heap.size := fun h e => by have := HLT.out.1 h e; omega
      have HB : Hid (Calls Try.prog 12 #[.pointer p] wr fun e w2 => e = .returned (.int .u8 (b.toNat : Int)) ∧ w2.cell? ⟨w.heap.size, j, none⟩ = some (.int .u8 0) ∧ w2.frozen? ⟨w.heap.size, j, none⟩ = false ∧ TnRelM w p go xs N w.heap.size (.int .i64 ((j : Int) + 1)) (w2.setCell ⟨w.heap.size, j, none⟩ (.int .u8 (b.toNat : Int)))) := by
        refine Lib.hid ((nbyte_anyM hs).mono ?_)
        rintro e w2 ⟨rfl, hs2, hg2⟩
        have hsz : w.heap.size < wr.heap.size := (Array.getElem?_eq_some_iff.1 hrow).1
        have hrow2 : w2.heap[w.heap.size]? = _ := (hg2.block w.heap.size hsz (by intro e; exact hne _ (by first | exact e | exact e.symm) rfl)).trans hrow
        have hlen : (bcells (padT j xs)).length = j := by rw [bcells, List.length_map, padT_length]
        have hlt1 := hs2.lt
        refine ⟨by rw [hbd], ?_, frozen_of_row w2 _ j _ 5 hrow2, j + 1, by omega, by go_num, ?_, ?_, ?_⟩
        · rw [cell_of_row w2 _ j _ 5 (0, 0) hrow2, List.getElem?_toArray, List.getElem?_append_right (by omega), hlen, Nat.sub_self, List.getElem?_replicate, if_pos (by omega)]
        · have := heap_setCell_same w2 w.heap.size j _ 5 (.int .u8 (b.toNat : Int)) hrow2
          rw [this, padT_succ, ← hbd, bcells_app, List.setIfInBounds_toArray, List.set_append_right _ _ (by omega), hlen, Nat.sub_self, show N - j = (N - (j + 1)) + 1 from by omega, List.replicate_succ, List.set_cons_zero, List.append_assoc]
          rfl
        · rw [List.tail_drop] at hs2
          refine hs2.keep (fun h e => Below.heap_setCell w2 ⟨w.heap.size, j, none⟩ _ h (by intro e2; exact hne h e (by first | exact e2 | exact e2.symm))) (fun g e => Below.heap_setCell w2 ⟨w.heap.size, j, none⟩ _ g (by intro e2; have := HLT.out.2 g e; simp at e2; omega))
        · have g1 := grownBy_trans hg hg2
          exact ⟨g1.os, g1.tape, g1.output, by simpa [World.setCell] using g1.size, fun i hi hne => (Below.heap_setCell w2 ⟨w.heap.size, j, none⟩ _ i (by intro e2; simp at e2; omega)).trans (g1.block i hi hne)⟩
      clear hs hg hrow hne
      generalize b.toNat = bb at *
      go_wp2_with (go_at_call 12; (with_reducible refine HB.out.mono ?_); rintro e w2 ⟨rfl, hc2, hf2, hr2⟩)
      go_roundw
      case rel => exact hr2
      case measure => simp [RowKit.intOf]; omega
    · obtain rfl : j = N := by omega
      have HF : Hid (TnIsM w p go xs j (.returned (.slice (some ⟨w.heap.size, 0, none⟩) j j)) wr) := Lib.hid ⟨_, rfl, by
        rw [Nat.sub_self, List.replicate_zero, List.append_nil] at hrow
        have hlen : (bcells (padT j xs)).length = j := by rw [bcells, List.length_map, padT_length]
        rw [padT_length]
        refine ⟨by rw [hlen, Nat.mul_one], .inr ⟨w.heap.size, j, _, rfl, Nat.le_refl _, hrow, Nat.le_refl _, by simp only [maxLen]; omega, by simp [hlen], by rw [List.take_of_length_le (by simp [hlen])]⟩⟩, hs, hg⟩
      clear hs hg hrow
      go_wp2
      go_ret
      exact HF.out
end
end Go.Proofs.Ytbfhfnbhfeedbaa
end
section
namespace Go.Proofs.Ytbfhfnbhfeedbaa
set_option maxRecDepth 100000
set_option maxHeartbeats 1000000
open Go.RowKit Go.Lib Go.Great
theorem sadd_yesF {w : World} {h c c2 : Nat} {A A2 : Option Addr} {xs r bs : List UInt8} (s : RS w h A c xs r) (hb : bs.length ≤ 65536) (hb2 : r.length + bs.length ≤ 65536) (hx : xs.length + bs.length ≤ 900000) (hA : BAt w w.heap.size A2 bs) : Calls Try.prog 21 #[.pointer (some ⟨h, 0, none⟩), .slice A2 bs.length c2] w fun e w' => e = .returned (.int .i64 0) ∧ (∃ A' c', RS w' h A' c' (xs ++ bs) (r ++ bs) ∧ ∀ g off, A' = some ⟨g, off, none⟩ → w.heap.size ≤ g) ∧ w.grownBy w' (some h) := by
  have HL := Lib.hid (sleft_any s)
  have hq : ¬ (65536 : Int) < (bs.length : Int) := by omega
  have hq' : ¬ (65536 : Int) - (bs.length : Int) < (r.length : Int) := by omega
  obtain ⟨k, a, hr⟩ := s
  have HA := Lib.hid a
  have HB := Lib.hid hA
  have hlt := a.lt
  have HSZ : Hid (([] : List UInt8).length + xs.length ≤ 10000000 ∧ ([] ++ xs).length + bs.length ≤ 10000000) := Lib.hid (by simp; omega)
  obtain ⟨b, hbb⟩ : ∃ b, b = bs.length := ⟨_, rfl⟩
  have HBB := Lib.hid hbb
  have HXX := Lib.hid hx
  have HRR := Lib.hid hr
  rw [← hbb] at hq hq' ⊢
  clear a hA hr hb hb2 hx hbb
  generalize r.length = l at *
  go_enter Try.func21, Try.ntmps21
  go_upto_region 3 with (go_at_call 24; (with_reducible refine HL.out.mono ?_); rintro e w1 ⟨rfl, n1, rfl⟩)
  have hb1 : Below w.heap.size w ((w.drewN n1).alloc (.cells #[] 5)) := (show Below w.heap.size w (w.drewN n1) by first | exact (Below.refl _ w).drewN n1 | exact ⟨rfl, rfl, rfl, Nat.le_refl _, fun _ _ => rfl⟩ | exact (Below.refl _ w)).alloc (Nat.le_refl _) _
  have c0 : ((w.drewN n1).alloc (.cells #[] 5)).cell? ⟨h, 0, none⟩ = some (.slice A xs.length c) := (HA.out.below hb1 (Nat.le_refl _)).cells.1
  have HO1 : Hid (((w.drewN n1).alloc (.cells #[] 5)).ownsRow w.heap.size 5 1 (.slice (some ⟨w.heap.size, 0, none⟩) 0 0) ([] : List UInt8).length (bcells [])) := Lib.hid ⟨by simp [bcells], .inr ⟨w.heap.size, 0, #[], rfl, Nat.le_refl _, heap_alloc_new (w.drewN n1) (.cells #[] 5), Nat.le_refl _, by simp [maxLen], rfl, rfl⟩⟩
  have HB1 := Lib.hid hb1
  clear hb1
  have HG2 : Hid (∀ w2, ((w.drewN n1).alloc (.cells #[] 5)).grownBy w2 (some w.heap.size) → w.grownBy w2 (some h)) := Lib.hid (fun w2 g => grown_own (grown_of_bel HB1.out _) g (by rintro k e; injection e with e; omega))
  have HSR : Hid (∀ w2, w.grownBy w2 (some h) → Src Try.prog 1 22 (.slice A2 b c2) bs.length (bcells bs) w2) := Lib.hid (fun w2 g => by
    have := (HB.out.grown (Nat.le_refl _) g (HB.out.ne2 HA.out.1 (by simp) (by simp))).srcB c2
    rw [HBB.out]
    exact this)
  go_upto_region 4 with (first
    | (refine wpList_append_bytes rfl (.tmp 17) (.tmp 21) rfl w.heap.size (.slice (some ⟨w.heap.size, 0, none⟩) 0 0) [] rfl HO1.out _ xs rfl ((HA.out.below HB1.out (Nat.le_refl _)).2.1.srcB c) HSZ.out.1 HB1.out.size ?_; intro v2 w2 ho2 hg2)
    | (refine wpList_append_bytes rfl (.tmp 22) (.tmp 23) rfl w.heap.size v2 ([] ++ xs) rfl ho2 _ bs rfl (HSR.out _ (HG2.out _ hg2)) HSZ.out.2 (HG2.out _ hg2).size ?_; intro v3 w3 ho3 hg3; refine Hid.out ?_))
  refine Lib.hid ?_
  have g2 := HG2.out _ hg2
  have hob : ∀ k, v2.ownBlock = some k → w.heap.size ≤ k := fun k hk => (ho2.lt k hk).1
  have g3 := grown_own g2 hg3 hob
  have e3 : w3.heap[h]? = w2.heap[h]? := hg3.block h (Nat.lt_of_lt_of_le hlt g2.size) (by intro e; have := hob h (by first | exact e | exact e.symm); omega)
  have e2 : w2.heap[h]? = ((w.drewN n1).alloc (.cells #[] 5)).heap[h]? := hg2.block h (Nat.lt_of_lt_of_le hlt HB1.out.size) (by
    intro e
    have e' : some h = some w.heap.size := by first | exact e | exact e.symm
    injection e' with e'
    omega)
  have e1 := HB1.out.block h hlt
  have row := ((e3.trans e2).trans e1).trans HA.out.1
  obtain ⟨A3, c3, rfl, hbat, hge⟩ := own_bat ho3
  have cc := cell_of_row w3 h 0 _ 29 (0, 0) row
  simp at cc
  have ff := frozen_of_row w3 h 0 _ 29 row
  have HF : Hid ((∃ A' c', RS (w3.setCell ⟨h, 0, none⟩ (.slice A3 ([] ++ xs ++ bs).length c3)) h A' c' (xs ++ bs) (r ++ bs) ∧ ∀ g off, A' = some ⟨g, off, none⟩ → w.heap.size ≤ g) ∧ w.grownBy (w3.setCell ⟨h, 0, none⟩ (.slice A3 ([] ++ xs ++ bs).length c3)) (some h)) := Lib.hid (by
    refine ⟨⟨A3, c3, ⟨k, ⟨?_, ?_, ?_, ?_⟩, ?_⟩, hge⟩, grownBy_setCell g3 _ _⟩
    · have s0 := heap_setCell_same w3 h 0 _ 29 (.slice A3 ([] ++ xs ++ bs).length c3) row
      simpa using s0
    · have := hbat.set (g := h) (j := 0) (.slice A3 ([] ++ xs ++ bs).length c3) (fun g' off e _ => by have := hge g' off e; omega)
      simpa [World.setCell] using this
    · have := HA.out.2.2.1; rw [List.length_append]; omega
    · rw [List.length_append]; exact HXX.out
    · rw [HRR.out, List.drop_append_of_le_length HA.out.2.2.1])
  clear g2 g3 e1 e2 e3 hbat hge ho3 ho2 hg2 hg3 row hob HA HB HB1 HG2 HSR HO1 c0
  generalize ([] ++ xs ++ bs).length = L3 at *
  go_wp2
  go_ret
  exact ⟨rfl, HF.out⟩
/-- The program's source at h (x1 is left) and the document's at e (x2 is left of ys), in a world that keeps what stood in w. -/
structure PQ (w : World) (h e : Nat) (go : Option Nat) (A : Option Addr) (c : Nat) (ys x1 x2 : List UInt8) (wr : World) : Prop where
  m : DMade wr h go x1
  r : RS wr e A c ys x2
  b : Below w.heap.size w wr
  hh : w.heap.size ≤ h
  hg : ∀ g, go = some g → w.heap.size ≤ g
  he : w.heap.size ≤ e
  ha : ∀ g off, A = some ⟨g, off, none⟩ → ys ≠ [] → go ≠ some g
section
variable {w wr w1 w2 : World} {h e : Nat} {go : Option Nat} {A A2 : Option Addr} {c c2 : Nat} {ys x1 x2 bs : List UInt8}
theorem RS.row (s : RS wr e A c ys x2) : ∃ k : Nat, wr.heap[e]? = some (.cells #[.slice A ys.length c, .int .i64 (k : Int)] 29 (0, 0)) := by
  obtain ⟨k, a, _⟩ := s
  exact ⟨k, a.1⟩
theorem DMade.row_go {g : Nat} (s : DMade wr h (some g) x1) : ∃ cur, wr.heap[g]? = some (.cells cur 5 (0, 0)) := by
  obtain ⟨v, _, ⟨_, ⟨_, e, _⟩ | ⟨g', off, cap, cur, _, e, hg, _⟩⟩, _⟩ := s
  · cases e
  · cases e; exact ⟨cur, hg⟩
theorem PQ.ne (p : PQ w h e go A c ys x1 x2 wr) : h ≠ e := by
  rintro rfl
  obtain ⟨k, hk⟩ := p.r.row
  obtain ⟨v, hv, _⟩ := p.m
  rw [hk] at hv
  simp at hv
theorem PQ.ne_go (p : PQ w h e go A c ys x1 x2 wr) : go ≠ some e := by
  rintro rfl
  obtain ⟨k, hk⟩ := p.r.row
  obtain ⟨cur, hv⟩ := p.m.row_go
  rw [hk] at hv
  simp at hv
theorem PQ.ne_A (p : PQ w h e go A c ys x1 x2 wr) : ∀ g off, A = some ⟨g, off, none⟩ → ys ≠ [] → g ≠ h := by
  obtain ⟨k, ⟨_, hx, _⟩, _⟩ := p.r
  obtain ⟨v, hv, hv2⟩ := p.m
  obtain ⟨A', c', rfl⟩ := hv2.1.slice_
  exact hx.ne2 hv (by simp) (by simp)
theorem RS.keepB (s : RS w1 e A c ys x2) (hs : w1.heap.size ≤ w2.heap.size) (hh : w2.heap[e]? = w1.heap[e]?) (hk : ∀ g off, A = some ⟨g, off, none⟩ → ys ≠ [] → w2.heap[g]? = w1.heap[g]?) : RS w2 e A c ys x2 := by
  obtain ⟨k, ⟨a, hx, hl⟩, r⟩ := s
  refine ⟨k, ⟨hh.trans a, ?_, hl⟩, r⟩
  rcases hx with hx | ⟨g, off, hA, hg, hc⟩
  · exact .inl hx
  · by_cases hy : ys = []
    · exact .inl hy
    · refine .inr ⟨g, off, hA, by omega, fun j hj => ?_⟩
      rw [← hc j hj]
      have := hk g off hA hy
      simp only [World.cell?, this]
theorem PQ.lt (p : PQ w h e go A c ys x1 x2 wr) : h < wr.heap.size ∧ e < wr.heap.size ∧ ∀ g, go = some g → g < wr.heap.size := ⟨p.m.lt, p.r.lt, (DMade.st p.m).lt.2⟩
theorem PQ.below {B : Nat} (p : PQ w h e go A c ys x1 x2 w1) (hb : Below B w1 w2) (hB : w1.heap.size ≤ B) : PQ w h e go A c ys x1 x2 w2 where
  m := p.m.keep (hb.block h (by have := p.lt.1; omega)) (fun g hg => hb.block g (by have := p.lt.2.2 g hg; omega))
  r := p.r.below hb hB
  b := p.b.trans (hb.mono (by have := p.b.size; omega))
  hh := p.hh
  hg := p.hg
  he := p.he
  ha := p.ha
theorem PQ.drewN (p : PQ w h e go A c ys x1 x2 w1) (n : Nat) : PQ w h e go A c ys x1 x2 (w1.drewN n) := p.below (B := w1.heap.size) ⟨rfl, rfl, rfl, Nat.le_refl _, fun _ _ => rfl⟩ (Nat.le_refl _)
theorem PQ.prog {x1' : List UInt8} (p : PQ w h e go A c ys x1 x2 w1) (m : DMade w2 h go x1') (hg : w1.grownBy w2 (some h)) : PQ w h e go A c ys x1' x2 w2 where
  m := m
  r := p.r.keepB hg.size (hg.block e p.lt.2.1 (by intro q; injection q with q; exact p.ne (by omega))) (fun g off hA hy => hg.block g (by
    obtain ⟨k, ⟨_, hx, _⟩, _⟩ := p.r
    rcases hx with hx | ⟨g', off', hA', hlt, _⟩
    · exact absurd hx hy
    · rw [hA] at hA'; injection hA' with q; injection q with q1 q2; omega) (by intro q; injection q with q; exact p.ne_A g off hA hy (by omega)))
  b := below_grown_made p.b p.hh hg
  hh := p.hh
  hg := p.hg
  he := p.he
  ha := p.ha
theorem PQ.refr {x2' : List UInt8} (p : PQ w h e go A c ys x1 x2 w1) (r : RS w2 e A c ys x2') (hg : w1.grownBy w2 (some e)) : PQ w h e go A c ys x1 x2' w2 where
  m := p.m.keep (hg.block h p.lt.1 (by intro q; injection q with q; exact p.ne (by omega))) (fun g hgo => hg.block g (p.lt.2.2 g hgo) (by intro q; injection q with q; subst q; exact p.ne_go hgo))
  r := r
  b := below_grown_made p.b p.he hg
  hh := p.hh
  hg := p.hg
  he := p.he
  ha := p.ha
theorem DMx.made (s : DMx w1 (some ⟨h, 0, none⟩) go x1) : DMade w1 h go x1 := by
  obtain ⟨h', e, m⟩ := s
  injection e with e
  injection e with e
  subst e
  exact m
theorem DMade.mx (s : DMade w1 h go x1) : DMx w1 (some ⟨h, 0, none⟩) go x1 := ⟨h, rfl, s⟩
/-- The cell (q, i) holds u, and q is no block of the two. -/
def QC (wr : World) (h e : Nat) (go : Option Nat) (q i : Nat) (u : Value) : Prop := wr.cell? ⟨q, i, none⟩ = some u ∧ q ≠ h ∧ q ≠ e ∧ go ≠ some q
variable {q i : Nat} {u : Value}
theorem QC.prog (k : QC w1 h e go q i u) (hg : w1.grownBy w2 (some h)) : QC w2 h e go q i u := ⟨hg.cell k.1 (by have := k.2.1; simpa using this), k.2⟩
theorem QC.refr (k : QC w1 h e go q i u) (hg : w1.grownBy w2 (some e)) : QC w2 h e go q i u := ⟨hg.cell k.1 (by have := k.2.2.1; simpa using this), k.2⟩
theorem pbyte (p : PQ w h e go A c ys x1 x2 wr) : Calls Try.prog 12 #[.pointer (some ⟨h, 0, none⟩)] wr fun d w2 => d = .returned (.int .u8 ((x1.headD 0).toNat : Int)) ∧ PQ w h e go A c ys x1.tail x2 w2 := by
  refine (nbyte_anyM p.m.mx).mono ?_
  rintro d w2 ⟨rfl, s, g⟩
  exact ⟨rfl, p.prog s.made g⟩
theorem rbyte (p : PQ w h e go A c ys x1 x2 wr) : Calls Try.prog 13 #[.pointer (some ⟨e, 0, none⟩)] wr fun d w2 => d = .returned (.int .u8 ((x2.headD 0).toNat : Int)) ∧ PQ w h e go A c ys x1 x2.tail w2 := by
  refine (sbyte_any p.r).mono ?_
  rintro d w2 ⟨rfl, s, g⟩
  exact ⟨rfl, p.refr s g⟩
theorem pword (p : PQ w h e go A c ys x1 x2 wr) : Calls Try.prog 16 #[.pointer (some ⟨h, 0, none⟩)] wr fun d w2 => d = .returned (.int .u32 ((eat 4 x1).1 : Int)) ∧ PQ w h e go A c ys (eat 4 x1).2 x2 w2 := by
  refine (nword_anyM p.m.mx).mono ?_
  rintro d w2 ⟨rfl, s, g⟩
  exact ⟨rfl, p.prog s.made g⟩
theorem rword (p : PQ w h e go A c ys x1 x2 wr) : Calls Try.prog 17 #[.pointer (some ⟨e, 0, none⟩)] wr fun d w2 => d = .returned (.int .u32 ((eat 4 x2).1 : Int)) ∧ PQ w h e go A c ys x1 (eat 4 x2).2 w2 := by
  refine (sword_any p.r).mono ?_
  rintro d w2 ⟨rfl, s, g⟩
  exact ⟨rfl, p.refr s g⟩
theorem pnum (p : PQ w h e go A c ys x1 x2 wr) (n : Int) (hn : n ≤ 9223372036854775807) (k : QC wr h e go q i u) : Calls Try.prog 14 #[.pointer (some ⟨h, 0, none⟩), .int .i64 n] wr fun d w2 => d = .returned (.int .i64 ((numL n x1).1 : Int)) ∧ PQ w h e go A c ys (numL n x1).2 x2 w2 ∧ QC w2 h e go q i u := by
  refine (nnum_anyM p.m.mx n hn).mono ?_
  rintro d w2 ⟨rfl, s, g⟩
  exact ⟨rfl, p.prog s.made g, k.prog g⟩
theorem rnum (p : PQ w h e go A c ys x1 x2 wr) (n : Int) (hn : n ≤ 9223372036854775807) (k : QC wr h e go q i u) : Calls Try.prog 15 #[.pointer (some ⟨e, 0, none⟩), .int .i64 n] wr fun d w2 => d = .returned (.int .i64 ((numL n x2).1 : Int)) ∧ PQ w h e go A c ys x1 (numL n x2).2 w2 ∧ QC w2 h e go q i u := by
  refine (snum_any p.r n hn).mono ?_
  rintro d w2 ⟨rfl, s, g⟩
  exact ⟨rfl, p.refr s g, k.refr g⟩
theorem ptake (p : PQ w h e go A c ys x1 x2 wr) (n : Int) (hn : n ≤ 9223372036854775807) (hn0 : -9223372036854775808 ≤ n) (k : QC wr h e go q i u) : Calls Try.prog 18 #[.pointer (some ⟨h, 0, none⟩), .int .i64 n] wr fun d w2 =>
    (∃ v, d = .returned v ∧ w2.ownsRow wr.heap.size 5 1 v (padT (min n 1024).toNat x1).length (bcells (padT (min n 1024).toNat x1))) ∧ PQ w h e go A c ys (x1.drop (min n 1024).toNat) x2 w2 ∧ QC w2 h e go q i u := by
  refine (ntake_anyM p.m.mx n hn hn0).mono ?_
  rintro d w2 ⟨v, rfl, o, s, g⟩
  exact ⟨⟨v, rfl, o⟩, p.prog s.made g, k.prog g⟩
theorem rtake (p : PQ w h e go A c ys x1 x2 wr) (n : Int) (hn : n ≤ 9223372036854775807) (hn0 : -9223372036854775808 ≤ n) (k : QC wr h e go q i u) : Calls Try.prog 19 #[.pointer (some ⟨e, 0, none⟩), .int .i64 n] wr fun d w2 =>
    (∃ v, d = .returned v ∧ w2.ownsRow wr.heap.size 5 1 v (padT (min n 1024).toNat x2).length (bcells (padT (min n 1024).toNat x2)) ∧ wr.grownBy w2 (some e)) ∧ PQ w h e go A c ys x1 (x2.drop (min n 1024).toNat) w2 ∧ QC w2 h e go q i u := by
  refine (stake_any p.r n hn hn0).mono ?_
  rintro d w2 ⟨v, rfl, o, s, g⟩
  exact ⟨⟨v, rfl, o, g⟩, p.refr s g, k.refr g⟩
theorem pleft (p : PQ w h e go A c ys x1 x2 wr) : Calls Try.prog 23 #[.pointer (some ⟨h, 0, none⟩)] wr fun d w2 => d = .returned (.int .i64 (x1.length : Int)) ∧ PQ w h e go A c ys x1 x2 w2 := by
  refine (nleft_any (DMade.st p.m)).mono ?_
  rintro d w2 ⟨rfl, n, rfl⟩
  exact ⟨rfl, p.drewN n⟩
theorem rleft (p : PQ w h e go A c ys x1 x2 wr) : Calls Try.prog 24 #[.pointer (some ⟨e, 0, none⟩)] wr fun d w2 => d = .returned (.int .i64 (x2.length : Int)) ∧ PQ w h e go A c ys x1 x2 w2 := by
  refine (sleft_any p.r).mono ?_
  rintro d w2 ⟨rfl, n, rfl⟩
  exact ⟨rfl, p.drewN n⟩
/-- What Add of the program leaves: the error's number d. -/
theorem padd (p : PQ w h e go A c ys x1 x2 wr) (hb : bs.length ≤ 4000) (hB : BAt w w.heap.size A2 bs) (k : QC wr h e go q i u) :
    Calls Try.prog 20 #[.pointer (some ⟨h, 0, none⟩), .slice A2 bs.length c2] wr fun d w2 => ∃ go', d = .returned (.int .i64 (if x1.length + bs.length ≤ 65536 then 0 else 31)) ∧ PQ w h e go' A c ys (if x1.length + bs.length ≤ 65536 then x1 ++ bs else x1) x2 w2 ∧ QC w2 h e go' q i u := by
  by_cases hf : x1.length + bs.length ≤ 65536
  · simp only [if_pos hf]
    have hB' : BAt wr wr.heap.size A2 bs := (hB.below p.b).more p.b.size
    refine (nadd_room (c2 := c2) p.m hf hB').mono ?_
    rintro d w2 ⟨rfl, ⟨go', m, hgo⟩, t1, t2, t3, t4, t5⟩
    have hql := World.block_lt_of_cell? _ _ k.1
    have hlt := p.lt
    refine ⟨go', rfl, ⟨m, ?_, ⟨t1.trans p.b.os, t2.trans p.b.tape, t3.trans p.b.output, Nat.le_trans p.b.size t4, fun j hj => ?_⟩, p.hh, ?_, p.he, ?_⟩, ?_, k.2.1, k.2.2.1, ?_⟩
    · refine p.r.keepB t4 (t5 e hlt.2.1 (fun q => p.ne q.symm) p.ne_go) (fun g off hA hy => t5 g ?_ (p.ne_A g off hA hy) (p.ha g off hA hy))
      obtain ⟨k, ⟨_, hx, _⟩, _⟩ := p.r
      rcases hx with hx | ⟨g', off', hA', hlt, _⟩
      · exact absurd hx hy
      · rw [hA] at hA'; injection hA' with q; injection q with q1 q2; omega
    · have hs := p.b.size
      have := p.hh
      refine (t5 j (by omega) (by omega) (fun q => ?_)).trans (p.b.block j hj)
      have := p.hg j q
      omega
    · rcases hgo with rfl | hgo
      · exact p.hg
      · intro g hg
        have := hgo g hg
        have := p.b.size
        omega
    · rcases hgo with rfl | hgo
      · exact p.ha
      · intro g off hA hy hg
        have := hgo g hg
        obtain ⟨k, ⟨_, hx, _⟩, _⟩ := p.r
        rcases hx with hx | ⟨g', off', hA', hlt, _⟩
        · exact absurd hx hy
        · rw [hA] at hA'; injection hA' with q; injection q with q1 q2; omega
    · have := t5 q hql k.2.1 k.2.2.2
      rw [← k.1]
      simp only [World.cell?, this]
    · rcases hgo with rfl | hgo
      · exact k.2.2.2
      · intro hg
        have := hgo q hg
        simp only at hql
        omega
  · simp only [if_neg hf]
    refine (nadd_full (c2 := c2) (A2 := A2) p.m (by omega) (by omega)).mono ?_
    rintro d w2 ⟨rfl, n, rfl⟩
    exact ⟨go, rfl, p.drewN n, k⟩
theorem radd (p : PQ w h e go A c ys x1 x2 wr) (hb : bs.length ≤ 4000) (hy : ys.length + bs.length ≤ 900000) (hB : BAt w w.heap.size A2 bs) (k : QC wr h e go q i u) :
    Calls Try.prog 21 #[.pointer (some ⟨e, 0, none⟩), .slice A2 bs.length c2] wr fun d w2 => ∃ A' c' ys', d = .returned (.int .i64 (if x2.length + bs.length ≤ 65536 then 0 else 31)) ∧ PQ w h e go A' c' ys' x1 (if x2.length + bs.length ≤ 65536 then x2 ++ bs else x2) w2 ∧ ys'.length ≤ ys.length + bs.length ∧ QC w2 h e go q i u := by
  by_cases hf : x2.length + bs.length ≤ 65536
  · simp only [if_pos hf]
    have hB' : BAt wr wr.heap.size A2 bs := (hB.below p.b).more p.b.size
    refine (sadd_yesF (c2 := c2) p.r (by omega) hf hy hB').mono ?_
    rintro d w2 ⟨rfl, ⟨A', c', r, hA⟩, g⟩
    refine ⟨A', c', ys ++ bs, rfl, ⟨p.m.keep (g.block h p.lt.1 (by intro q; injection q with q; exact p.ne (by omega))) (fun g' hgo => g.block g' (p.lt.2.2 g' hgo) (by intro q; injection q with q; subst q; exact p.ne_go hgo)), r, below_grown_made p.b p.he g, p.hh, p.hg, p.he, ?_⟩, by rw [List.length_append]; omega, k.refr g⟩
    intro g' off hA' _ hgo
    have := hA g' off hA'
    have := p.lt.2.2 g' hgo
    omega
  · simp only [if_neg hf]
    refine (sadd_no (c2 := c2) (A2 := A2) p.r (by omega)).mono ?_
    rintro d w2 ⟨rfl, n, rfl⟩
    exact ⟨A, c, ys, rfl, p.drewN n, by omega, k⟩
/-- What Clone leaves. -/
theorem pclone (p : PQ w h e go A c ys x1 x2 wr) : Calls Try.prog 22 #[.pointer (some ⟨h, 0, none⟩)] wr fun d w2 => ∃ h' go', d = .returned (.pointer (some ⟨h', 0, none⟩)) ∧ PQ w h' e go' A c ys x1 x2 w2 ∧ DMade w2 h go x1 ∧ h' ≠ h ∧ go' ≠ some h ∧ go ≠ some h' := by
  refine (nclone_made p.m).mono ?_
  rintro d w2 ⟨h', go', rfl, m, hh, hgo, b⟩
  have q := p.below b (Nat.le_refl _)
  have hs := p.b.size
  have hl := p.lt
  refine ⟨h', go', rfl, ⟨m, q.r, q.b, by omega, fun g hg => by have := hgo g hg; omega, p.he, fun g off hA hy hg => ?_⟩, q.m, by omega, fun hg => by have := hgo h hg; omega, fun hg => by have := hl.2.2 h' hg; omega⟩
  have := hgo g hg
  obtain ⟨k, ⟨_, hx, _⟩, _⟩ := p.r
  rcases hx with hx | ⟨g', off', hA', hlt, _⟩
  · exact absurd hx hy
  · rw [hA] at hA'; injection hA' with q; injection q with q1 q2; omega
/-- Take of another source of the program leaves the two as they stand. -/
theorem potake {h' : Nat} {go' : Option Nat} {y : List UInt8} (p : PQ w h e go A c ys x1 x2 wr) (m : DMade wr h' go' y) (h1 : w.heap.size ≤ h') (h2 : h ≠ h') (h3 : go ≠ some h') (n : Int) (hn : n ≤ 9223372036854775807) (hn0 : -9223372036854775808 ≤ n) :
    Calls Try.prog 18 #[.pointer (some ⟨h', 0, none⟩), .int .i64 n] wr fun d w2 => (∃ A c l, d = .returned (.slice A l c)) ∧ PQ w h e go A c ys x1 x2 w2 := by
  refine (ntake_anyM m.mx n hn hn0).mono ?_
  rintro d w2 ⟨v, rfl, o, s, g0⟩
  have g : wr.grownBy w2 (some h') := g0
  clear g0
  obtain ⟨A', c', rfl, _⟩ := own_bat o
  have hl := p.lt
  refine ⟨⟨A', c', _, rfl⟩, ⟨p.m.keep (g.block h hl.1 (by intro q; injection q with q; exact h2 (by omega))) (fun g' hgo => g.block g' (hl.2.2 g' hgo) (by intro q; injection q with q; subst q; exact h3 hgo)), ?_, below_grown_made p.b h1 g, p.hh, p.hg, p.he, p.ha⟩⟩
  have hne : h' ≠ e := by
    rintro rfl
    obtain ⟨k, hk⟩ := p.r.row
    obtain ⟨v, hv, _⟩ := m
    rw [hk] at hv
    simp at hv
  refine p.r.keepB g.size (g.block e hl.2.1 (by intro q; injection q with q; exact hne (by omega))) (fun g' off hA hy => g.block g' ?_ ?_)
  · obtain ⟨k, ⟨_, hx, _⟩, _⟩ := p.r
    rcases hx with hx | ⟨g', off', hA', hlt, _⟩
    · exact absurd hx hy
    · rw [hA] at hA'; injection hA' with q; injection q with q1 q2; omega
  · obtain ⟨k, ⟨_, hx, _⟩, _⟩ := p.r
    obtain ⟨v, hv, hv2⟩ := m
    obtain ⟨A', c', rfl⟩ := hv2.1.slice_
    intro q
    injection q with q
    exact hx.ne2 hv (by simp) (by simp) g' off hA hy (by omega)
end
end Go.Proofs.Ytbfhfnbhfeedbaa
end
