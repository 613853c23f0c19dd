/- Contract of the source of the reference (layer 7): Add. Conditions: the bytes are at most 900,000. -/
import Derived.Test.YtbfhfnbhfeedbaaPDre
namespace Go.Proofs.Ytbfhfnbhfeedbaa
set_option maxRecDepth 100000
set_option maxHeartbeats 1000000
open Go.RowKit Go.Lib Go.Great
theorem BAt.srcB {w : World} {B : Nat} {A : Option Addr} {xs : List UInt8} (h : BAt w B A xs) (c : Nat) : Src Try.prog 1 22 (.slice A xs.length c) xs.length (bcells xs) w := by
  cases A with
  | none =>
    obtain rfl : xs = [] := by
      rcases h with e | ⟨g, off, e, _⟩
      · exact e
      · cases e
    exact Src.ofNil w undBs c
  | some a =>
    refine Src.ofSlice w undBs a xs.length c (bcells xs) (by simp [bcells]) (fun j u hu => ?_) (bcells_oneC xs)
    rcases h with rfl | ⟨g, off, ha, hg, hc⟩
    · simp [bcells] at hu
    · injection ha with ha
      subst ha
      have hj : j < xs.length := by
        have := (List.getElem?_eq_some_iff.1 hu).1
        simpa [bcells] using this
      simp only [bcells, List.getElem?_map, List.getElem?_eq_getElem hj, Option.map_some, Option.some.injEq] at hu
      subst hu
      rw [Addr.add_mid]
      exact hc j hj
theorem own_bat {base n : Nat} {v : Value} {xs : List UInt8} {W : World} (h : W.ownsRow base 5 1 v n (bcells xs)) : ∃ A c, v = .slice A xs.length c ∧ BAt W W.heap.size A xs ∧ (∀ g off, A = some ⟨g, off, none⟩ → base ≤ g) := by
  have hl := h.1
  rw [show (bcells xs).length = xs.length from by simp [bcells], Nat.mul_one] at hl
  rcases h.2 with ⟨rfl, h0⟩ | ⟨g, cap, cur, rfl, hb, hg, hc, _⟩
  · have hL : xs = [] := List.eq_nil_of_length_eq_zero (by omega)
    subst hL
    exact ⟨none, 0, rfl, .inl rfl, fun _ _ e => by cases e⟩
  · refine ⟨some ⟨g, 0, none⟩, cap, by rw [hl], .inr ⟨g, 0, rfl, (Array.getElem?_eq_some_iff.1 hg).1, fun j hj => ?_⟩, fun g' off e => by injection e with e; injection e with e1 e2; omega⟩
    have := h.cells (g := g) rfl j (.int .u8 (xs[j].toNat : Int)) (by simp [bcells, List.getElem?_map, List.getElem?_eq_getElem hj])
    rwa [Addr.add_mid] at this
section
variable {w w' w2 w3 : World} {h : Nat} {A A2 : Option Addr} {c c2 : Nat} {xs r bs : List UInt8}
theorem sadd_no (s : RS w h A c xs r) (hb : 65536 < bs.length ∨ 65536 < r.length + bs.length) : Calls Try.prog 21 #[.pointer (some ⟨h, 0, none⟩), .slice A2 bs.length c2] w fun e w' => e = .returned (.int .i64 31) ∧ ∃ n, w' = w.drewN n := by
  have HL := Lib.hid (sleft_any s)
  have hr : r.length ≤ 900000 := by obtain ⟨k, a, rfl⟩ := s; have := a.2.2.2; rw [List.length_drop]; omega
  have hq : (65536 : Int) < (bs.length : Int) ∨ (¬ (65536 : Int) < (bs.length : Int) ∧ (65536 : Int) - (bs.length : Int) < (r.length : Int)) := by omega
  clear s hb
  generalize bs.length = b at *
  generalize r.length = l at *
  rcases hq with q | ⟨q, q'⟩
  · go_enter Try.func21, Try.ntmps21
    go_wp2
    go_ret
    exact ⟨rfl, 0, rfl⟩
  · go_enter Try.func21, Try.ntmps21
    go_wp2_with (go_at_call 24; (with_reducible refine HL.out.mono ?_); rintro e w1 ⟨rfl, n1, rfl⟩)
    go_ret
    exact ⟨rfl, n1, rfl⟩
theorem sadd_yes (s : RS w h A c xs r) (hb : bs.length ≤ 65536) (hb2 : r.length + bs.length ≤ 65536) (hx : xs.length + bs.length ≤ 900000) (hA : BAt w w.heap.size A2 bs) : Calls Try.prog 21 #[.pointer (some ⟨h, 0, none⟩), .slice A2 bs.length c2] w fun e w' => e = .returned (.int .i64 0) ∧ (∃ A' c', RS w' h A' c' (xs ++ bs) (r ++ bs)) ∧ w.grownBy w' (some h) := by
  have HL := Lib.hid (sleft_any s)
  have hq : ¬ (65536 : Int) < (bs.length : Int) := by omega
  have hq' : ¬ (65536 : Int) - (bs.length : Int) < (r.length : Int) := by omega
  obtain ⟨k, a, hr⟩ := s
  have HA := Lib.hid a
  have HB := Lib.hid hA
  have hlt := a.lt
  have HSZ : Hid (([] : List UInt8).length + xs.length ≤ 10000000 ∧ ([] ++ xs).length + bs.length ≤ 10000000) := Lib.hid (by simp; omega)
  obtain ⟨b, hbb⟩ : ∃ b, b = bs.length := ⟨_, rfl⟩
  have HBB := Lib.hid hbb
  have HXX := Lib.hid hx
  have HRR := Lib.hid hr
  rw [← hbb] at hq hq' ⊢
  clear a hA hr hb hb2 hx hbb
  generalize r.length = l at *
  go_enter Try.func21, Try.ntmps21
  go_upto_region 3 with (go_at_call 24; (with_reducible refine HL.out.mono ?_); rintro e w1 ⟨rfl, n1, rfl⟩)
  have hb1 : Below w.heap.size w ((w.drewN n1).alloc (.cells #[] 5)) := (show Below w.heap.size w (w.drewN n1) by first | exact (Below.refl _ w).drewN n1 | exact ⟨rfl, rfl, rfl, Nat.le_refl _, fun _ _ => rfl⟩ | exact (Below.refl _ w)).alloc (Nat.le_refl _) _
  have c0 : ((w.drewN n1).alloc (.cells #[] 5)).cell? ⟨h, 0, none⟩ = some (.slice A xs.length c) := (HA.out.below hb1 (Nat.le_refl _)).cells.1
  have HO1 : Hid (((w.drewN n1).alloc (.cells #[] 5)).ownsRow w.heap.size 5 1 (.slice (some ⟨w.heap.size, 0, none⟩) 0 0) ([] : List UInt8).length (bcells [])) := Lib.hid ⟨by simp [bcells], .inr ⟨w.heap.size, 0, #[], rfl, Nat.le_refl _, heap_alloc_new (w.drewN n1) (.cells #[] 5), Nat.le_refl _, by simp [maxLen], rfl, rfl⟩⟩
  have HB1 := Lib.hid hb1
  clear hb1
  have HG2 : Hid (∀ w2, ((w.drewN n1).alloc (.cells #[] 5)).grownBy w2 (some w.heap.size) → w.grownBy w2 (some h)) := Lib.hid (fun w2 g => grown_own (grown_of_bel HB1.out _) g (by rintro k e; injection e with e; omega))
  have HSR : Hid (∀ w2, w.grownBy w2 (some h) → Src Try.prog 1 22 (.slice A2 b c2) bs.length (bcells bs) w2) := Lib.hid (fun w2 g => by
    have := (HB.out.grown (Nat.le_refl _) g (HB.out.ne2 HA.out.1 (by simp) (by simp))).srcB c2
    rw [HBB.out]
    exact this)
  go_upto_region 4 with (first
    | (refine wpList_append_bytes rfl (.tmp 17) (.tmp 21) rfl w.heap.size (.slice (some ⟨w.heap.size, 0, none⟩) 0 0) [] rfl HO1.out _ xs rfl ((HA.out.below HB1.out (Nat.le_refl _)).2.1.srcB c) HSZ.out.1 HB1.out.size ?_; intro v2 w2 ho2 hg2)
    | (refine wpList_append_bytes rfl (.tmp 22) (.tmp 23) rfl w.heap.size v2 ([] ++ xs) rfl ho2 _ bs rfl (HSR.out _ (HG2.out _ hg2)) HSZ.out.2 (HG2.out _ hg2).size ?_; intro v3 w3 ho3 hg3; refine Hid.out ?_))
  refine Lib.hid ?_
  have g2 := HG2.out _ hg2
  have hob : ∀ k, v2.ownBlock = some k → w.heap.size ≤ k := fun k hk => (ho2.lt k hk).1
  have g3 := grown_own g2 hg3 hob
  have e3 : w3.heap[h]? = w2.heap[h]? := hg3.block h (Nat.lt_of_lt_of_le hlt g2.size) (by intro e; have := hob h (by first | exact e | exact e.symm); omega)
  have e2 : w2.heap[h]? = ((w.drewN n1).alloc (.cells #[] 5)).heap[h]? := hg2.block h (Nat.lt_of_lt_of_le hlt HB1.out.size) (by
    intro e
    have e' : some h = some w.heap.size := by first | exact e | exact e.symm
    injection e' with e'
    omega)
  have e1 := HB1.out.block h hlt
  have row := ((e3.trans e2).trans e1).trans HA.out.1
  obtain ⟨A3, c3, rfl, hbat, hge⟩ := own_bat ho3
  have cc := cell_of_row w3 h 0 _ 29 (0, 0) row
  simp at cc
  have ff := frozen_of_row w3 h 0 _ 29 row
  have HF : Hid ((∃ A' c', RS (w3.setCell ⟨h, 0, none⟩ (.slice A3 ([] ++ xs ++ bs).length c3)) h A' c' (xs ++ bs) (r ++ bs)) ∧ w.grownBy (w3.setCell ⟨h, 0, none⟩ (.slice A3 ([] ++ xs ++ bs).length c3)) (some h)) := Lib.hid (by
    refine ⟨⟨A3, c3, k, ⟨?_, ?_, ?_, ?_⟩, ?_⟩, grownBy_setCell g3 _ _⟩
    · have s0 := heap_setCell_same w3 h 0 _ 29 (.slice A3 ([] ++ xs ++ bs).length c3) row
      simpa using s0
    · have := hbat.set (g := h) (j := 0) (.slice A3 ([] ++ xs ++ bs).length c3) (fun g' off e _ => by have := hge g' off e; omega)
      simpa [World.setCell] using this
    · have := HA.out.2.2.1; rw [List.length_append]; omega
    · rw [List.length_append]; exact HXX.out
    · rw [HRR.out, List.drop_append_of_le_length HA.out.2.2.1])
  clear g2 g3 e1 e2 e3 hbat hge ho3 ho2 hg2 hg3 row hob HA HB HB1 HG2 HSR HO1 c0
  generalize ([] ++ xs ++ bs).length = L3 at *
  go_wp2
  go_ret
  exact ⟨rfl, HF.out⟩
end
end Go.Proofs.Ytbfhfnbhfeedbaa
