/- Two sources, the program's and the document's, side by side. Conditions: the bytes are at most 900,000. -/
import Derived.Test.YtbfhfnbhfeedbaaDmx
namespace Go.Proofs.Ytbfhfnbhfeedbaa
set_option maxRecDepth 100000
set_option maxHeartbeats 1000000
open Go.RowKit Go.Lib Go.Great
theorem sadd_yesF {w : World} {h c c2 : Nat} {A A2 : Option Addr} {xs r bs : List UInt8} (s : RS w h A c xs r) (hb : bs.length ≤ 65536) (hb2 : r.length + bs.length ≤ 65536) (hx : xs.length + bs.length ≤ 900000) (hA : BAt w w.heap.size A2 bs) : Calls Try.prog 21 #[.pointer (some ⟨h, 0, none⟩), .slice A2 bs.length c2] w fun e w' => e = .returned (.int .i64 0) ∧ (∃ A' c', RS w' h A' c' (xs ++ bs) (r ++ bs) ∧ ∀ g off, A' = some ⟨g, off, none⟩ → w.heap.size ≤ g) ∧ w.grownBy w' (some h) := by
  have HL := Lib.hid (sleft_any s)
  have hq : ¬ (65536 : Int) < (bs.length : Int) := by omega
  have hq' : ¬ (65536 : Int) - (bs.length : Int) < (r.length : Int) := by omega
  obtain ⟨k, a, hr⟩ := s
  have HA := Lib.hid a
  have HB := Lib.hid hA
  have hlt := a.lt
  have HSZ : Hid (([] : List UInt8).length + xs.length ≤ 10000000 ∧ ([] ++ xs).length + bs.length ≤ 10000000) := Lib.hid (by simp; omega)
  obtain ⟨b, hbb⟩ : ∃ b, b = bs.length := ⟨_, rfl⟩
  have HBB := Lib.hid hbb
  have HXX := Lib.hid hx
  have HRR := Lib.hid hr
  rw [← hbb] at hq hq' ⊢
  clear a hA hr hb hb2 hx hbb
  generalize r.length = l at *
  go_enter Try.func21, Try.ntmps21
  go_upto_region 3 with (go_at_call 24; (with_reducible refine HL.out.mono ?_); rintro e w1 ⟨rfl, n1, rfl⟩)
  have hb1 : Below w.heap.size w ((w.drewN n1).alloc (.cells #[] 5)) := (show Below w.heap.size w (w.drewN n1) by first | exact (Below.refl _ w).drewN n1 | exact ⟨rfl, rfl, rfl, Nat.le_refl _, fun _ _ => rfl⟩ | exact (Below.refl _ w)).alloc (Nat.le_refl _) _
  have c0 : ((w.drewN n1).alloc (.cells #[] 5)).cell? ⟨h, 0, none⟩ = some (.slice A xs.length c) := (HA.out.below hb1 (Nat.le_refl _)).cells.1
  have HO1 : Hid (((w.drewN n1).alloc (.cells #[] 5)).ownsRow w.heap.size 5 1 (.slice (some ⟨w.heap.size, 0, none⟩) 0 0) ([] : List UInt8).length (bcells [])) := Lib.hid ⟨by simp [bcells], .inr ⟨w.heap.size, 0, #[], rfl, Nat.le_refl _, heap_alloc_new (w.drewN n1) (.cells #[] 5), Nat.le_refl _, by simp [maxLen], rfl, rfl⟩⟩
  have HB1 := Lib.hid hb1
  clear hb1
  have HG2 : Hid (∀ w2, ((w.drewN n1).alloc (.cells #[] 5)).grownBy w2 (some w.heap.size) → w.grownBy w2 (some h)) := Lib.hid (fun w2 g => grown_own (grown_of_bel HB1.out _) g (by rintro k e; injection e with e; omega))
  have HSR : Hid (∀ w2, w.grownBy w2 (some h) → Src Try.prog 1 22 (.slice A2 b c2) bs.length (bcells bs) w2) := Lib.hid (fun w2 g => by
    have := (HB.out.grown (Nat.le_refl _) g (HB.out.ne2 HA.out.1 (by simp) (by simp))).srcB c2
    rw [HBB.out]
    exact this)
  go_upto_region 4 with (first
    | (refine wpList_append_bytes rfl (.tmp 17) (.tmp 21) rfl w.heap.size (.slice (some ⟨w.heap.size, 0, none⟩) 0 0) [] rfl HO1.out _ xs rfl ((HA.out.below HB1.out (Nat.le_refl _)).2.1.srcB c) HSZ.out.1 HB1.out.size ?_; intro v2 w2 ho2 hg2)
    | (refine wpList_append_bytes rfl (.tmp 22) (.tmp 23) rfl w.heap.size v2 ([] ++ xs) rfl ho2 _ bs rfl (HSR.out _ (HG2.out _ hg2)) HSZ.out.2 (HG2.out _ hg2).size ?_; intro v3 w3 ho3 hg3; refine Hid.out ?_))
  refine Lib.hid ?_
  have g2 := HG2.out _ hg2
  have hob : ∀ k, v2.ownBlock = some k → w.heap.size ≤ k := fun k hk => (ho2.lt k hk).1
  have g3 := grown_own g2 hg3 hob
  have e3 : w3.heap[h]? = w2.heap[h]? := hg3.block h (Nat.lt_of_lt_of_le hlt g2.size) (by intro e; have := hob h (by first | exact e | exact e.symm); omega)
  have e2 : w2.heap[h]? = ((w.drewN n1).alloc (.cells #[] 5)).heap[h]? := hg2.block h (Nat.lt_of_lt_of_le hlt HB1.out.size) (by
    intro e
    have e' : some h = some w.heap.size := by first | exact e | exact e.symm
    injection e' with e'
    omega)
  have e1 := HB1.out.block h hlt
  have row := ((e3.trans e2).trans e1).trans HA.out.1
  obtain ⟨A3, c3, rfl, hbat, hge⟩ := own_bat ho3
  have cc := cell_of_row w3 h 0 _ 29 (0, 0) row
  simp at cc
  have ff := frozen_of_row w3 h 0 _ 29 row
  have HF : Hid ((∃ A' c', RS (w3.setCell ⟨h, 0, none⟩ (.slice A3 ([] ++ xs ++ bs).length c3)) h A' c' (xs ++ bs) (r ++ bs) ∧ ∀ g off, A' = some ⟨g, off, none⟩ → w.heap.size ≤ g) ∧ w.grownBy (w3.setCell ⟨h, 0, none⟩ (.slice A3 ([] ++ xs ++ bs).length c3)) (some h)) := Lib.hid (by
    refine ⟨⟨A3, c3, ⟨k, ⟨?_, ?_, ?_, ?_⟩, ?_⟩, hge⟩, grownBy_setCell g3 _ _⟩
    · have s0 := heap_setCell_same w3 h 0 _ 29 (.slice A3 ([] ++ xs ++ bs).length c3) row
      simpa using s0
    · have := hbat.set (g := h) (j := 0) (.slice A3 ([] ++ xs ++ bs).length c3) (fun g' off e _ => by have := hge g' off e; omega)
      simpa [World.setCell] using this
    · have := HA.out.2.2.1; rw [List.length_append]; omega
    · rw [List.length_append]; exact HXX.out
    · rw [HRR.out, List.drop_append_of_le_length HA.out.2.2.1])
  clear g2 g3 e1 e2 e3 hbat hge ho3 ho2 hg2 hg3 row hob HA HB HB1 HG2 HSR HO1 c0
  generalize ([] ++ xs ++ bs).length = L3 at *
  go_wp2
  go_ret
  exact ⟨rfl, HF.out⟩
/-- The program's source at h (x1 is left) and the document's at e (x2 is left of ys), in a world that keeps what stood in w. -/
structure PQ (w : World) (h e : Nat) (go : Option Nat) (A : Option Addr) (c : Nat) (ys x1 x2 : List UInt8) (wr : World) : Prop where
  m : DMade wr h go x1
  r : RS wr e A c ys x2
  b : Below w.heap.size w wr
  hh : w.heap.size ≤ h
  hg : ∀ g, go = some g → w.heap.size ≤ g
  he : w.heap.size ≤ e
  ha : ∀ g off, A = some ⟨g, off, none⟩ → ys ≠ [] → go ≠ some g
section
variable {w wr w1 w2 : World} {h e : Nat} {go : Option Nat} {A A2 : Option Addr} {c c2 : Nat} {ys x1 x2 bs : List UInt8}
theorem RS.row (s : RS wr e A c ys x2) : ∃ k : Nat, wr.heap[e]? = some (.cells #[.slice A ys.length c, .int .i64 (k : Int)] 29 (0, 0)) := by
  obtain ⟨k, a, _⟩ := s
  exact ⟨k, a.1⟩
theorem DMade.row_go {g : Nat} (s : DMade wr h (some g) x1) : ∃ cur, wr.heap[g]? = some (.cells cur 5 (0, 0)) := by
  obtain ⟨v, _, ⟨_, ⟨_, e, _⟩ | ⟨g', off, cap, cur, _, e, hg, _⟩⟩, _⟩ := s
  · cases e
  · cases e; exact ⟨cur, hg⟩
theorem PQ.ne (p : PQ w h e go A c ys x1 x2 wr) : h ≠ e := by
  rintro rfl
  obtain ⟨k, hk⟩ := p.r.row
  obtain ⟨v, hv, _⟩ := p.m
  rw [hk] at hv
  simp at hv
theorem PQ.ne_go (p : PQ w h e go A c ys x1 x2 wr) : go ≠ some e := by
  rintro rfl
  obtain ⟨k, hk⟩ := p.r.row
  obtain ⟨cur, hv⟩ := p.m.row_go
  rw [hk] at hv
  simp at hv
theorem PQ.ne_A (p : PQ w h e go A c ys x1 x2 wr) : ∀ g off, A = some ⟨g, off, none⟩ → ys ≠ [] → g ≠ h := by
  obtain ⟨k, ⟨_, hx, _⟩, _⟩ := p.r
  obtain ⟨v, hv, hv2⟩ := p.m
  obtain ⟨A', c', rfl⟩ := hv2.1.slice_
  exact hx.ne2 hv (by simp) (by simp)
theorem RS.keepB (s : RS w1 e A c ys x2) (hs : w1.heap.size ≤ w2.heap.size) (hh : w2.heap[e]? = w1.heap[e]?) (hk : ∀ g off, A = some ⟨g, off, none⟩ → ys ≠ [] → w2.heap[g]? = w1.heap[g]?) : RS w2 e A c ys x2 := by
  obtain ⟨k, ⟨a, hx, hl⟩, r⟩ := s
  refine ⟨k, ⟨hh.trans a, ?_, hl⟩, r⟩
  rcases hx with hx | ⟨g, off, hA, hg, hc⟩
  · exact .inl hx
  · by_cases hy : ys = []
    · exact .inl hy
    · refine .inr ⟨g, off, hA, by omega, fun j hj => ?_⟩
      rw [← hc j hj]
      have := hk g off hA hy
      simp only [World.cell?, this]
theorem PQ.lt (p : PQ w h e go A c ys x1 x2 wr) : h < wr.heap.size ∧ e < wr.heap.size ∧ ∀ g, go = some g → g < wr.heap.size := ⟨p.m.lt, p.r.lt, (DMade.st p.m).lt.2⟩
theorem PQ.below {B : Nat} (p : PQ w h e go A c ys x1 x2 w1) (hb : Below B w1 w2) (hB : w1.heap.size ≤ B) : PQ w h e go A c ys x1 x2 w2 where
  m := p.m.keep (hb.block h (by have := p.lt.1; omega)) (fun g hg => hb.block g (by have := p.lt.2.2 g hg; omega))
  r := p.r.below hb hB
  b := p.b.trans (hb.mono (by have := p.b.size; omega))
  hh := p.hh
  hg := p.hg
  he := p.he
  ha := p.ha
theorem PQ.drewN (p : PQ w h e go A c ys x1 x2 w1) (n : Nat) : PQ w h e go A c ys x1 x2 (w1.drewN n) := p.below (B := w1.heap.size) ⟨rfl, rfl, rfl, Nat.le_refl _, fun _ _ => rfl⟩ (Nat.le_refl _)
theorem PQ.prog {x1' : List UInt8} (p : PQ w h e go A c ys x1 x2 w1) (m : DMade w2 h go x1') (hg : w1.grownBy w2 (some h)) : PQ w h e go A c ys x1' x2 w2 where
  m := m
  r := p.r.keepB hg.size (hg.block e p.lt.2.1 (by intro q; injection q with q; exact p.ne (by omega))) (fun g off hA hy => hg.block g (by
    obtain ⟨k, ⟨_, hx, _⟩, _⟩ := p.r
    rcases hx with hx | ⟨g', off', hA', hlt, _⟩
    · exact absurd hx hy
    · rw [hA] at hA'; injection hA' with q; injection q with q1 q2; omega) (by intro q; injection q with q; exact p.ne_A g off hA hy (by omega)))
  b := below_grown_made p.b p.hh hg
  hh := p.hh
  hg := p.hg
  he := p.he
  ha := p.ha
theorem PQ.refr {x2' : List UInt8} (p : PQ w h e go A c ys x1 x2 w1) (r : RS w2 e A c ys x2') (hg : w1.grownBy w2 (some e)) : PQ w h e go A c ys x1 x2' w2 where
  m := p.m.keep (hg.block h p.lt.1 (by intro q; injection q with q; exact p.ne (by omega))) (fun g hgo => hg.block g (p.lt.2.2 g hgo) (by intro q; injection q with q; subst q; exact p.ne_go hgo))
  r := r
  b := below_grown_made p.b p.he hg
  hh := p.hh
  hg := p.hg
  he := p.he
  ha := p.ha
theorem DMx.made (s : DMx w1 (some ⟨h, 0, none⟩) go x1) : DMade w1 h go x1 := by
  obtain ⟨h', e, m⟩ := s
  injection e with e
  injection e with e
  subst e
  exact m
theorem DMade.mx (s : DMade w1 h go x1) : DMx w1 (some ⟨h, 0, none⟩) go x1 := ⟨h, rfl, s⟩
/-- The cell (q, i) holds u, and q is no block of the two. -/
def QC (wr : World) (h e : Nat) (go : Option Nat) (q i : Nat) (u : Value) : Prop := wr.cell? ⟨q, i, none⟩ = some u ∧ q ≠ h ∧ q ≠ e ∧ go ≠ some q
variable {q i : Nat} {u : Value}
theorem QC.prog (k : QC w1 h e go q i u) (hg : w1.grownBy w2 (some h)) : QC w2 h e go q i u := ⟨hg.cell k.1 (by have := k.2.1; simpa using this), k.2⟩
theorem QC.refr (k : QC w1 h e go q i u) (hg : w1.grownBy w2 (some e)) : QC w2 h e go q i u := ⟨hg.cell k.1 (by have := k.2.2.1; simpa using this), k.2⟩
theorem pbyte (p : PQ w h e go A c ys x1 x2 wr) : Calls Try.prog 12 #[.pointer (some ⟨h, 0, none⟩)] wr fun d w2 => d = .returned (.int .u8 ((x1.headD 0).toNat : Int)) ∧ PQ w h e go A c ys x1.tail x2 w2 := by
  refine (nbyte_anyM p.m.mx).mono ?_
  rintro d w2 ⟨rfl, s, g⟩
  exact ⟨rfl, p.prog s.made g⟩
theorem rbyte (p : PQ w h e go A c ys x1 x2 wr) : Calls Try.prog 13 #[.pointer (some ⟨e, 0, none⟩)] wr fun d w2 => d = .returned (.int .u8 ((x2.headD 0).toNat : Int)) ∧ PQ w h e go A c ys x1 x2.tail w2 := by
  refine (sbyte_any p.r).mono ?_
  rintro d w2 ⟨rfl, s, g⟩
  exact ⟨rfl, p.refr s g⟩
theorem pword (p : PQ w h e go A c ys x1 x2 wr) : Calls Try.prog 16 #[.pointer (some ⟨h, 0, none⟩)] wr fun d w2 => d = .returned (.int .u32 ((eat 4 x1).1 : Int)) ∧ PQ w h e go A c ys (eat 4 x1).2 x2 w2 := by
  refine (nword_anyM p.m.mx).mono ?_
  rintro d w2 ⟨rfl, s, g⟩
  exact ⟨rfl, p.prog s.made g⟩
theorem rword (p : PQ w h e go A c ys x1 x2 wr) : Calls Try.prog 17 #[.pointer (some ⟨e, 0, none⟩)] wr fun d w2 => d = .returned (.int .u32 ((eat 4 x2).1 : Int)) ∧ PQ w h e go A c ys x1 (eat 4 x2).2 w2 := by
  refine (sword_any p.r).mono ?_
  rintro d w2 ⟨rfl, s, g⟩
  exact ⟨rfl, p.refr s g⟩
theorem pnum (p : PQ w h e go A c ys x1 x2 wr) (n : Int) (hn : n ≤ 9223372036854775807) (k : QC wr h e go q i u) : Calls Try.prog 14 #[.pointer (some ⟨h, 0, none⟩), .int .i64 n] wr fun d w2 => d = .returned (.int .i64 ((numL n x1).1 : Int)) ∧ PQ w h e go A c ys (numL n x1).2 x2 w2 ∧ QC w2 h e go q i u := by
  refine (nnum_anyM p.m.mx n hn).mono ?_
  rintro d w2 ⟨rfl, s, g⟩
  exact ⟨rfl, p.prog s.made g, k.prog g⟩
theorem rnum (p : PQ w h e go A c ys x1 x2 wr) (n : Int) (hn : n ≤ 9223372036854775807) (k : QC wr h e go q i u) : Calls Try.prog 15 #[.pointer (some ⟨e, 0, none⟩), .int .i64 n] wr fun d w2 => d = .returned (.int .i64 ((numL n x2).1 : Int)) ∧ PQ w h e go A c ys x1 (numL n x2).2 w2 ∧ QC w2 h e go q i u := by
  refine (snum_any p.r n hn).mono ?_
  rintro d w2 ⟨rfl, s, g⟩
  exact ⟨rfl, p.refr s g, k.refr g⟩
theorem ptake (p : PQ w h e go A c ys x1 x2 wr) (n : Int) (hn : n ≤ 9223372036854775807) (hn0 : -9223372036854775808 ≤ n) (k : QC wr h e go q i u) : Calls Try.prog 18 #[.pointer (some ⟨h, 0, none⟩), .int .i64 n] wr fun d w2 =>
    (∃ v, d = .returned v ∧ w2.ownsRow wr.heap.size 5 1 v (padT (min n 1024).toNat x1).length (bcells (padT (min n 1024).toNat x1))) ∧ PQ w h e go A c ys (x1.drop (min n 1024).toNat) x2 w2 ∧ QC w2 h e go q i u := by
  refine (ntake_anyM p.m.mx n hn hn0).mono ?_
  rintro d w2 ⟨v, rfl, o, s, g⟩
  exact ⟨⟨v, rfl, o⟩, p.prog s.made g, k.prog g⟩
theorem rtake (p : PQ w h e go A c ys x1 x2 wr) (n : Int) (hn : n ≤ 9223372036854775807) (hn0 : -9223372036854775808 ≤ n) (k : QC wr h e go q i u) : Calls Try.prog 19 #[.pointer (some ⟨e, 0, none⟩), .int .i64 n] wr fun d w2 =>
    (∃ v, d = .returned v ∧ w2.ownsRow wr.heap.size 5 1 v (padT (min n 1024).toNat x2).length (bcells (padT (min n 1024).toNat x2)) ∧ wr.grownBy w2 (some e)) ∧ PQ w h e go A c ys x1 (x2.drop (min n 1024).toNat) w2 ∧ QC w2 h e go q i u := by
  refine (stake_any p.r n hn hn0).mono ?_
  rintro d w2 ⟨v, rfl, o, s, g⟩
  exact ⟨⟨v, rfl, o, g⟩, p.refr s g, k.refr g⟩
theorem pleft (p : PQ w h e go A c ys x1 x2 wr) : Calls Try.prog 23 #[.pointer (some ⟨h, 0, none⟩)] wr fun d w2 => d = .returned (.int .i64 (x1.length : Int)) ∧ PQ w h e go A c ys x1 x2 w2 := by
  refine (nleft_any (DMade.st p.m)).mono ?_
  rintro d w2 ⟨rfl, n, rfl⟩
  exact ⟨rfl, p.drewN n⟩
theorem rleft (p : PQ w h e go A c ys x1 x2 wr) : Calls Try.prog 24 #[.pointer (some ⟨e, 0, none⟩)] wr fun d w2 => d = .returned (.int .i64 (x2.length : Int)) ∧ PQ w h e go A c ys x1 x2 w2 := by
  refine (sleft_any p.r).mono ?_
  rintro d w2 ⟨rfl, n, rfl⟩
  exact ⟨rfl, p.drewN n⟩
/-- What Add of the program leaves: the error's number d. -/
theorem padd (p : PQ w h e go A c ys x1 x2 wr) (hb : bs.length ≤ 4000) (hB : BAt w w.heap.size A2 bs) (k : QC wr h e go q i u) :
    Calls Try.prog 20 #[.pointer (some ⟨h, 0, none⟩), .slice A2 bs.length c2] wr fun d w2 => ∃ go', d = .returned (.int .i64 (if x1.length + bs.length ≤ 65536 then 0 else 31)) ∧ PQ w h e go' A c ys (if x1.length + bs.length ≤ 65536 then x1 ++ bs else x1) x2 w2 ∧ QC w2 h e go' q i u := by
  by_cases hf : x1.length + bs.length ≤ 65536
  · simp only [if_pos hf]
    have hB' : BAt wr wr.heap.size A2 bs := (hB.below p.b).more p.b.size
    refine (nadd_room (c2 := c2) p.m hf hB').mono ?_
    rintro d w2 ⟨rfl, ⟨go', m, hgo⟩, t1, t2, t3, t4, t5⟩
    have hql := World.block_lt_of_cell? _ _ k.1
    have hlt := p.lt
    refine ⟨go', rfl, ⟨m, ?_, ⟨t1.trans p.b.os, t2.trans p.b.tape, t3.trans p.b.output, Nat.le_trans p.b.size t4, fun j hj => ?_⟩, p.hh, ?_, p.he, ?_⟩, ?_, k.2.1, k.2.2.1, ?_⟩
    · refine p.r.keepB t4 (t5 e hlt.2.1 (fun q => p.ne q.symm) p.ne_go) (fun g off hA hy => t5 g ?_ (p.ne_A g off hA hy) (p.ha g off hA hy))
      obtain ⟨k, ⟨_, hx, _⟩, _⟩ := p.r
      rcases hx with hx | ⟨g', off', hA', hlt, _⟩
      · exact absurd hx hy
      · rw [hA] at hA'; injection hA' with q; injection q with q1 q2; omega
    · have hs := p.b.size
      have := p.hh
      refine (t5 j (by omega) (by omega) (fun q => ?_)).trans (p.b.block j hj)
      have := p.hg j q
      omega
    · rcases hgo with rfl | hgo
      · exact p.hg
      · intro g hg
        have := hgo g hg
        have := p.b.size
        omega
    · rcases hgo with rfl | hgo
      · exact p.ha
      · intro g off hA hy hg
        have := hgo g hg
        obtain ⟨k, ⟨_, hx, _⟩, _⟩ := p.r
        rcases hx with hx | ⟨g', off', hA', hlt, _⟩
        · exact absurd hx hy
        · rw [hA] at hA'; injection hA' with q; injection q with q1 q2; omega
    · have := t5 q hql k.2.1 k.2.2.2
      rw [← k.1]
      simp only [World.cell?, this]
    · rcases hgo with rfl | hgo
      · exact k.2.2.2
      · intro hg
        have := hgo q hg
        simp only at hql
        omega
  · simp only [if_neg hf]
    refine (nadd_full (c2 := c2) (A2 := A2) p.m (by omega) (by omega)).mono ?_
    rintro d w2 ⟨rfl, n, rfl⟩
    exact ⟨go, rfl, p.drewN n, k⟩
theorem radd (p : PQ w h e go A c ys x1 x2 wr) (hb : bs.length ≤ 4000) (hy : ys.length + bs.length ≤ 900000) (hB : BAt w w.heap.size A2 bs) (k : QC wr h e go q i u) :
    Calls Try.prog 21 #[.pointer (some ⟨e, 0, none⟩), .slice A2 bs.length c2] wr fun d w2 => ∃ A' c' ys', d = .returned (.int .i64 (if x2.length + bs.length ≤ 65536 then 0 else 31)) ∧ PQ w h e go A' c' ys' x1 (if x2.length + bs.length ≤ 65536 then x2 ++ bs else x2) w2 ∧ ys'.length ≤ ys.length + bs.length ∧ QC w2 h e go q i u := by
  by_cases hf : x2.length + bs.length ≤ 65536
  · simp only [if_pos hf]
    have hB' : BAt wr wr.heap.size A2 bs := (hB.below p.b).more p.b.size
    refine (sadd_yesF (c2 := c2) p.r (by omega) hf hy hB').mono ?_
    rintro d w2 ⟨rfl, ⟨A', c', r, hA⟩, g⟩
    refine ⟨A', c', ys ++ bs, rfl, ⟨p.m.keep (g.block h p.lt.1 (by intro q; injection q with q; exact p.ne (by omega))) (fun g' hgo => g.block g' (p.lt.2.2 g' hgo) (by intro q; injection q with q; subst q; exact p.ne_go hgo)), r, below_grown_made p.b p.he g, p.hh, p.hg, p.he, ?_⟩, by rw [List.length_append]; omega, k.refr g⟩
    intro g' off hA' _ hgo
    have := hA g' off hA'
    have := p.lt.2.2 g' hgo
    omega
  · simp only [if_neg hf]
    refine (sadd_no (c2 := c2) (A2 := A2) p.r (by omega)).mono ?_
    rintro d w2 ⟨rfl, n, rfl⟩
    exact ⟨A, c, ys, rfl, p.drewN n, by omega, k⟩
/-- What Clone leaves. -/
theorem pclone (p : PQ w h e go A c ys x1 x2 wr) : Calls Try.prog 22 #[.pointer (some ⟨h, 0, none⟩)] wr fun d w2 => ∃ h' go', d = .returned (.pointer (some ⟨h', 0, none⟩)) ∧ PQ w h' e go' A c ys x1 x2 w2 ∧ DMade w2 h go x1 ∧ h' ≠ h ∧ go' ≠ some h ∧ go ≠ some h' := by
  refine (nclone_made p.m).mono ?_
  rintro d w2 ⟨h', go', rfl, m, hh, hgo, b⟩
  have q := p.below b (Nat.le_refl _)
  have hs := p.b.size
  have hl := p.lt
  refine ⟨h', go', rfl, ⟨m, q.r, q.b, by omega, fun g hg => by have := hgo g hg; omega, p.he, fun g off hA hy hg => ?_⟩, q.m, by omega, fun hg => by have := hgo h hg; omega, fun hg => by have := hl.2.2 h' hg; omega⟩
  have := hgo g hg
  obtain ⟨k, ⟨_, hx, _⟩, _⟩ := p.r
  rcases hx with hx | ⟨g', off', hA', hlt, _⟩
  · exact absurd hx hy
  · rw [hA] at hA'; injection hA' with q; injection q with q1 q2; omega
/-- Take of another source of the program leaves the two as they stand. -/
theorem potake {h' : Nat} {go' : Option Nat} {y : List UInt8} (p : PQ w h e go A c ys x1 x2 wr) (m : DMade wr h' go' y) (h1 : w.heap.size ≤ h') (h2 : h ≠ h') (h3 : go ≠ some h') (n : Int) (hn : n ≤ 9223372036854775807) (hn0 : -9223372036854775808 ≤ n) :
    Calls Try.prog 18 #[.pointer (some ⟨h', 0, none⟩), .int .i64 n] wr fun d w2 => (∃ A c l, d = .returned (.slice A l c)) ∧ PQ w h e go A c ys x1 x2 w2 := by
  refine (ntake_anyM m.mx n hn hn0).mono ?_
  rintro d w2 ⟨v, rfl, o, s, g0⟩
  have g : wr.grownBy w2 (some h') := g0
  clear g0
  obtain ⟨A', c', rfl, _⟩ := own_bat o
  have hl := p.lt
  refine ⟨⟨A', c', _, rfl⟩, ⟨p.m.keep (g.block h hl.1 (by intro q; injection q with q; exact h2 (by omega))) (fun g' hgo => g.block g' (hl.2.2 g' hgo) (by intro q; injection q with q; subst q; exact h3 hgo)), ?_, below_grown_made p.b h1 g, p.hh, p.hg, p.he, p.ha⟩⟩
  have hne : h' ≠ e := by
    rintro rfl
    obtain ⟨k, hk⟩ := p.r.row
    obtain ⟨v, hv, _⟩ := m
    rw [hk] at hv
    simp at hv
  refine p.r.keepB g.size (g.block e hl.2.1 (by intro q; injection q with q; exact hne (by omega))) (fun g' off hA hy => g.block g' ?_ ?_)
  · obtain ⟨k, ⟨_, hx, _⟩, _⟩ := p.r
    rcases hx with hx | ⟨g', off', hA', hlt, _⟩
    · exact absurd hx hy
    · rw [hA] at hA'; injection hA' with q; injection q with q1 q2; omega
  · obtain ⟨k, ⟨_, hx, _⟩, _⟩ := p.r
    obtain ⟨v, hv, hv2⟩ := m
    obtain ⟨A', c', rfl⟩ := hv2.1.slice_
    intro q
    injection q with q
    exact hx.ne2 hv (by simp) (by simp) g' off hA hy (by omega)
end
end Go.Proofs.Ytbfhfnbhfeedbaa
