/- The closure of Bytes of package inst. No condition. Bytes of package inst. Conditions: targets of at most 100,000 bytes. What a read that fails leaves of a roster: plain. No condition. What putting instances one by one leaves: plain. No condition. Merge of the program. Conditions: at most 10,000 instances each, targets of at most 100,000 bytes. Light of the statements. Condition: a length that an int holds. Bytes of the reference of layer inst. Conditions: targets of at most 100,000 bytes. Walk of RosterMerges. Condition: lengths that an int holds. Rows that grow; with of the reference, plain. No condition. -/
import Derived.Test.YtehgpnnfjgmiiaaGreatProg
import Derived.Test.YtehgpnnfjgmiiaaGreatVKCrd
import Derived.Test.YtehgpnnfjgmiiaaGreatVIie
import Derived.Test.YtehgpnnfjgmiiaaGreatVJLra
import Derived.Test.YtehgpnnfjgmiiaaGreatVObc
import Derived.Test.YtehgpnnfjgmiiaaGreatVJPWords
section
namespace Go.Proofs.YtehgpnnfjgmiiaaGreat
open Go.Shelf Go.RowKit Go.Lib Go.Great
set_option maxRecDepth 100000
set_option maxHeartbeats 1000000
/-- While Bytes runs: the instance's block, and that of the bytes so far. -/
structure BYW (w : World) (i : Ins) (p : Nat) (xs : List UInt8) (W : World) : Prop where
  h1 : W.heap[w.heap.size]? = some (.cells (encI i).toArray 79 (0, 0))
  h2 : ∃ A c, W.heap[p]? = some (.cells #[.slice A xs.length c] 31 (0, 0)) ∧ BAt W W.heap.size A xs ∧ xs.length ≤ c
  be : Below w.heap.size w W
  hp : w.heap.size < p
theorem BYW.bel {w W W' : World} {i : Ins} {p : Nat} {xs : List UInt8} (r : BYW w i p xs W) (hb : Below W.heap.size W W') : BYW w i p xs W' := by
  obtain ⟨h1, ⟨A, c, h2, h3, h4⟩, h5, h6⟩ := r
  exact ⟨(hb.block _ (Array.getElem?_eq_some_iff.1 h1).1).trans h1, ⟨A, c, (hb.block _ (Array.getElem?_eq_some_iff.1 h2).1).trans h2, (h3.below hb).more hb.size, h4⟩, h5.trans (hb.mono h5.size), h6⟩
theorem BYW.cell {w W : World} {i : Ins} {p : Nat} {xs : List UInt8} (r : BYW w i p xs W) {j : Nat} {v : Value} (hv : (tailI i)[j]? = some v) : W.cell? ⟨w.heap.size, 20 + j, none⟩ = some v := by
  rw [cell_of_row _ _ _ _ 79 (0, 0) r.h1, encI_get]
  exact hv
theorem clo46_any {w W : World} {i : Ins} {p : Nat} {xs : List UInt8} (r : BYW w i p xs W) (hl : xs.length ≤ 900000) (n k : Nat) (hn : n < 18446744073709551616) (h1 : 1 ≤ k) (h8 : k ≤ 8) {j : Nat} {v : Value} (hv : (tailI i)[j]? = some v) :
    Calls Tryz.prog 100 #[.int .u64 (n : Int), .int .i64 (k : Int), .pointer (some ⟨p, 0, none⟩)] W fun e W' => e = .returned (.tuple #[]) ∧ BYW w i p (xs ++ putB n k) W' ∧ W'.cell? ⟨w.heap.size, 20 + j, none⟩ = some v := by
  obtain ⟨A, c, hh, hA, hc⟩ := r.h2
  have c0 : W.cell? ⟨p, 0, none⟩ = some (.slice A xs.length c) := by
    have := cell_of_row W _ 0 _ 31 (0, 0) hh
    simpa using this
  have hlt := (Array.getElem?_eq_some_iff.1 hh).1
  have hlt0 := (Array.getElem?_eq_some_iff.1 r.h1).1
  have HP : Hid (Calls Tryz.prog 22 #[.slice A xs.length c, .int .u64 (n : Int), .int .i64 (k : Int)] W fun e w' => ∃ A' c', e = .returned (.slice A' (xs ++ putB n k).length c') ∧ w'.ownsRow W.heap.size 5 1 (.slice A' (xs ++ putB n k).length c') (xs ++ putB n k).length (bcells (xs ++ putB n k)) ∧ Below W.heap.size W w' ∧ w'.cell? ⟨p, 0, none⟩ = some (.slice A xs.length c) ∧ w'.frozen? ⟨p, 0, none⟩ = false) := Lib.hid ((put_yes A c n k xs W hA (by omega) hn h1 h8).mono (by
    rintro e w' ⟨v', rfl, ho, hb⟩
    have hh' := (hb.block _ hlt).trans hh
    obtain ⟨A', c', rfl, _, _⟩ := own_bat ho
    refine ⟨A', c', rfl, ho, hb, ?_, frozen_of_row _ _ _ _ _ hh'⟩
    have := cell_of_row w' _ 0 _ 31 (0, 0) hh'
    simpa using this))
  have HE : Hid (∀ w' A' c', w'.ownsRow W.heap.size 5 1 (.slice A' (xs ++ putB n k).length c') (xs ++ putB n k).length (bcells (xs ++ putB n k)) → Below W.heap.size W w' → BYW w i p (xs ++ putB n k) (w'.setCell ⟨p, 0, none⟩ (.slice A' (xs ++ putB n k).length c')) ∧ (w'.setCell ⟨p, 0, none⟩ (.slice A' (xs ++ putB n k).length c')).cell? ⟨w.heap.size, 20 + j, none⟩ = some v) := Lib.hid (fun w' A' c' ho hb => by
    have r2 := r.bel hb
    have hh' := (hb.block _ hlt).trans hh
    have hst := heap_setCell_same w' _ 0 _ 31 (.slice A' (xs ++ putB n k).length c') hh'
    have hg := grownBy_setCell (World.grownBy.refl w' (some (p))) 0 (.slice A' (xs ++ putB n k).length c')
    obtain ⟨A2, c2, e2, hA', hge⟩ := own_bat ho
    injection e2 with e2 _ e3
    subst e2 e3
    have hcc : (xs ++ putB n k).length ≤ c' := by
      rcases ho.2 with ⟨e0, h0⟩ | ⟨g, cap, cur, e0, _, _, hcp, _⟩
      · rw [h0]; omega
      · injection e0 with _ _ e3
        rw [e3]; exact hcp
    have r3 : BYW w i p (xs ++ putB n k) (w'.setCell ⟨p, 0, none⟩ (.slice A' (xs ++ putB n k).length c')) := by
      refine ⟨(hg.block _ (Nat.lt_of_lt_of_le hlt0 hb.size) (by intro e; injection e with e; have := r.hp; omega)).trans r2.h1, ⟨A', c', by simpa using hst, ?_, hcc⟩, r2.be.setCell (p := ⟨p, 0, none⟩) (by have := r.hp; show w.heap.size ≤ p; omega) _, r.hp⟩
      have := hA'.set (g := p) (j := 0) (.slice A' (xs ++ putB n k).length c') (fun g' off e _ => by have := hge g' off e; omega)
      simpa [World.setCell] using this
    exact ⟨r3, r3.cell hv⟩)
  clear hA hh r hlt hlt0 hv
  generalize (xs ++ putB n k).length = m at HP HE
  go_enter Tryz.func100, Tryz.ntmps100
  go_wp2_with (go_at_call 22; (with_reducible refine HP.out.mono ?_); rintro e w1 ⟨A1, k1, rfl, ho1, hb1, cc1, ff1⟩; have HO := Lib.hid (HE.out _ _ _ ho1 hb1); clear ho1)
  go_end0
  exact ⟨rfl, HO.out⟩
end Go.Proofs.YtehgpnnfjgmiiaaGreat
end
section
namespace Go.Proofs.YtehgpnnfjgmiiaaGreat
open Go.Shelf Go.RowKit Go.Lib Go.Great
set_option maxRecDepth 100000
set_option maxHeartbeats 2000000
def headB (i : Ins) : List UInt8 := i.pub ++ putB i.seq 8 ++ putB i.born 8 ++ putB i.life 4 ++ putB (flagN i.gone) 1
/-- The bytes of a good instance. -/
def bytesI (i : Ins) : List UInt8 := if i.gone then headB i else headB i ++ putB i.pri 2 ++ putB i.wei 2 ++ putB i.port 2 ++ (putB i.tgt.length 2 ++ i.tgt)
def byI (i : Ins) : List UInt8 := if goodI i = true then bytesI i else []
def errI (i : Ins) : Int := if goodI i = true then 0 else 2
theorem goodI_len {i : Ins} (h : goodI i = true) : i.tgt.length ≤ 253 := by
  unfold goodI tgtL at h
  cases hg : i.gone
  · rw [hg] at h
    simp only [Bool.and_eq_true, decide_eq_true_eq, Bool.false_eq_true, if_false] at h
    exact ((goodL_iff _).1 h.2.2.1).2
  · rw [hg] at h
    simp only [Bool.and_eq_true, decide_eq_true_eq, if_true] at h
    have := (eqI_iff _ _).1 h.2
    rw [this]
    simp [bareI]
theorem IsB.nil (w : World) : IsB (.slice none 0 0) [] w := ⟨none, 0, rfl, by simp, .inl rfl⟩
theorem ibytes_any (i : Ins) (hi : i.tgt.length ≤ 100000) (w : World) : Calls Tryz.prog 80 #[.agg (encI i).toArray] w fun e w' => ∃ v, e = .returned (.tuple #[v, .int .i64 (errI i)]) ∧ IsB v (byI i) w' ∧ Below w.heap.size w w' := by
  obtain ⟨W0, hW0⟩ : ∃ W0, W0 = w.alloc (.cells (encI i).toArray 79) := ⟨_, rfl⟩
  have hb0 : Below w.heap.size w W0 := by rw [hW0]; exact (Below.refl _ w).alloc (Nat.le_refl _) _
  have hn : W0.heap[w.heap.size]? = some (.cells (encI i).toArray 79 (0, 0)) := by rw [hW0]; exact heap_alloc_new w _
  have hl0 := (Array.getElem?_eq_some_iff.1 hn).1
  have HK : Hid ((loadVar 79 ⟨w.heap.size, 0, none⟩).run Tryz.prog W0 = .ok (.agg (encI i).toArray) W0) := Lib.hid (fldB hn).all
  have HG : Hid (Calls Tryz.prog 57 #[.agg (encI i).toArray] W0 fun e w' => e = .returned (.bool (goodI i)) ∧ Below W0.heap.size W0 w') := Lib.hid (igood_any i hi W0)
  have HB := Lib.hid hb0
  have HW := Lib.hid hW0
  cases hg : goodI i
  · have HN : Hid (errI i = 2 ∧ byI i = []) := Lib.hid (by unfold errI byI; rw [if_neg (by rw [hg]; simp), if_neg (by rw [hg]; simp)]; exact ⟨rfl, rfl⟩)
    rw [HN.out.1, HN.out.2]
    rw [hg] at HG
    generalize (encI i).toArray = X at *
    clear hn hW0 hb0 hl0
    go_enter Tryz.func80, Tryz.ntmps80
    go_wp2_with (first
      | (rw [← HW.out]; (with_reducible refine wpList_loadV (op := ⟨some 6, _, _, _, _, _⟩) rfl 79 (.tmp 1) rfl _ ?_ _ HK.out ?_); rfl)
      | (go_at_call 57; (with_reducible refine HG.out.mono ?_); rintro e w1 ⟨rfl, hb1⟩))
    refine bodyPost_ret (results_2b rfl _ _ _ _ rfl rfl) rfl ?_
    exact ⟨_, rfl, IsB.nil _, HB.out.trans (hb1.mono HB.out.size)⟩
  · have hlen := goodI_len hg
    have HY : Hid (∀ w1, Below W0.heap.size W0 w1 → BYW w i w1.heap.size i.pub (w1.alloc (.cells #[.slice (some ⟨w.heap.size, 0, none⟩) 20 20] 31)) ∧ (w1.alloc (.cells #[.slice (some ⟨w.heap.size, 0, none⟩) 20 20] 31)).cell? ⟨w.heap.size, 20, none⟩ = some (.int .u64 (i.seq : Int))) := Lib.hid (fun w1 hb1 => by
      have hba : Below w1.heap.size w1 (w1.alloc (.cells #[.slice (some ⟨w.heap.size, 0, none⟩) 20 20] 31)) := (Below.refl _ w1).alloc (Nat.le_refl _) _
      have h1 : (w1.alloc (.cells #[.slice (some ⟨w.heap.size, 0, none⟩) 20 20] 31)).heap[w.heap.size]? = some (.cells (encI i).toArray 79 (0, 0)) := (hba.block _ (Nat.lt_of_lt_of_le hl0 hb1.size)).trans ((hb1.block _ hl0).trans hn)
      have hbb := hb0.trans (hb1.mono hb0.size)
      have hp := i.hp
      have r : BYW w i w1.heap.size i.pub (w1.alloc (.cells #[.slice (some ⟨w.heap.size, 0, none⟩) 20 20] 31)) := ⟨h1, ⟨some ⟨w.heap.size, 0, none⟩, 20, by rw [hp]; exact heap_alloc_new w1 _, .inr ⟨_, 0, rfl, (Array.getElem?_eq_some_iff.1 h1).1, fun j hj => (range_frontI (show World.rangeAt _ w.heap.size 0 (encI i) from row_range h1)) j _ (bcells_get i.pub j hj)⟩, by omega⟩, hbb.trans (hba.mono hbb.size), Nat.lt_of_lt_of_le hl0 hb1.size⟩
      exact ⟨r, r.cell (j := 0) rfl⟩)
    obtain ⟨b0, e0⟩ : ∃ b, b = i.pub := ⟨_, rfl⟩
    obtain ⟨b1, e1⟩ : ∃ b, b = b0 ++ putB i.seq 8 := ⟨_, rfl⟩
    obtain ⟨b2, e2⟩ : ∃ b, b = b1 ++ putB i.born 8 := ⟨_, rfl⟩
    obtain ⟨b3, e3⟩ : ∃ b, b = b2 ++ putB i.life 4 := ⟨_, rfl⟩
    obtain ⟨b4, e4⟩ : ∃ b, b = b3 ++ putB (flagN i.gone) 1 := ⟨_, rfl⟩
    obtain ⟨b5, e5⟩ : ∃ b, b = b4 ++ putB i.pri 2 := ⟨_, rfl⟩
    obtain ⟨b6, e6⟩ : ∃ b, b = b5 ++ putB i.wei 2 := ⟨_, rfl⟩
    obtain ⟨b7, e7⟩ : ∃ b, b = b6 ++ putB i.port 2 := ⟨_, rfl⟩
    have l0 : b0.length = 20 := by rw [e0]; exact i.hp
    have l1 : b1.length = 28 := by rw [e1, List.length_append, l0, putB_length]
    have l2 : b2.length = 36 := by rw [e2, List.length_append, l1, putB_length]
    have l3 : b3.length = 40 := by rw [e3, List.length_append, l2, putB_length]
    have l4 : b4.length = 41 := by rw [e4, List.length_append, l3, putB_length]
    have l5 : b5.length = 43 := by rw [e5, List.length_append, l4, putB_length]
    have l6 : b6.length = 45 := by rw [e6, List.length_append, l5, putB_length]
    have l7 : b7.length = 47 := by rw [e7, List.length_append, l6, putB_length]
    rw [← e0] at HY
    have C1 : Hid (∀ p W, BYW w i p b0 W → Calls Tryz.prog 100 #[.int .u64 (i.seq : Int), .int .i64 8, .pointer (some ⟨p, 0, none⟩)] W fun e W' => e = .returned (.tuple #[]) ∧ BYW w i p b1 W' ∧ W'.cell? ⟨w.heap.size, 21, none⟩ = some (.int .u64 (i.born : Int))) := Lib.hid (fun p W r => by
      have := clo46_any (v := .int .u64 (i.born : Int)) r (by omega) i.seq 8 i.hs (by omega) (by omega) (j := 1) rfl
      rw [← e1] at this
      exact this)
    have C2 : Hid (∀ p W, BYW w i p b1 W → Calls Tryz.prog 100 #[.int .u64 (i.born : Int), .int .i64 8, .pointer (some ⟨p, 0, none⟩)] W fun e W' => e = .returned (.tuple #[]) ∧ BYW w i p b2 W' ∧ W'.cell? ⟨w.heap.size, 22, none⟩ = some (.int .u32 (i.life : Int))) := Lib.hid (fun p W r => by
      have := clo46_any (v := .int .u32 (i.life : Int)) r (by omega) i.born 8 i.hb (by omega) (by omega) (j := 2) rfl
      rw [← e2] at this
      exact this)
    have C3 : Hid (∀ p W, BYW w i p b2 W → Calls Tryz.prog 100 #[.int .u64 (i.life : Int), .int .i64 4, .pointer (some ⟨p, 0, none⟩)] W fun e W' => e = .returned (.tuple #[]) ∧ BYW w i p b3 W' ∧ W'.cell? ⟨w.heap.size, 23, none⟩ = some (.bool i.gone)) := Lib.hid (fun p W r => by
      have := clo46_any (v := .bool i.gone) r (by omega) i.life 4 (by have := i.hl; omega) (by omega) (by omega) (j := 3) rfl
      rw [← e3] at this
      exact this)
    have C4 : Hid (∀ p W, BYW w i p b3 W → Calls Tryz.prog 100 #[.int .u64 (flagN i.gone : Int), .int .i64 1, .pointer (some ⟨p, 0, none⟩)] W fun e W' => e = .returned (.tuple #[]) ∧ BYW w i p b4 W' ∧ W'.cell? ⟨w.heap.size, 23, none⟩ = some (.bool i.gone) ∧ W'.cell? ⟨w.heap.size, 24, none⟩ = some (.int .u16 (i.pri : Int)) ∧ ∃ A c, W'.cell? ⟨p, 0, none⟩ = some (.slice A b4.length c) ∧ BAt W' W'.heap.size A b4 ∧ b4.length ≤ c) := Lib.hid (fun p W r => (clo46_any (v := .bool i.gone) r (by omega) (flagN i.gone) 1 (by unfold flagN; split <;> omega) (by omega) (by omega) (j := 3) rfl).mono (by
      rintro e W' ⟨rfl, r2, h⟩
      rw [← e4] at r2
      obtain ⟨A, c, hh, hA, hc⟩ := r2.h2
      refine ⟨rfl, r2, h, r2.cell (j := 4) rfl, A, c, ?_, hA, hc⟩
      have := cell_of_row W' _ 0 _ 31 (0, 0) hh
      simpa using this))
    have C5 : Hid (∀ p W, BYW w i p b4 W → Calls Tryz.prog 100 #[.int .u64 (i.pri : Int), .int .i64 2, .pointer (some ⟨p, 0, none⟩)] W fun e W' => e = .returned (.tuple #[]) ∧ BYW w i p b5 W' ∧ W'.cell? ⟨w.heap.size, 25, none⟩ = some (.int .u16 (i.wei : Int))) := Lib.hid (fun p W r => by
      have := clo46_any (v := .int .u16 (i.wei : Int)) r (by omega) i.pri 2 (by have := i.h1; omega) (by omega) (by omega) (j := 5) rfl
      rw [← e5] at this
      exact this)
    have C6 : Hid (∀ p W, BYW w i p b5 W → Calls Tryz.prog 100 #[.int .u64 (i.wei : Int), .int .i64 2, .pointer (some ⟨p, 0, none⟩)] W fun e W' => e = .returned (.tuple #[]) ∧ BYW w i p b6 W' ∧ W'.cell? ⟨w.heap.size, 26, none⟩ = some (.int .u16 (i.port : Int))) := Lib.hid (fun p W r => by
      have := clo46_any (v := .int .u16 (i.port : Int)) r (by omega) i.wei 2 (by have := i.h2; omega) (by omega) (by omega) (j := 6) rfl
      rw [← e6] at this
      exact this)
    have C7 : Hid (∀ p W, BYW w i p b6 W → Calls Tryz.prog 100 #[.int .u64 (i.port : Int), .int .i64 2, .pointer (some ⟨p, 0, none⟩)] W fun e W' => e = .returned (.tuple #[]) ∧ BYW w i p b7 W' ∧ W'.cell? ⟨w.heap.size, 27, none⟩ = some (.string (bstr i.tgt)) ∧ ∃ A c, W'.cell? ⟨p, 0, none⟩ = some (.slice A b7.length c) ∧ BAt W' W'.heap.size A b7) := Lib.hid (fun p W r => (clo46_any (v := .string (bstr i.tgt)) r (by omega) i.port 2 (by have := i.h3; omega) (by omega) (by omega) (j := 7) rfl).mono (by
      rintro e W' ⟨rfl, r2, h⟩
      rw [← e7] at r2
      obtain ⟨A, c, hh, hA, hc⟩ := r2.h2
      refine ⟨rfl, r2, h, A, c, ?_, hA⟩
      have := cell_of_row W' _ 0 _ 31 (0, 0) hh
      simpa using this))
    have CF : Hid (∀ W, Calls Tryz.prog 101 #[.bool i.gone] W fun e w' => e = .returned (.int .u64 (flagN i.gone : Int)) ∧ w' = W) := Lib.hid (flag_any i.gone)
    have C8 : Hid (∀ p W A c, BYW w i p b7 W → BAt W W.heap.size A b7 → Calls Tryz.prog 102 #[.slice A b7.length c, .string (bstr i.tgt)] W fun e w' => ∃ v, e = .returned (.tuple #[v, .int .i64 0]) ∧ IsB v (b7 ++ (putB i.tgt.length 2 ++ i.tgt)) w' ∧ Below w.heap.size w w') := Lib.hid (fun p W A c r hA => (text_yes A c b7 (bstr i.tgt) W hA (by omega) (by rw [bstr_size]; omega)).mono (by
      rintro e w' ⟨v, rfl, ho, hb⟩
      have e8 : (bstr i.tgt).data.toList = i.tgt := by simp [bstr]
      rw [bstr_size, e8] at ho
      exact ⟨v, rfl, IsB.of_own ho, r.be.trans (hb.mono r.be.size)⟩))
    have HEr : Hid (errI i = 0) := Lib.hid (by unfold errI; rw [if_pos hg])
    have HBy : Hid (byI i = if i.gone = true then b4 else b7 ++ (putB i.tgt.length 2 ++ i.tgt)) := Lib.hid (by unfold byI; rw [if_pos hg]; unfold bytesI headB; rw [e7, e6, e5, e4, e3, e2, e1, e0])
    have q2 : (i.life : Int) % 18446744073709551616 = i.life := by have := i.hl; omega
    have q2' : i.life % 18446744073709551616 = i.life := by have := i.hl; omega
    have q5 : i.pri % 18446744073709551616 = i.pri := by have := i.h1; omega
    have q6 : i.wei % 18446744073709551616 = i.wei := by have := i.h2; omega
    have q7 : i.port % 18446744073709551616 = i.port := by have := i.h3; omega
    have H46 : ∀ args w, (callFunc 100 args).run Tryz.prog w = .ok (.enter 100 args) w := enters_of Tryz.func100 (by kernel_rfl) rfl
    rw [HEr.out]
    rw [hg] at HG
    generalize (encI i).toArray = X at *
    generalize byI i = R at *
    generalize bstr i.tgt = T at *
    generalize (putB i.tgt.length 2 ++ i.tgt) = TB at *
    generalize i.seq = f0 at *
    generalize i.born = f1 at *
    generalize i.life = f2 at *
    generalize i.pri = f4 at *
    generalize i.wei = f5 at *
    generalize i.port = f6 at *
    generalize i.gone = gn at *
    clear hn hW0 hb0 hl0 hlen e0 e1 e2 e3 e4 e5 e6 e7
    generalize hn4 : b4.length = n4 at *
    have HN4 := Lib.hid hn4
    clear hn4
    generalize b7.length = n7 at *
    clear l0 l1 l2 l3 l4 l5 l6 l7
    cases gn
    · have hR := HBy.out
      simp only [Bool.false_eq_true, if_false] at hR
      subst hR
      clear HBy
      go_enter Tryz.func80, Tryz.ntmps80
      go_upto_region 5 with (first
        | (rw [← HW.out]; (with_reducible refine wpList_loadV (op := ⟨some 6, _, _, _, _, _⟩) rfl 79 (.tmp 1) rfl _ ?_ _ HK.out ?_); rfl)
        | (go_at_call 57; (with_reducible refine HG.out.mono ?_); rintro e w1 ⟨rfl, hb1⟩))
      obtain ⟨r0, c0⟩ := HY.out _ hb1
      generalize w1.alloc (.cells #[.slice (some ⟨w.heap.size, 0, none⟩) 20 20] 31) = w2 at *
      generalize w1.heap.size = p at *
      clear hb1 HY HG HK HW
      go_wp2_with (first
      | (go_at_call 100; (with_reducible refine (C1.out _ _ r0).mono ?_); rintro e w3 ⟨rfl, r1, c1⟩)
      | (go_at_call 100; (with_reducible refine (C2.out _ _ r1).mono ?_); rintro e w4 ⟨rfl, r2, c2⟩)
      | (go_at_call 100; (with_reducible refine (C3.out _ _ r2).mono ?_); rintro e w5 ⟨rfl, r3, c3⟩)
      | (go_at_call 101; (with_reducible refine (CF.out _).mono ?_); rintro e w6 ⟨rfl, rfl⟩)
      | (go_at_call 100; (with_reducible refine (C4.out _ _ r3).mono ?_); rintro e w7 ⟨rfl, r4, c4, c4b, A4, k4, c4c, hA4, hk4⟩)
      | (go_at_call 100; (with_reducible refine (C5.out _ _ r4).mono ?_); rintro e w8 ⟨rfl, r5, c5⟩)
      | (go_at_call 100; (with_reducible refine (C6.out _ _ r5).mono ?_); rintro e w9 ⟨rfl, r6, c6⟩)
      | (go_at_call 100; (with_reducible refine (C7.out _ _ r6).mono ?_); rintro e w10 ⟨rfl, r7, c7, A7, k7, c7b, hA7⟩)
      | (go_at_call 102; (with_reducible refine (C8.out _ _ _ _ r7 hA7).mono ?_); rintro e w11 ⟨v11, rfl, hv11, hb11⟩))
      refine bodyPost_ret (results_2b rfl _ _ _ _ rfl rfl) rfl ?_
      exact ⟨_, rfl, hv11, hb11⟩
    · have hR := HBy.out
      simp only [if_true] at hR
      subst hR
      clear HBy
      go_enter Tryz.func80, Tryz.ntmps80
      go_upto_region 5 with (first
        | (rw [← HW.out]; (with_reducible refine wpList_loadV (op := ⟨some 6, _, _, _, _, _⟩) rfl 79 (.tmp 1) rfl _ ?_ _ HK.out ?_); rfl)
        | (go_at_call 57; (with_reducible refine HG.out.mono ?_); rintro e w1 ⟨rfl, hb1⟩))
      obtain ⟨r0, c0⟩ := HY.out _ hb1
      generalize w1.alloc (.cells #[.slice (some ⟨w.heap.size, 0, none⟩) 20 20] 31) = w2 at *
      generalize w1.heap.size = p at *
      clear hb1 HY HG HK HW
      go_wp2_with (first
      | (go_at_call 100; (with_reducible refine (C1.out _ _ r0).mono ?_); rintro e w3 ⟨rfl, r1, c1⟩)
      | (go_at_call 100; (with_reducible refine (C2.out _ _ r1).mono ?_); rintro e w4 ⟨rfl, r2, c2⟩)
      | (go_at_call 100; (with_reducible refine (C3.out _ _ r2).mono ?_); rintro e w5 ⟨rfl, r3, c3⟩)
      | (go_at_call 101; (with_reducible refine (CF.out _).mono ?_); rintro e w6 ⟨rfl, rfl⟩)
      | (go_at_call 100; (with_reducible refine (C4.out _ _ r3).mono ?_); rintro e w7 ⟨rfl, r4, c4, c4b, A4, k4, c4c, hA4, hk4⟩))
      refine bodyPost_ret (results_2b rfl _ _ _ _ rfl rfl) rfl ?_
      exact ⟨_, rfl, ⟨A4, k4, by rw [HN4.out]; rfl, by rw [HN4.out]; exact hk4, hA4⟩, r4.be⟩
end Go.Proofs.YtehgpnnfjgmiiaaGreat
end
section
namespace Go.Proofs.YtehgpnnfjgmiiaaGreat
open Go.Shelf Go.RowKit Go.Lib Go.Great
set_option maxRecDepth 100000
set_option maxHeartbeats 400000
theorem goodR_all {L : List Ins} (h : goodR L = true) : ∀ x ∈ L, goodI x = true := by
  intro x hx
  obtain ⟨k, hk, rfl⟩ := List.mem_iff_getElem.1 hx
  have := ((goodR_iff L).1 h).2 k hk
  unfold okAt at this
  rw [Bool.and_eq_true, getElem!_pos L k hk] at this
  exact this.1
end Go.Proofs.YtehgpnnfjgmiiaaGreat
end
section
namespace Go.Proofs.YtehgpnnfjgmiiaaGreat
open Go.Shelf Go.RowKit Go.Lib Go.Great
set_option maxRecDepth 100000
set_option maxHeartbeats 400000
/-! The two orders. -/
abbrev Asc (L : List Ins) : Prop := L.Pairwise (fun x y => cmpP x y < 0)
end Go.Proofs.YtehgpnnfjgmiiaaGreat
end
section
namespace Go.Proofs.YtehgpnnfjgmiiaaGreat
open Go.Shelf Go.RowKit Go.Lib Go.Great
set_option maxRecDepth 100000
set_option maxHeartbeats 400000
/-- A row of the program's own. -/
def OwnR (w : World) (M : List Ins) (W : World) (v : Value) : Prop := W.ownsRow w.heap.size 79 28 v M.length (flatE encI M) ∧ Below w.heap.size w W
theorem OwnR.bel {w W W' : World} {M : List Ins} {v : Value} (h : OwnR w M W v) (hb : Below W.heap.size W W') : OwnR w M W' v := ⟨own_bel h.1 hb, h.2.trans (hb.mono h.2.size)⟩
end Go.Proofs.YtehgpnnfjgmiiaaGreat
end
section
namespace Go.Proofs.YtehgpnnfjgmiiaaGreat
open Go.Shelf Go.RowKit Go.Lib Go.Great
set_option maxRecDepth 100000
set_option maxHeartbeats 400000
/-- Instances that are not more than are looked at. -/
def lightR (L : List Ins) : Bool := L.all (fun i => decide (i.tgt.length ≤ 300)) && decide (L.length ≤ 40)
end Go.Proofs.YtehgpnnfjgmiiaaGreat
end
section
namespace Go.Proofs.YtehgpnnfjgmiiaaGreat
open Go.Shelf Go.RowKit Go.Lib Go.Great
set_option maxRecDepth 100000
set_option maxHeartbeats 2000000
theorem wpList_appB {ops : Array Oper} {rest : List Oper} {o : Oper} {a : Act} {w : World} {Q : Exit → Act → World → Prop} (hgd : o.guard = none) (d : Nat) (hd : o.dst = some d) (s x : Operand)
    (ho : o.op = .call { callee := .builtin .append, args := #[s, x], argTypes := #[31, 31] })
    (base : Nat) (v : Value) (L : List UInt8) (hs : a.eval s = v) (hown : w.ownsRow base 5 1 v L.length (bcells L)) (y : Value) (M : List UInt8) (hx : a.eval x = y) (hr : Src Tryz.prog 1 31 y M.length (bcells M) w) (h63 : L.length + M.length ≤ 10000000) (hbase : base ≤ w.heap.size)
    (h : ∀ A' c' w', w'.ownsRow base 5 1 (.slice A' (L ++ M).length c') (L ++ M).length (bcells (L ++ M)) → w.grownBy w' v.ownBlock → wpList Tryz.prog ops Q rest (a.put (some d) (.slice A' (L ++ M).length c')) w') :
    wpList Tryz.prog ops Q (o :: rest) a w :=
  wpList_plain hgd fun K hK => by
    have := step_appB (K := fun a' w' => wpList Tryz.prog ops Q rest a' w') (Q := Q) (E := True) (ops := ops) hgd d hd s x ho base v L hs hown y M hx hr h63 hbase (fun v' w' h1 h2 => by
      obtain ⟨A', c', rfl, _, _⟩ := own_bat h1
      exact h A' c' w' h1 h2)
    have hw : Region.wanted o (yielded ops a.tmps) = true := by simp [Region.wanted, hgd]
    rw [if_pos hw] at this
    exact Oper.wp_mono (fun a' w' h => hK a' w' h) this
/-- While Bytes of the reference runs. -/
structure RBW (w : World) (i : Ins) (W : World) : Prop where
  h1 : W.heap[w.heap.size]? = some (.cells (encI i).toArray 79 (0, 0))
  be : Below w.heap.size w W
theorem RBW.bel {w W W' : World} {i : Ins} (r : RBW w i W) (hb : Below W.heap.size W W') : RBW w i W' :=
  ⟨(hb.block _ (Array.getElem?_eq_some_iff.1 r.h1).1).trans r.h1, r.be.trans (hb.mono r.be.size)⟩
theorem RBW.cell {w W : World} {i : Ins} (r : RBW w i W) {j : Nat} {v : Value} (hv : (tailI i)[j]? = some v) : W.cell? ⟨w.heap.size, 20 + j, none⟩ = some v := by
  rw [cell_of_row _ _ _ _ 79 (0, 0) r.h1, encI_get]
  exact hv
theorem RBW.grown {w W W' : World} {i : Ins} {ob : Option Nat} (r : RBW w i W) (hg : W.grownBy W' ob) (ho : ∀ k, ob = some k → w.heap.size + 1 ≤ k) : RBW w i W' := by
  have hl := (Array.getElem?_eq_some_iff.1 r.h1).1
  exact ⟨(hg.block _ hl (by intro e; have := ho w.heap.size (by first | exact e | exact e.symm); omega)).trans r.h1, below_ownB r.be r.be.size hg (fun k hk => by have := ho k hk; omega)⟩
end Go.Proofs.YtehgpnnfjgmiiaaGreat
end
section
namespace Go.Proofs.YtehgpnnfjgmiiaaGreat
open Go.Shelf Go.RowKit Go.Lib Go.Great
set_option maxRecDepth 100000
set_option maxHeartbeats 400000
theorem IAt.src {w : World} {B : Nat} {A : Option Addr} {L : List Ins} {t e : TypeId} (hT : InsT t e) (h : IAt w B A L) (c : Nat) : Src Tryz.prog 28 t (.slice A L.length c) L.length (flatE encI L) w := by
  cases A with
  | none =>
    rcases h with rfl | ⟨g, off, e, _⟩
    · exact Src.ofNil w hT.und c
    · cases e
  | some x =>
    refine Src.ofSlice w hT.und x L.length c (flatE encI L) (by rw [flatE_length encI_length]) (fun j u hu => ?_) (flatE_one _)
    rcases h with rfl | ⟨g, off, e, _, hr⟩
    · simp [flatE] at hu
    · injection e with e
      subst e
      rw [Addr.add_mid]
      exact hr j u hu
theorem OwnR.be {w W : World} {M : List Ins} {v : Value} (h : OwnR w M W v) : Below w.heap.size w W := h.2
end Go.Proofs.YtehgpnnfjgmiiaaGreat
end
section
namespace Go.Proofs.YtehgpnnfjgmiiaaGreat
open Go.Shelf Go.RowKit Go.Lib Go.Great
set_option maxRecDepth 100000
set_option maxHeartbeats 400000
theorem src_newI {t e : TypeId} (hT : InsT t e) (x : Ins) (w : World) : Src Tryz.prog 28 t (.slice (some ⟨w.heap.size, 0, none⟩) 1 1) 1 (flatE encI [x]) (w.alloc (.cells (encI x).toArray e)) := by
  refine Src.ofSlice _ hT.und _ 1 1 (flatE encI [x]) (by rw [flatE_length encI_length]; rfl) (fun j u hu => ?_) (flatE_one _)
  rw [Addr.add_mid]
  have e1 : flatE encI [x] = encI x := by unfold flatE; simp
  rw [e1] at hu
  exact row_range (heap_alloc_new w (.cells (encI x).toArray e)) j u hu
/-- A row of its own beyond what was there. -/
structure GroR (w1 : World) (W : World) (v : Value) (o : List Ins) : Prop where
  be : Below w1.heap.size w1 W
  own : W.ownsRow w1.heap.size 79 28 v o.length (flatE encI o)
section
variable {w1 W W' : World} {v v' : Value} {o : List Ins}
theorem GroR.start (w1 : World) : GroR w1 w1 (.slice none 0 0) [] := ⟨Below.refl _ _, World.ownsRow_nil w1 _ 79 28⟩
theorem GroR.bel (h : GroR w1 W v o) (hb : Below W.heap.size W W') : GroR w1 W' v o := ⟨h.be.trans (hb.mono h.be.size), own_bel h.own hb⟩
theorem GroR.push (h : GroR w1 W v o) (M : List Ins) (hg : W.grownBy W' v.ownBlock) (ho : W'.ownsRow w1.heap.size 79 28 v' (o ++ M).length (flatE encI (o ++ M))) : GroR w1 W' v' (o ++ M) :=
  ⟨below_ownB h.be h.be.size hg (fun k hk => (h.own.lt k hk).1), ho⟩
theorem GroR.out {w : World} (h : GroR w1 W v o) (hb : Below w.heap.size w w1) : OwnR w o W v := ⟨own_baseC h.own hb.size, hb.trans (h.be.mono hb.size)⟩
end
end Go.Proofs.YtehgpnnfjgmiiaaGreat
end
