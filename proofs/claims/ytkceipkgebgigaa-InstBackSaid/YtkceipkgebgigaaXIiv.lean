/- The closure of Bytes of package inst. No condition. -/
import Derived.Test.YtkceipkgebgigaaXIin
import Derived.Test.YtkceipkgebgigaaXKCdk
import Derived.Test.YtkceipkgebgigaaXJLla
namespace Go.Proofs.Ytkceipkgebgigaa
open Go.Shelf Go.RowKit Go.Lib Go.Great
set_option maxRecDepth 100000
set_option maxHeartbeats 1000000
/-- While Bytes runs: the instance's block, and that of the bytes so far. -/
structure BYW (w : World) (i : Ins) (p : Nat) (xs : List UInt8) (W : World) : Prop where
  h1 : W.heap[w.heap.size]? = some (.cells (encI i).toArray 28 (0, 0))
  h2 : ∃ A c, W.heap[p]? = some (.cells #[.slice A xs.length c] 30 (0, 0)) ∧ BAt W W.heap.size A xs ∧ xs.length ≤ c
  be : Below w.heap.size w W
  hp : w.heap.size < p
theorem BYW.bel {w W W' : World} {i : Ins} {p : Nat} {xs : List UInt8} (r : BYW w i p xs W) (hb : Below W.heap.size W W') : BYW w i p xs W' := by
  obtain ⟨h1, ⟨A, c, h2, h3, h4⟩, h5, h6⟩ := r
  exact ⟨(hb.block _ (Array.getElem?_eq_some_iff.1 h1).1).trans h1, ⟨A, c, (hb.block _ (Array.getElem?_eq_some_iff.1 h2).1).trans h2, (h3.below hb).more hb.size, h4⟩, h5.trans (hb.mono h5.size), h6⟩
theorem BYW.cell {w W : World} {i : Ins} {p : Nat} {xs : List UInt8} (r : BYW w i p xs W) {j : Nat} {v : Value} (hv : (tailI i)[j]? = some v) : W.cell? ⟨w.heap.size, 20 + j, none⟩ = some v := by
  rw [cell_of_row _ _ _ _ 28 (0, 0) r.h1, encI_get]
  exact hv
theorem clo46_any {w W : World} {i : Ins} {p : Nat} {xs : List UInt8} (r : BYW w i p xs W) (hl : xs.length ≤ 900000) (n k : Nat) (hn : n < 18446744073709551616) (h1 : 1 ≤ k) (h8 : k ≤ 8) {j : Nat} {v : Value} (hv : (tailI i)[j]? = some v) :
    Calls Try.prog 46 #[.int .u64 (n : Int), .int .i64 (k : Int), .pointer (some ⟨p, 0, none⟩)] W fun e W' => e = .returned (.tuple #[]) ∧ BYW w i p (xs ++ putB n k) W' ∧ W'.cell? ⟨w.heap.size, 20 + j, none⟩ = some v := by
  obtain ⟨A, c, hh, hA, hc⟩ := r.h2
  have c0 : W.cell? ⟨p, 0, none⟩ = some (.slice A xs.length c) := by
    have := cell_of_row W _ 0 _ 30 (0, 0) hh
    simpa using this
  have hlt := (Array.getElem?_eq_some_iff.1 hh).1
  have hlt0 := (Array.getElem?_eq_some_iff.1 r.h1).1
  have HP : Hid (Calls Try.prog 47 #[.slice A xs.length c, .int .u64 (n : Int), .int .i64 (k : Int)] W fun e w' => ∃ A' c', e = .returned (.slice A' (xs ++ putB n k).length c') ∧ w'.ownsRow W.heap.size 5 1 (.slice A' (xs ++ putB n k).length c') (xs ++ putB n k).length (bcells (xs ++ putB n k)) ∧ Below W.heap.size W w' ∧ w'.cell? ⟨p, 0, none⟩ = some (.slice A xs.length c) ∧ w'.frozen? ⟨p, 0, none⟩ = false) := Lib.hid ((put_yes A c n k xs W hA (by omega) hn h1 h8).mono (by
    rintro e w' ⟨v', rfl, ho, hb⟩
    have hh' := (hb.block _ hlt).trans hh
    obtain ⟨A', c', rfl, _, _⟩ := own_bat ho
    refine ⟨A', c', rfl, ho, hb, ?_, frozen_of_row _ _ _ _ _ hh'⟩
    have := cell_of_row w' _ 0 _ 30 (0, 0) hh'
    simpa using this))
  have HE : Hid (∀ w' A' c', w'.ownsRow W.heap.size 5 1 (.slice A' (xs ++ putB n k).length c') (xs ++ putB n k).length (bcells (xs ++ putB n k)) → Below W.heap.size W w' → BYW w i p (xs ++ putB n k) (w'.setCell ⟨p, 0, none⟩ (.slice A' (xs ++ putB n k).length c')) ∧ (w'.setCell ⟨p, 0, none⟩ (.slice A' (xs ++ putB n k).length c')).cell? ⟨w.heap.size, 20 + j, none⟩ = some v) := Lib.hid (fun w' A' c' ho hb => by
    have r2 := r.bel hb
    have hh' := (hb.block _ hlt).trans hh
    have hst := heap_setCell_same w' _ 0 _ 30 (.slice A' (xs ++ putB n k).length c') hh'
    have hg := grownBy_setCell (World.grownBy.refl w' (some (p))) 0 (.slice A' (xs ++ putB n k).length c')
    obtain ⟨A2, c2, e2, hA', hge⟩ := own_bat ho
    injection e2 with e2 _ e3
    subst e2 e3
    have hcc : (xs ++ putB n k).length ≤ c' := by
      rcases ho.2 with ⟨e0, h0⟩ | ⟨g, cap, cur, e0, _, _, hcp, _⟩
      · rw [h0]; omega
      · injection e0 with _ _ e3
        rw [e3]; exact hcp
    have r3 : BYW w i p (xs ++ putB n k) (w'.setCell ⟨p, 0, none⟩ (.slice A' (xs ++ putB n k).length c')) := by
      refine ⟨(hg.block _ (Nat.lt_of_lt_of_le hlt0 hb.size) (by intro e; injection e with e; have := r.hp; omega)).trans r2.h1, ⟨A', c', by simpa using hst, ?_, hcc⟩, r2.be.setCell (p := ⟨p, 0, none⟩) (by have := r.hp; show w.heap.size ≤ p; omega) _, r.hp⟩
      have := hA'.set (g := p) (j := 0) (.slice A' (xs ++ putB n k).length c') (fun g' off e _ => by have := hge g' off e; omega)
      simpa [World.setCell] using this
    exact ⟨r3, r3.cell hv⟩)
  clear hA hh r hlt hlt0 hv
  generalize (xs ++ putB n k).length = m at HP HE
  go_enter Try.func46, Try.ntmps46
  go_wp2_with (go_at_call 47; (with_reducible refine HP.out.mono ?_); rintro e w1 ⟨A1, k1, rfl, ho1, hb1, cc1, ff1⟩; have HO := Lib.hid (HE.out _ _ _ ho1 hb1); clear ho1)
  go_end0
  exact ⟨rfl, HO.out⟩
end Go.Proofs.Ytkceipkgebgigaa
