/- Contract of the reference's Cmp of layer addr. Conditions: hosts fit 32 bits, ports 16. -/
import Derived.Test.YtieeffebecghiaaDoorPArc
namespace Go.Proofs.YtieeffebecghiaaDoor
set_option maxRecDepth 100000
set_option maxHeartbeats 1000000
open Go.RowKit Go.Lib Go.Great

def sgnN (a b : Nat) : Int := if a < b then -1 else if b < a then 1 else 0
theorem lexN_aux (xs ys : List UInt8) (hl : xs.length = ys.length) (j : Nat) (h : getN (xs.take j) < getN (ys.take j)) : ∀ k, j + k ≤ xs.length → getN (xs.take (j + k)) < getN (ys.take (j + k))
  | 0, _ => h
  | k + 1, hk => by
    have ih := lexN_aux xs ys hl j h k (by omega)
    rw [show j + (k + 1) = j + k + 1 by omega, getN_take_succ xs (j + k) (by omega), getN_take_succ ys (j + k) (by omega)]
    have := xs[j + k].toNat_lt
    omega
theorem lexN {xs ys : List UInt8} (hl : xs.length = ys.length) (j : Nat) (hj : j < xs.length) (hs : xs.take j = ys.take j) (hlt : xs[j].toNat < (ys[j]'(by omega)).toNat) : getN xs < getN ys := by
  have h1 : getN (xs.take (j + 1)) < getN (ys.take (j + 1)) := by
    rw [getN_take_succ xs j hj, getN_take_succ ys j (by omega), hs]
    omega
  have := lexN_aux xs ys hl (j + 1) h1 (xs.length - (j + 1)) (by omega)
  rw [show j + 1 + (xs.length - (j + 1)) = xs.length by omega, List.take_length, hl, List.take_length] at this
  exact this
def CmRel (W : World) (xs ys : List UInt8) (i : Value) (wr : World) : Prop := ∃ j : Nat, j ≤ 6 ∧ i = .int .i64 (j : Int) ∧ xs.take j = ys.take j ∧ Below W.heap.size W wr
theorem bs_cell {xs : List UInt8} {W W' : World} {A : Option Addr} (h : BAt W W.heap.size A xs) (hb : Below W.heap.size W W') (j : Nat) (hj : j < xs.length) : ∃ g off, A = some ⟨g, off, none⟩ ∧ W'.cell? ⟨g, off + j, none⟩ = some (.int .u8 (xs[j].toNat : Int)) := by
  rcases h with rfl | ⟨g, off, rfl, hg, hc⟩
  · simp at hj
  · exact ⟨g, off, rfl, by rw [World.cell?_of_block (w := W) (w' := W') (a := ⟨g, off + j, none⟩) (hb.block g hg)]; exact hc j hj⟩
theorem racmp_any (h p h' p' : Nat) (hh : h < 4294967296) (hp : p < 65536) (hh' : h' < 4294967296) (hp' : p' < 65536) (w : World) :
    Calls Tryd.prog 13 #[.agg (adr h p), .agg (adr h' p')] w fun e w' => e = .returned (.int .i64 (sgnN (getN (adB h p)) (getN (adB h' p')))) ∧ Below w.heap.size w w' := by
  obtain ⟨k1, k2, hb0⟩ := heap2 w (.cells (adr h p) 28) (.cells (adr h' p') 28)
  obtain ⟨W0, hW0⟩ : ∃ W0, W0 = (w.alloc (.cells (adr h p) 28)).alloc (.cells (adr h' p') 28) := ⟨_, rfl⟩
  rw [← hW0] at k1 k2 hb0
  have g1 := (Array.getElem?_eq_some_iff.1 k1).1
  have g2 := (Array.getElem?_eq_some_iff.1 k2).1
  have B1 := Lib.hid (rbytes_any h p hh hp W0)
  have B2 := Lib.hid (fun W => rbytes_any h' p' hh' hp' W)
  have c0 : W0.cell? ⟨w.heap.size, 0, none⟩ = some (.int .u32 (h : Int)) := by rw [cell_of_row _ _ 0 _ 28 (0, 0) k1]; rfl
  have c1 : W0.cell? ⟨w.heap.size, 1, none⟩ = some (.int .u16 (p : Int)) := by rw [cell_of_row _ _ 1 _ 28 (0, 0) k1]; rfl
  have D0 : Hid (∀ W, Below W0.heap.size W0 W → W.cell? ⟨w.heap.size + 1, 0, none⟩ = some (.int .u32 (h' : Int)) ∧ W.cell? ⟨w.heap.size + 1, 1, none⟩ = some (.int .u16 (p' : Int))) := Lib.hid (fun W hW => by
    rw [cell_of_row W _ 0 _ 28 (0, 0) ((hW.block _ g2).trans k2), cell_of_row W _ 1 _ 28 (0, 0) ((hW.block _ g2).trans k2)]
    exact ⟨rfl, rfl⟩)
  have HW := Lib.hid hW0
  have HB0 := Lib.hid hb0
  have lx := adB_length h p
  have ly := adB_length h' p'
  unfold adr at *
  generalize adB h p = xs at B1 lx ⊢
  generalize adB h' p' = ys at B2 ly ⊢
  clear hb0 hW0 k1 k2 g1 g2 hh hp hh' hp'
  go_enter Tryd.func13, Tryd.ntmps13
  go_upto_region 1 with fail
  rw [← HW.out]
  go_upto_region 2 with (go_at_call 11; (with_reducible refine B1.out.mono ?_); rintro e W1 ⟨v5, rfl, hv5, hb1⟩)
  obtain ⟨d0, d1⟩ := D0.out W1 hb1
  clear c0 c1 B1
  go_upto_region 3 with (go_at_call 11; (with_reducible refine (B2.out _).mono ?_); rintro e W2 ⟨v6, rfl, hv6, hb2⟩)
  have hv5' := BsIs.keep _ _ _ hb2 hv5
  obtain ⟨A5, c5, rfl, _, hA5⟩ := hv5'
  obtain ⟨A6, c6, rfl, _, hA6⟩ := hv6
  have HA5 := Lib.hid hA5
  have HA6 := Lib.hid hA6
  have HB2 := Lib.hid (HB0.out.trans ((hb1.trans (hb2.mono hb1.size)).mono HB0.out.size))
  rw [lx, ly]
  have HX : Hid (xs.length = 6) := Lib.hid lx
  have HY : Hid (ys.length = 6) := Lib.hid ly
  have R0 : Hid (CmRel W2 xs ys (.int .i64 0) W2) := Lib.hid ⟨0, by omega, rfl, rfl, Below.refl _ _⟩
  clear hv5 hA5 hA6 hb1 hb2 d0 d1 D0 B2 lx ly
  go_upto_region 4 with fail
  go_loopw [7] (CmRel W2 xs ys) (fun i _ => 6 - (RowKit.intOf i).toNat)
  case atStart => exact R0.out
  case round =>
    obtain ⟨j, hj, rfl, hs, hb⟩ := hrel
    clear R0
    have HB := Lib.hid hb
    have HS := Lib.hid hs
    by_cases hlt : j < 6
    · have jx : j < xs.length := by rw [HX.out]; exact hlt
      have jy : j < ys.length := by rw [HY.out]; exact hlt
      obtain ⟨g5, o5, rfl, e5⟩ := bs_cell HA5.out hb j jx
      obtain ⟨g6, o6, rfl, e6⟩ := bs_cell HA6.out hb j jy
      have HLT : Hid (xs[j].toNat < ys[j].toNat → sgnN (getN xs) (getN ys) = -1) := Lib.hid (fun h => by
        have := lexN (HX.out.trans HY.out.symm) j jx HS.out h
        unfold sgnN
        rw [if_pos this])
      have HGT : Hid (ys[j].toNat < xs[j].toNat → sgnN (getN xs) (getN ys) = 1) := Lib.hid (fun h => by
        have := lexN (HY.out.trans HX.out.symm) j jy HS.out.symm h
        unfold sgnN
        rw [if_neg (by omega), if_pos this])
      have HEQ : Hid (xs[j].toNat = ys[j].toNat → xs.take (j + 1) = ys.take (j + 1)) := Lib.hid (fun h => by
        rw [List.take_succ_eq_append_getElem jx, List.take_succ_eq_append_getElem jy, HS.out, UInt8.toNat.inj h])
      generalize xs[j].toNat = a at e5 HLT HGT HEQ
      generalize ys[j].toNat = b at e6 HLT HGT HEQ
      clear hb hs jx jy
      by_cases hab : a < b
      · have hab' : (a : Int) < (b : Int) := by omega
        have HF := Lib.hid (HLT.out hab)
        have HBF := Lib.hid (fun m => HB2.out.trans ((below_drewN HB.out m).mono HB2.out.size))
        clear HLT HGT HEQ HB HS
        go_wp2
        go_quiet (fail)
        go_wp2
        go_ret
        exact ⟨by rw [HF.out]; rfl, HBF.out _⟩
      · have hab' : ¬ (a : Int) < (b : Int) := by omega
        by_cases hba : b < a
        · have hba' : (b : Int) < (a : Int) := by omega
          have HF := Lib.hid (HGT.out hba)
          have HBF := Lib.hid (fun m n => HB2.out.trans ((below_drewN (below_drewN HB.out m) n).mono HB2.out.size))
          clear HLT HGT HEQ HB HS
          go_wp2
          go_quiet (fail)
          go_wp2
          go_quiet (fail)
          go_wp2
          go_ret
          exact ⟨by rw [HF.out]; rfl, HBF.out _ _⟩
        · have hba' : ¬ (b : Int) < (a : Int) := by omega
          have HREL : Hid (∀ m, CmRel W2 xs ys (.int .i64 ((j : Int) + 1)) (wr.drewN m)) := Lib.hid (fun m => ⟨j + 1, by omega, by go_num, HEQ.out (by omega), below_drewN HB.out m⟩)
          clear HLT HGT HEQ HB HS
          go_wp2
          go_quiet (fail)
          go_wp2
          go_quiet (fail)
          go_wp2
          go_roundw
          case rel => exact HREL.out _
          case measure => simp [RowKit.intOf]; omega
    · have HF : Hid (sgnN (getN xs) (getN ys) = 0) := Lib.hid (by
        have e : xs = ys := by
          have := hs
          rwa [List.take_of_length_le (by rw [HX.out]; omega), List.take_of_length_le (by rw [HY.out]; omega)] at this
        rw [e]
        unfold sgnN
        rw [if_neg (by omega), if_neg (by omega)])
      have HBF := Lib.hid (HB2.out.trans (hb.mono HB2.out.size))
      clear hb hs HB HS
      go_wp2
      go_ret
      exact ⟨by rw [HF.out]; rfl, HBF.out⟩
end Go.Proofs.YtieeffebecghiaaDoor
