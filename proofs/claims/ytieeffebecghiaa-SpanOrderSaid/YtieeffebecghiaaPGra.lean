/- Contracts of package ident that say how memory grows: what stood stays, and draws only add up. Conditions: an id has 20 bytes. -/
import Derived.Test.YtieeffebecghiaaPKept
import Derived.Sort.Grow
namespace Go.Proofs.Ytieeffebecghiaa
set_option maxRecDepth 100000
set_option maxHeartbeats 1000000
open Go.RowKit

/-- w' is w, some draws and some blocks on. -/
def Grows (w w' : World) : Prop := Below w.heap.size w w' ∧ w.drawn ≤ w'.drawn
theorem Grows.refl (w : World) : Grows w w := ⟨Below.refl _ _, Nat.le_refl _⟩
theorem Grows.trans {a b c : World} (h : Grows a b) (k : Grows b c) : Grows a c := ⟨h.1.trans (k.1.mono h.1.size), Nat.le_trans h.2 k.2⟩
theorem Grows.alloc (w : World) (o : Obj) : Grows w (w.alloc o) := ⟨(Below.refl _ w).alloc (Nat.le_refl _) _, Nat.le_refl _⟩
theorem Grows.drewN (w : World) (n : Nat) : Grows w (w.drewN n) := ⟨below_drewN (Below.refl _ _) n, Nat.le_add_right _ _⟩
theorem bit_g (xs : List UInt8) (hx : xs.length = 20) (j : Nat) (hj : j < 160) (w : World) :
    Calls Try.prog 29 #[.agg (bcells xs).toArray, .int .i64 (j : Int)] w fun e w' => e = .returned (.int .i64 (if bitL xs j then 1 else 0)) ∧ Grows w w' := by
  obtain ⟨X, hX⟩ : ∃ X, X = (bcells xs).toArray := ⟨_, rfl⟩
  have hm := and_mask' (xs.getD (j / 8) 0) (7 - j % 8) (by omega)
  rw [show (xs.getD (j / 8) 0).toNat.testBit (7 - j % 8) = bitL xs j from rfl] at hm
  have HMK := Lib.hid (fun W => mask_any j W hj)
  obtain ⟨q, hq⟩ : ∃ q, j / 8 = q := ⟨_, rfl⟩
  rw [hq] at hm
  have hq2 : q < 20 := by omega
  have hc : ∀ W : World, (W.alloc (.cells X 23)).cell? ⟨W.heap.size, q, none⟩ = some (.int .u8 ((xs.getD q 0).toNat : Int)) := fun W => by
    rw [cell_of_row _ _ q _ 23 (0, 0) (heap_alloc_new W _), hX, List.getElem?_toArray, bcells_get xs _ (by omega), List.getD_eq_getElem?_getD, List.getElem?_eq_getElem (by omega)]
    rfl
  generalize (xs.getD q 0).toNat = b at hc hm
  generalize hM : ((2 ^ (7 - j % 8) : Nat) : Int) = M at hm
  have hMp : M ≠ 0 := by rw [← hM]; have := Nat.two_pow_pos (7 - j % 8); omega
  rw [hM] at HMK
  have HP := Lib.hid (fun W => isPlace_yes (j : Int) W (by omega) (by omega))
  have hd : (j : Int) / 8 = (q : Int) := by omega
  rw [← hX]
  clear hX hx hM hq hj
  cases hbit : bitL xs j
  all_goals
    rw [hbit] at hm
    go_enter Try.func29, Try.ntmps29
    go_wp2
    go_quiet (first | (go_at_call 37; exact quiet_l HP.out) | (go_at_call 38; exact quiet_l HMK.out))
    go_wp2
    go_ret
    exact ⟨rfl, (Grows.alloc w _).trans (Grows.drewN _ _)⟩

def PfxRelG (w : World) (xs ys : List UInt8) (i : Value) (wr : World) : Prop := PfxRel w xs ys i wr ∧ w.drawn ≤ wr.drawn
theorem prefix_g (xs ys : List UInt8) (hx : xs.length = 20) (hy : ys.length = 20) (w : World) :
    Calls Try.prog 22 #[.agg (bcells xs).toArray, .agg (bcells ys).toArray] w fun e w' => e = .returned (.int .i64 (pfxN xs ys : Int)) ∧ Grows w w' := by
  obtain ⟨X, hX⟩ : ∃ X, X = (bcells xs).toArray := ⟨_, rfl⟩
  obtain ⟨Y, hY⟩ : ∃ Y, Y = (bcells ys).toArray := ⟨_, rfl⟩
  rw [← hX, ← hY]
  have HE := Lib.hid (And.intro hX (And.intro hY (And.intro hx hy)))
  clear hX hY hx hy
  go_enter Try.func22, Try.ntmps22
  go_wp2
  have R0 : PfxRelG w xs ys (.int .i64 0) ((w.alloc (.cells X 23)).alloc (.cells Y 23)) := by
    obtain ⟨h1, h2, h4⟩ := heap2 w (.cells X 23) (.cells Y 23)
    obtain ⟨e1, e2, e4, e5⟩ := HE.out
    refine ⟨⟨0, by omega, rfl, fun k hk => by omega, ?_, ?_, h4⟩, ((Grows.alloc w _).trans (Grows.alloc _ _)).2⟩
    · rw [h1, e1]
    · rw [h2, e2]
  have HR0 := Lib.hid R0
  clear R0
  go_loopw [6] (PfxRelG w xs ys) (fun i _ => 20 - (intOf i).toNat)
  case atStart => exact HR0.out
  case round =>
    obtain ⟨⟨j, hj, rfl, hk, hq, hr, hb⟩, hdr⟩ := hrel
    clear HR0
    obtain ⟨_, _, hx, hy⟩ := HE.out
    by_cases hlt : j < 20
    · have c1 := row_byte hq j (by omega)
      have c2 := row_byte hr j (by omega)
      by_cases hne : xs.getD j 0 = ys.getD j 0
      · have R : ∀ n, PfxRelG w xs ys (.int .i64 ((j : Int) + 1)) (wr.drewN n) := by
          intro n
          refine ⟨⟨j + 1, by omega, by go_num, fun k hkj => ?_, hq, hr, below_drewN hb n⟩, Nat.le_trans hdr (Nat.le_add_right _ _)⟩
          by_cases hkj' : k = j
          · rw [hkj']
            exact hne
          · exact hk k (by omega)
        have HR := Lib.hid R
        rw [← hne] at c2
        generalize (xs.getD j 0).toNat = a at c1 c2
        clear hq hr hb R HE hx hy hk hne hdr
        go_wp2
        go_quiet (fail)
        go_wp2
        go_roundw
        case rel => exact HR.out _
        case measure => simp [intOf]; omega
      · have hp := pfxN_at j xs ys hk (by omega) (by omega) hne
        have hbx : bits .xor .u8 ((xs.getD j 0).toNat : Int) ((ys.getD j 0).toNat : Int) = ((xs.getD j 0 ^^^ ys.getD j 0).toNat : Int) := by
          rw [u8_xor_nat _ _ (UInt8.toNat_lt _) (UInt8.toNat_lt _), UInt8.toNat_xor]
        have hnn : ((xs.getD j 0).toNat : Int) ≠ ((ys.getD j 0).toNat : Int) := fun e => hne (UInt8.toNat.inj (by omega))
        have hl8 : lz8 (xs.getD j 0 ^^^ ys.getD j 0) ≤ 8 := by unfold lz8; repeat (first | omega | split)
        have HL := Lib.hid (fun W => lz_any (xs.getD j 0 ^^^ ys.getD j 0) W)
        have HB : Hid (∀ n, Grows w (wr.drewN n)) := Lib.hid (fun n => ⟨below_drewN hb n, Nat.le_trans hdr (Nat.le_add_right _ _)⟩)
        have HP := Lib.hid hp
        generalize lz8 (xs.getD j 0 ^^^ ys.getD j 0) = l at HP HL hl8
        generalize (xs.getD j 0 ^^^ ys.getD j 0).toNat = c at hbx HL
        generalize (xs.getD j 0).toNat = a at c1 hbx hnn
        generalize (ys.getD j 0).toNat = b at c2 hbx hnn
        clear hq hr hb HE hx hy hk hne hp hdr
        go_wp2
        go_quiet (fail)
        go_wp2
        go_quiet (first | (go_at_call 32; exact quiet_l HL.out) | (go_at_call 32; exact quiet_l2 HL.out))
        go_wp2
        go_ret
        refine ⟨congrArg (fun x => Ending.returned (.int .i64 x)) ?_, (HB.out _).trans (Grows.drewN _ _)⟩
        have := HP.out
        omega
    · obtain rfl : j = 20 := by omega
      have he := eq_of_getD (hx.trans hy.symm) (fun k hkx => hk k (by omega))
      have hp := (pfxN_spec xs ys (hx.trans hy.symm)).2.2.2 he
      rw [hx] at hp
      have HB : Hid (Grows w wr) := Lib.hid ⟨hb, hdr⟩
      have HP := Lib.hid hp
      clear hq hr hb hk he hp HE hx hy hdr
      go_wp2
      go_ret
      exact ⟨by rw [HP.out]; rfl, HB.out⟩
end Go.Proofs.Ytieeffebecghiaa
