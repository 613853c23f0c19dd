/- Contracts of package ident that say how memory grows: what stood stays, and draws only add up. Conditions: an id has 20 bytes. Contracts of Cmp of package ident and of the closure that sorts, that say how memory grows. Conditions: an id has 20 bytes. slices.SortFunc, laid at ids. -/
import Derived.Test.YtcoiaddjfeaciaaGf
import Derived.Sort.Grow
import Derived.BigQuiet
import Derived.Shelf.SlSortCmp.WholeK
section
namespace Go.Proofs.Ytcoiaddjfeaciaa
set_option maxRecDepth 100000
set_option maxHeartbeats 1000000
open Go.RowKit

/-- w' is w, some draws and some blocks on. -/
def Grows (w w' : World) : Prop := Below w.heap.size w w' ∧ w.drawn ≤ w'.drawn
theorem Grows.refl (w : World) : Grows w w := ⟨Below.refl _ _, Nat.le_refl _⟩
theorem Grows.trans {a b c : World} (h : Grows a b) (k : Grows b c) : Grows a c := ⟨h.1.trans (k.1.mono h.1.size), Nat.le_trans h.2 k.2⟩
theorem Grows.alloc (w : World) (o : Obj) : Grows w (w.alloc o) := ⟨(Below.refl _ w).alloc (Nat.le_refl _) _, Nat.le_refl _⟩
theorem Grows.drewN (w : World) (n : Nat) : Grows w (w.drewN n) := ⟨below_drewN (Below.refl _ _) n, Nat.le_add_right _ _⟩
theorem Grows.form {w w' : World} (h : Grows w w') : ∃ q os', w' = Sort.grow (w.drewN q) os' := by
  refine ⟨w'.drawn - w.drawn, w'.heap.extract w.heap.size w'.heap.size, ?_⟩
  obtain ⟨hb, hd⟩ := h
  have hh : w'.heap = w.heap ++ w'.heap.extract w.heap.size w'.heap.size := by
    apply Array.ext_getElem?
    intro i
    by_cases hi : i < w.heap.size
    · rw [Array.getElem?_append_left hi]
      exact hb.block i hi
    · rw [Array.getElem?_append_right (by omega), Array.getElem?_extract]
      by_cases h2 : i < w'.heap.size
      · rw [if_pos (by omega)]
        congr 1
        omega
      · rw [if_neg (by omega), Array.getElem?_eq_none (by omega)]
  cases w'
  simp only [Sort.grow, World.drewN] at *
  have e1 := hb.os
  have e2 := hb.tape
  have e3 := hb.output
  simp only at e1 e2 e3
  congr 1
  · omega

theorem bit_g (xs : List UInt8) (hx : xs.length = 20) (j : Nat) (hj : j < 160) (w : World) :
    Calls Try.prog 24 #[.agg (bcells xs).toArray, .int .i64 (j : Int)] w fun e w' => e = .returned (.int .i64 (if bitL xs j then 1 else 0)) ∧ Grows w w' := by
  obtain ⟨X, hX⟩ : ∃ X, X = (bcells xs).toArray := ⟨_, rfl⟩
  have hm := and_mask' (xs.getD (j / 8) 0) (7 - j % 8) (by omega)
  rw [show (xs.getD (j / 8) 0).toNat.testBit (7 - j % 8) = bitL xs j from rfl] at hm
  have HMK := Lib.hid (fun W => mask_any j W hj)
  obtain ⟨q, hq⟩ : ∃ q, j / 8 = q := ⟨_, rfl⟩
  rw [hq] at hm
  have hq2 : q < 20 := by omega
  have hc : ∀ W : World, (W.alloc (.cells X 26)).cell? ⟨W.heap.size, q, none⟩ = some (.int .u8 ((xs.getD q 0).toNat : Int)) := fun W => by
    rw [cell_of_row _ _ q _ 26 (0, 0) (heap_alloc_new W _), hX, List.getElem?_toArray, bcells_get xs _ (by omega), List.getD_eq_getElem?_getD, List.getElem?_eq_getElem (by omega)]
    rfl
  generalize (xs.getD q 0).toNat = b at hc hm
  generalize hM : ((2 ^ (7 - j % 8) : Nat) : Int) = M at hm
  have hMp : M ≠ 0 := by rw [← hM]; have := Nat.two_pow_pos (7 - j % 8); omega
  rw [hM] at HMK
  have HP := Lib.hid (fun W => isPlace_yes (j : Int) W (by omega) (by omega))
  have hd : (j : Int) / 8 = (q : Int) := by omega
  rw [← hX]
  clear hX hx hM hq hj
  cases hbit : bitL xs j
  all_goals
    rw [hbit] at hm
    go_enter Try.func24, Try.ntmps24
    go_wp2
    go_quiet (first | (go_at_call 62; exact quiet_l HP.out) | (go_at_call 63; exact quiet_l HMK.out))
    go_wp2
    go_ret
    exact ⟨rfl, (Grows.alloc w _).trans (Grows.drewN _ _)⟩

def PfxRelG (w : World) (xs ys : List UInt8) (i : Value) (wr : World) : Prop := PfxRel w xs ys i wr ∧ w.drawn ≤ wr.drawn
theorem prefix_g (xs ys : List UInt8) (hx : xs.length = 20) (hy : ys.length = 20) (w : World) :
    Calls Try.prog 32 #[.agg (bcells xs).toArray, .agg (bcells ys).toArray] w fun e w' => e = .returned (.int .i64 (pfxN xs ys : Int)) ∧ Grows w w' := by
  obtain ⟨X, hX⟩ : ∃ X, X = (bcells xs).toArray := ⟨_, rfl⟩
  obtain ⟨Y, hY⟩ : ∃ Y, Y = (bcells ys).toArray := ⟨_, rfl⟩
  rw [← hX, ← hY]
  have HE := Lib.hid (And.intro hX (And.intro hY (And.intro hx hy)))
  clear hX hY hx hy
  go_enter Try.func32, Try.ntmps32
  go_wp2
  have R0 : PfxRelG w xs ys (.int .i64 0) ((w.alloc (.cells X 26)).alloc (.cells Y 26)) := by
    obtain ⟨h1, h2, h4⟩ := heap2 w (.cells X 26) (.cells Y 26)
    obtain ⟨e1, e2, e4, e5⟩ := HE.out
    refine ⟨⟨0, by omega, rfl, fun k hk => by omega, ?_, ?_, h4⟩, ((Grows.alloc w _).trans (Grows.alloc _ _)).2⟩
    · rw [h1, e1]
    · rw [h2, e2]
  have HR0 := Lib.hid R0
  clear R0
  go_loopw [6] (PfxRelG w xs ys) (fun i _ => 20 - (intOf i).toNat)
  case atStart => exact HR0.out
  case round =>
    obtain ⟨⟨j, hj, rfl, hk, hq, hr, hb⟩, hdr⟩ := hrel
    clear HR0
    obtain ⟨_, _, hx, hy⟩ := HE.out
    by_cases hlt : j < 20
    · have c1 := row_byte hq j (by omega)
      have c2 := row_byte hr j (by omega)
      by_cases hne : xs.getD j 0 = ys.getD j 0
      · have R : ∀ n, PfxRelG w xs ys (.int .i64 ((j : Int) + 1)) (wr.drewN n) := by
          intro n
          refine ⟨⟨j + 1, by omega, by go_num, fun k hkj => ?_, hq, hr, below_drewN hb n⟩, Nat.le_trans hdr (Nat.le_add_right _ _)⟩
          by_cases hkj' : k = j
          · rw [hkj']
            exact hne
          · exact hk k (by omega)
        have HR := Lib.hid R
        rw [← hne] at c2
        generalize (xs.getD j 0).toNat = a at c1 c2
        clear hq hr hb R HE hx hy hk hne hdr
        go_wp2
        go_quiet (fail)
        go_wp2
        go_roundw
        case rel => exact HR.out _
        case measure => simp [intOf]; omega
      · have hp := pfxN_at j xs ys hk (by omega) (by omega) hne
        have hbx : bits .xor .u8 ((xs.getD j 0).toNat : Int) ((ys.getD j 0).toNat : Int) = ((xs.getD j 0 ^^^ ys.getD j 0).toNat : Int) := by
          rw [u8_xor_nat _ _ (UInt8.toNat_lt _) (UInt8.toNat_lt _), UInt8.toNat_xor]
        have hnn : ((xs.getD j 0).toNat : Int) ≠ ((ys.getD j 0).toNat : Int) := fun e => hne (UInt8.toNat.inj (by omega))
        have hl8 : lz8 (xs.getD j 0 ^^^ ys.getD j 0) ≤ 8 := by unfold lz8; repeat (first | omega | split)
        have HL := Lib.hid (fun W => lz_any (xs.getD j 0 ^^^ ys.getD j 0) W)
        have HB : Hid (∀ n, Grows w (wr.drewN n)) := Lib.hid (fun n => ⟨below_drewN hb n, Nat.le_trans hdr (Nat.le_add_right _ _)⟩)
        have HP := Lib.hid hp
        generalize lz8 (xs.getD j 0 ^^^ ys.getD j 0) = l at HP HL hl8
        generalize (xs.getD j 0 ^^^ ys.getD j 0).toNat = c at hbx HL
        generalize (xs.getD j 0).toNat = a at c1 hbx hnn
        generalize (ys.getD j 0).toNat = b at c2 hbx hnn
        clear hq hr hb HE hx hy hk hne hp hdr
        go_wp2
        go_quiet (fail)
        go_wp2
        go_quiet (first | (go_at_call 64; exact quiet_l HL.out) | (go_at_call 64; exact quiet_l2 HL.out))
        go_wp2
        go_ret
        refine ⟨congrArg (fun x => Ending.returned (.int .i64 x)) ?_, (HB.out _).trans (Grows.drewN _ _)⟩
        have := HP.out
        omega
    · obtain rfl : j = 20 := by omega
      have he := eq_of_getD (hx.trans hy.symm) (fun k hkx => hk k (by omega))
      have hp := (pfxN_spec xs ys (hx.trans hy.symm)).2.2.2 he
      rw [hx] at hp
      have HB : Hid (Grows w wr) := Lib.hid ⟨hb, hdr⟩
      have HP := Lib.hid hp
      clear hq hr hb hk he hp HE hx hy hdr
      go_wp2
      go_ret
      exact ⟨by rw [HP.out]; rfl, HB.out⟩
end Go.Proofs.Ytcoiaddjfeaciaa
end
section
namespace Go.Proofs.Ytcoiaddjfeaciaa
set_option maxRecDepth 100000
set_option maxHeartbeats 1000000
open Go.RowKit

structure KeptD (W0 : World) where
  val : World
  property : Grows W0 val
instance (W0 : World) : Nonempty (KeptD W0) := ⟨⟨W0, Grows.refl _⟩⟩
theorem wp_region_keptD {P : Program} {id : Nat} {Q : Exit → Act → World → Prop} {a : Act} {w : World} {l : List Oper} (W0 : World) (hW : Grows W0 w) (hm : P.follows .mixedOrders = true) (hB : Region.lexB .any l.toArray = true)
    (h : wpQuiet P l.toArray (fun w' => ∃ n : KeptD W0, w' = n.val) (fun a' => ∀ w', (∃ n : KeptD W0, w' = n.val) → Q .normal a' w') l a) : (Code.region id l.toArray true).wp P Q a w :=
  wp_region_quiet (C := fun w' => ∃ n : KeptD W0, w' = n.val) hm hB ⟨⟨w.drewN 1, hW.trans (Grows.drewN _ _)⟩, rfl⟩ (by simpa using h)
theorem keptD_of {P : Program} {f : FuncId} {args : Array Value} {v : Value} {W0 : World} (h : ∀ W, Calls P f args W fun e w' => e = .returned v ∧ Grows W w') (n : KeptD W0) :
    Calls P f args n.val fun e w' => e = .returned v ∧ ∃ m : KeptD W0, w' = m.val :=
  (h n.val).mono (by rintro e w' ⟨rfl, hb⟩; exact ⟨rfl, ⟨w', n.property.trans hb⟩, rfl⟩)
theorem keptD_row {g : Nat} {W0 : World} {o : Obj} (h : W0.heap[g]? = some o) (hg : g < W0.heap.size) (n : KeptD W0) : n.val.heap[g]? = some o := (n.property.1.block g hg).trans h
theorem quiet_loadD {P : Program} {W0 : World} {o : Oper} {a : Act} {K : Act → Prop} (ty : TypeId) (x : Operand) (ho : o.op = .load ty x) (p : Addr) (hx : a.eval x = .pointer (some p)) (v : Value) (hl : ∀ n : KeptD W0, (loadVar ty p).run P n.val = .ok v n.val)
    (hk : K (a.put o.dst v)) : o.quiet P a (fun w' => ∃ n : KeptD W0, w' = n.val) K :=
  ⟨v, fun w ⟨n, hn⟩ => by
    subst hn
    unfold Oper.quietAt execOp
    simp only [ho, hx, Instr.loadAt, Instr.sureAddr, Sem.run_bind, Sem.run_pure, Result.andThen_ok, hl n]
    exact ⟨rfl, rfl⟩, hk⟩

theorem cmp_g (xs ys : List UInt8) (hx : xs.length = 20) (hy : ys.length = 20) (w : World) :
    Calls Try.prog 30 #[.agg (bcells xs).toArray, .agg (bcells ys).toArray] w fun e w' => e = .returned (.int .i64 (cmpL xs ys)) ∧ Grows w w' := by
  have hP := fun W => prefix_g xs ys hx hy W
  have hBt := fun (p : Nat) (hp : p < 160) W => bit_g xs hx p hp W
  have he : ∀ W, (Op.equalIn 10000 26 (.agg (bcells xs).toArray) (.agg (bcells ys).toArray)).run Try.prog W = .ok (xs == ys) W := fun W => eq61 xs ys hx hy W
  obtain ⟨X, hX⟩ : ∃ X, X = (bcells xs).toArray := ⟨_, rfl⟩
  obtain ⟨Y, hY⟩ : ∃ Y, Y = (bcells ys).toArray := ⟨_, rfl⟩
  obtain ⟨W0, hW0⟩ : ∃ W0, W0 = (w.alloc (.cells X 26)).alloc (.cells Y 26) := ⟨_, rfl⟩
  obtain ⟨h1, h2, _⟩ := heap2 w (.cells X 26) (.cells Y 26)
  have h4 := (Grows.alloc w (.cells X 26)).trans (Grows.alloc _ (.cells Y 26))
  rw [← hW0] at h1 h2 h4
  have hs0 : W0.heap.size = w.heap.size + 2 := by rw [hW0]; simp
  have l1 : ∀ n : KeptD W0, (loadVar 26 ⟨w.heap.size, 0, none⟩).run Try.prog n.val = .ok (.agg X) n.val := fun n => by
    rw [hX] at h1 ⊢
    exact load26 hx (keptD_row h1 (by omega) n)
  have l2 : ∀ n : KeptD W0, (loadVar 26 ⟨w.heap.size + 1, 0, none⟩).run Try.prog n.val = .ok (.agg Y) n.val := fun n => by
    rw [hY] at h2 ⊢
    exact load26 hy (keptD_row h2 (by omega) n)
  have HL1 := Lib.hid l1
  have HL2 := Lib.hid l2
  have HK1 : Hid ((loadVar 26 ⟨w.heap.size, 0, none⟩).run Try.prog ((w.alloc (.cells X 26)).alloc (.cells Y 26)) = .ok (.agg X) ((w.alloc (.cells X 26)).alloc (.cells Y 26))) := Lib.hid (by rw [← hW0]; exact l1 ⟨W0, Grows.refl _⟩)
  have HK2 : Hid ((loadVar 26 ⟨w.heap.size + 1, 0, none⟩).run Try.prog ((w.alloc (.cells X 26)).alloc (.cells Y 26)) = .ok (.agg Y) ((w.alloc (.cells X 26)).alloc (.cells Y 26))) := Lib.hid (by rw [← hW0]; exact l2 ⟨W0, Grows.refl _⟩)
  simp only [← hX, ← hY] at hP he ⊢
  simp only [← hX] at hBt
  have HP := Lib.hid hP
  have HB := Lib.hid hBt
  have HW := Lib.hid hW0
  have HBL := Lib.hid h4
  clear hP hBt h1 h2 h4 hX hY l1 l2 hW0 hs0
  by_cases hxy : xs = ys
  · have he' : ∀ W, (Op.equalIn 10000 26 (.agg X) (.agg Y)).run Try.prog W = .ok true W := fun W => by rw [he, hxy]; simp
    have hc : cmpL xs ys = 0 := by unfold cmpL; rw [if_pos hxy]
    rw [hc]
    clear he hc hxy
    go_enter Try.func30, Try.ntmps30
    go_wp2_with (first
      | ((with_reducible refine wpList_loadV (op := ⟨some 5, _, _, _, _, _⟩) rfl 26 (.tmp 2) rfl _ ?_ _ HK1.out ?_); rfl)
      | ((with_reducible refine wpList_loadV (op := ⟨some 6, _, _, _, _, _⟩) rfl 26 (.tmp 3) rfl _ ?_ _ HK2.out ?_); rfl))
    go_ret
    exact ⟨rfl, by rw [← HW.out]; exact HBL.out⟩
  · have he' : ∀ W, (Op.equalIn 10000 26 (.agg X) (.agg Y)).run Try.prog W = .ok false W := fun W => by rw [he]; simp [hxy]
    have hp := ((pfxN_spec xs ys (hx.trans hy.symm)).2.2.1 hxy).1
    rw [hx] at hp
    have hc : cmpL xs ys = if bitL xs (pfxN xs ys) then 1 else -1 := by unfold cmpL; rw [if_neg hxy]
    have HB2 := Lib.hid (fun W => HB.out (pfxN xs ys) (by omega) W)
    rw [hc]
    generalize pfxN xs ys = p at HB2 HP ⊢
    clear he hc hxy HB hp hx hy
    cases hb : bitL xs p
    all_goals
      rw [hb] at HB2
      simp only [Bool.false_eq_true, if_false, if_true] at HB2 ⊢
      clear hb
      go_enter Try.func30, Try.ntmps30
      go_wp2_with (first
        | ((with_reducible refine wpList_loadV (op := ⟨some 5, _, _, _, _, _⟩) rfl 26 (.tmp 2) rfl _ ?_ _ HK1.out ?_); rfl)
        | ((with_reducible refine wpList_loadV (op := ⟨some 6, _, _, _, _, _⟩) rfl 26 (.tmp 3) rfl _ ?_ _ HK2.out ?_); rfl))
      rw [← HW.out]
      refine wp_region_keptD W0 (Grows.refl _) (by kernel_rfl) (by kernel_rfl) ?_
      repeat (first
        | (go_big_quiet_want; (with_reducible refine quiet_loadD 26 (.tmp 2) rfl _ ?_ _ HL1.out ?_); rfl; simp only [Act.put, List.setIfInBounds_toArray, List.set_cons_zero, List.set_cons_succ]; go_big_quiet_on)
        | (go_big_quiet_want; (with_reducible refine quiet_loadD 26 (.tmp 3) rfl _ ?_ _ HL2.out ?_); rfl; simp only [Act.put, List.setIfInBounds_toArray, List.set_cons_zero, List.set_cons_succ]; go_big_quiet_on)
        | go_big_quiet_step (first | (go_at_call 32; exact keptD_of HP.out _) | (go_at_call 24; exact keptD_of HB2.out _)))
      refine wpQuiet_nil ?_
      rintro _ ⟨⟨wk, hwk⟩, rfl⟩
      go_wp2
      go_ret
      exact ⟨rfl, HBL.out.trans hwk⟩

theorem clo70_g (xs ys : List UInt8) (hx : xs.length = 20) (hy : ys.length = 20) (w : World) :
    Calls Try.prog 70 #[.agg (bcells xs).toArray, .agg (bcells ys).toArray] w fun e w' => e = .returned (.int .i64 (cmpL xs ys)) ∧ Grows w w' := by
  have HC := Lib.hid (fun W => cmp_g xs ys hx hy W)
  obtain ⟨h1, h2, _⟩ := heap2 w (.cells (bcells xs).toArray 26) (.cells (bcells ys).toArray 26)
  have HK1 := Lib.hid (load26 hx h1)
  have HK2 := Lib.hid (load26 hy h2)
  have HG := Lib.hid ((Grows.alloc w (.cells (bcells xs).toArray 26)).trans (Grows.alloc _ (.cells (bcells ys).toArray 26)))
  generalize (bcells xs).toArray = X at HC HK1 HK2 HG ⊢
  generalize (bcells ys).toArray = Y at HC HK1 HK2 HG ⊢
  clear h1 h2 hx hy
  go_enter Try.func70, Try.ntmps70
  go_wp2_with (first
    | ((with_reducible refine wpList_loadV (op := ⟨some 5, _, _, _, _, _⟩) rfl 26 (.tmp 2) rfl _ ?_ _ HK1.out ?_); rfl)
    | ((with_reducible refine wpList_loadV (op := ⟨some 6, _, _, _, _, _⟩) rfl 26 (.tmp 3) rfl _ ?_ _ HK2.out ?_); rfl)
    | (go_at_call 30; refine (HC.out _).mono ?_; rintro e w1 ⟨rfl, hb1⟩))
  go_ret
  exact ⟨rfl, HG.out.trans hb1⟩
end Go.Proofs.Ytcoiaddjfeaciaa
end
section
namespace Go.Proofs
open Go.Shelf Go.RowKit Go.Lib Go.Sort
def Try.sortID_ren : Go.Shelf.Ren := ⟨fun | 6 => 69 | 15 => 87 | 14 => 86 | 28 => 103 | 29 => 104 | 20 => 95 | 21 => 96 | 22 => 97 | 23 => 98 | 24 => 99 | 25 => 100 | 26 => 101 | 27 => 102 | 46 => 106 | 47 => 107 | 48 => 108 | 49 => 109 | 50 => 110 | 57 => 111 | n => n, fun | 22 => 62 | 24 => 26 | 25 => 51 | 3 => 3 | 39 => 97 | 0 => 0 | 53 => 86 | 55 => 23 | 4 => 4 | 46 => 125 | 45 => 124 | 50 => 105 | 5 => 5 | 9 => 9 | 66 => 132 | 70 => 135 | 76 => 137 | 77 => 138 | n => n, fun | n => n⟩
theorem Try.sortID : Go.Proofs.SlLaysF0.n6 Try.prog Try.sortID_ren := {
  mixed := by kernel_rfl
  f6 := ⟨Try.f69.name, by decide, Try.func69.trans (congrArg some (by kernel_rfl))⟩
  f14 := ⟨Try.f86.name, by decide, Try.func86.trans (congrArg some (by kernel_rfl))⟩
  f15 := Try.func87.trans (congrArg some (by kernel_rfl))
  f20 := ⟨Try.f95.name, by decide, Try.func95.trans (congrArg some (by kernel_rfl))⟩
  f21 := ⟨Try.f96.name, by decide, Try.func96.trans (congrArg some (by kernel_rfl))⟩
  f22 := ⟨Try.f97.name, by decide, Try.func97.trans (congrArg some (by kernel_rfl))⟩
  f23 := ⟨Try.f98.name, by decide, Try.func98.trans (congrArg some (by kernel_rfl))⟩
  f24 := ⟨Try.f99.name, by decide, Try.func99.trans (congrArg some (by kernel_rfl))⟩
  f25 := ⟨Try.f100.name, by decide, Try.func100.trans (congrArg some (by kernel_rfl))⟩
  f26 := ⟨Try.f101.name, by decide, Try.func101.trans (congrArg some (by kernel_rfl))⟩
  f27 := ⟨Try.f102.name, by decide, Try.func102.trans (congrArg some (by kernel_rfl))⟩
  f28 := Try.func103.trans (congrArg some (by kernel_rfl))
  f29 := Try.func104.trans (congrArg some (by kernel_rfl))
  f46 := ⟨Try.f106.name, by decide, Try.func106.trans (congrArg some (by kernel_rfl))⟩
  f47 := Try.func107.trans (congrArg some (by kernel_rfl))
  f48 := Try.func108.trans (congrArg some (by kernel_rfl))
  f49 := ⟨Try.f109.name, by decide, Try.func109.trans (congrArg some (by kernel_rfl))⟩
  f50 := ⟨Try.f110.name, by decide, Try.func110.trans (congrArg some (by kernel_rfl))⟩
  f57 := ⟨Try.f111.name, by decide, Try.func111.trans (congrArg some (by kernel_rfl))⟩
  t0 := Try.underlying0
  a0 := Try.isAgg0
  z0 := Try.sizeOf0
  v0 := Try.zeroValue0
  t3 := Try.underlying3
  a3 := Try.isAgg3
  z3 := Try.sizeOf3
  v3 := Try.zeroValue3
  t4 := Try.underlying4
  a4 := Try.isAgg4
  z4 := Try.sizeOf4
  v4 := Try.zeroValue4
  t5 := Try.underlying5
  a5 := Try.isAgg5
  z5 := Try.sizeOf5
  v5 := Try.zeroValue5
  t9 := Try.underlying9
  a9 := Try.isAgg9
  z9 := Try.sizeOf9
  v9 := Try.zeroValue9
  t22 := Try.underlying62
  a22 := Try.isAgg62
  z22 := Try.sizeOf62
  v22 := Try.zeroValue62
  t25 := Try.underlying51
  a25 := Try.isAgg51
  z25 := Try.sizeOf51
  v25 := Try.zeroValue51
  t39 := Try.underlying97
  a39 := Try.isAgg97
  z39 := Try.sizeOf97
  v39 := Try.zeroValue97
  t45 := Try.underlying124
  a45 := Try.isAgg124
  z45 := Try.sizeOf124
  v45 := Try.zeroValue124
  t46 := Try.underlying125
  a46 := Try.isAgg125
  z46 := Try.sizeOf125
  v46 := Try.zeroValue125
  t50 := Try.underlying105
  a50 := Try.isAgg105
  z50 := Try.sizeOf105
  v50 := Try.zeroValue105
  t53 := Try.underlying86
  a53 := Try.isAgg86
  z53 := Try.sizeOf86
  v53 := Try.zeroValue86
  t55 := Try.underlying23
  a55 := Try.isAgg23
  z55 := Try.sizeOf23
  v55 := Try.zeroValue23
  t66 := Try.underlying132
  a66 := Try.isAgg132
  z66 := Try.sizeOf132
  v66 := Try.zeroValue132
  t70 := Try.underlying135
  a70 := Try.isAgg135
  z70 := Try.sizeOf135
  v70 := Try.zeroValue135
  t76 := Try.underlying137
  a76 := Try.isAgg137
  z76 := Try.sizeOf137
  v76 := Try.zeroValue137
  t77 := Try.underlying138
  a77 := Try.isAgg138
  z77 := Try.sizeOf138
  v77 := Try.zeroValue138 }
end Go.Proofs
end
