/- Contracts of package ident that say how memory grows: what stood stays, and draws only add up. Conditions: an id has 20 bytes. Contracts of Cmp of package ident and of the closure that sorts, that say how memory grows. Conditions: an id has 20 bytes. The order of ids is that of the numbers that they are: plain lemmas without a program. No condition. Contract of slices.SortFunc at ids, with the closure of ident.Sort. Conditions: fewer than 2^62 ids. Rows of ids in memory: plain lemmas. No condition. Ids in order, each once: plain lemmas on lists. No condition. -/
import Derived.Test.YtehgpnnfjgmiiaaGreatYOja
import Derived.Test.YtehgpnnfjgmiiaaGreatYOcb
import Derived.Test.YtehgpnnfjgmiiaaGreatYOga
import Derived.Test.YtehgpnnfjgmiiaaGreatYRIis
import Derived.Test.YtehgpnnfjgmiiaaGreatYRERefc
import Derived.Test.YtehgpnnfjgmiiaaGreatYRIip
import Derived.Test.YtehgpnnfjgmiiaaGreatYREOcta
import Derived.Test.YtehgpnnfjgmiiaaGreatYNMIda
import Derived.StillTailTactics
import Derived.Sort.Grow
import Derived.BigQuiet
import Derived.WalkKit
import Derived.Deep.AppendSrc
import Derived.Laws.BytesString
import Derived.Laws.CopyOwn
import Derived.Deep.AppendLies
import Derived.Deep.Draws
import Derived.WalkSpells
import Derived.Test.YtehgpnnfjgmiiaaGreatRows
import Derived.WalkLawsBesides
import Derived.Lib.Hide
import Derived.Outline
import Derived.Laws.BitsAllLaws
import Derived.Laws.BitsLemmas
import Derived.Laws.Bits64
import Derived.LoopTactic
import Derived.Test.YtehgpnnfjgmiiaaGreatYNCsg
import Derived.Shelf.SlicesE.Clone
section
namespace Go.Proofs.YtehgpnnfjgmiiaaGreat
set_option maxRecDepth 100000
set_option maxHeartbeats 1000000
open Go.RowKit

/-- w' is w, some draws and some blocks on. -/
def Grows (w w' : World) : Prop := Below w.heap.size w w' ∧ w.drawn ≤ w'.drawn
theorem Grows.refl (w : World) : Grows w w := ⟨Below.refl _ _, Nat.le_refl _⟩
theorem Grows.trans {a b c : World} (h : Grows a b) (k : Grows b c) : Grows a c := ⟨h.1.trans (k.1.mono h.1.size), Nat.le_trans h.2 k.2⟩
theorem Grows.alloc (w : World) (o : Obj) : Grows w (w.alloc o) := ⟨(Below.refl _ w).alloc (Nat.le_refl _) _, Nat.le_refl _⟩
theorem Grows.drewN (w : World) (n : Nat) : Grows w (w.drewN n) := ⟨below_drewN (Below.refl _ _) n, Nat.le_add_right _ _⟩
theorem Grows.form {w w' : World} (h : Grows w w') : ∃ q os', w' = Sort.grow (w.drewN q) os' := by
  refine ⟨w'.drawn - w.drawn, w'.heap.extract w.heap.size w'.heap.size, ?_⟩
  obtain ⟨hb, hd⟩ := h
  have hh : w'.heap = w.heap ++ w'.heap.extract w.heap.size w'.heap.size := by
    apply Array.ext_getElem?
    intro i
    by_cases hi : i < w.heap.size
    · rw [Array.getElem?_append_left hi]
      exact hb.block i hi
    · rw [Array.getElem?_append_right (by omega), Array.getElem?_extract]
      by_cases h2 : i < w'.heap.size
      · rw [if_pos (by omega)]
        congr 1
        omega
      · rw [if_neg (by omega), Array.getElem?_eq_none (by omega)]
  cases w'
  simp only [Sort.grow, World.drewN] at *
  have e1 := hb.os
  have e2 := hb.tape
  have e3 := hb.output
  simp only at e1 e2 e3
  congr 1
  · omega

theorem bit_g (xs : List UInt8) (hx : xs.length = 20) (j : Nat) (hj : j < 160) (w : World) :
    Calls Tryz.prog 136 #[.agg (bcells xs).toArray, .int .i64 (j : Int)] w fun e w' => e = .returned (.int .i64 (if bitL xs j then 1 else 0)) ∧ Grows w w' := by
  obtain ⟨X, hX⟩ : ∃ X, X = (bcells xs).toArray := ⟨_, rfl⟩
  have hm := and_mask' (xs.getD (j / 8) 0) (7 - j % 8) (by omega)
  rw [show (xs.getD (j / 8) 0).toNat.testBit (7 - j % 8) = bitL xs j from rfl] at hm
  have HMK := Lib.hid (fun W => mask_any j W hj)
  obtain ⟨q, hq⟩ : ∃ q, j / 8 = q := ⟨_, rfl⟩
  rw [hq] at hm
  have hq2 : q < 20 := by omega
  have hc : ∀ W : World, (W.alloc (.cells X 24)).cell? ⟨W.heap.size, q, none⟩ = some (.int .u8 ((xs.getD q 0).toNat : Int)) := fun W => by
    rw [cell_of_row _ _ q _ 24 (0, 0) (heap_alloc_new W _), hX, List.getElem?_toArray, bcells_get xs _ (by omega), List.getD_eq_getElem?_getD, List.getElem?_eq_getElem (by omega)]
    rfl
  generalize (xs.getD q 0).toNat = b at hc hm
  generalize hM : ((2 ^ (7 - j % 8) : Nat) : Int) = M at hm
  have hMp : M ≠ 0 := by rw [← hM]; have := Nat.two_pow_pos (7 - j % 8); omega
  rw [hM] at HMK
  have HP := Lib.hid (fun W => isPlace_yes (j : Int) W (by omega) (by omega))
  have hd : (j : Int) / 8 = (q : Int) := by omega
  rw [← hX]
  clear hX hx hM hq hj
  cases hbit : bitL xs j
  all_goals
    rw [hbit] at hm
    go_enter Tryz.func136, Tryz.ntmps136
    go_wp2
    go_quiet (first | (go_at_call 142; exact quiet_l HP.out) | (go_at_call 143; exact quiet_l HMK.out))
    go_wp2
    go_ret
    exact ⟨rfl, (Grows.alloc w _).trans (Grows.drewN _ _)⟩

def PfxRelG (w : World) (xs ys : List UInt8) (i : Value) (wr : World) : Prop := PfxRel w xs ys i wr ∧ w.drawn ≤ wr.drawn
theorem prefix_g (xs ys : List UInt8) (hx : xs.length = 20) (hy : ys.length = 20) (w : World) :
    Calls Tryz.prog 137 #[.agg (bcells xs).toArray, .agg (bcells ys).toArray] w fun e w' => e = .returned (.int .i64 (pfxN xs ys : Int)) ∧ Grows w w' := by
  obtain ⟨X, hX⟩ : ∃ X, X = (bcells xs).toArray := ⟨_, rfl⟩
  obtain ⟨Y, hY⟩ : ∃ Y, Y = (bcells ys).toArray := ⟨_, rfl⟩
  rw [← hX, ← hY]
  have HE := Lib.hid (And.intro hX (And.intro hY (And.intro hx hy)))
  clear hX hY hx hy
  go_enter Tryz.func137, Tryz.ntmps137
  go_wp2
  have R0 : PfxRelG w xs ys (.int .i64 0) ((w.alloc (.cells X 24)).alloc (.cells Y 24)) := by
    obtain ⟨h1, h2, h4⟩ := heap2 w (.cells X 24) (.cells Y 24)
    obtain ⟨e1, e2, e4, e5⟩ := HE.out
    refine ⟨⟨0, by omega, rfl, fun k hk => by omega, ?_, ?_, h4⟩, ((Grows.alloc w _).trans (Grows.alloc _ _)).2⟩
    · rw [h1, e1]
    · rw [h2, e2]
  have HR0 := Lib.hid R0
  clear R0
  go_loopw [6] (PfxRelG w xs ys) (fun i _ => 20 - (intOf i).toNat)
  case atStart => exact HR0.out
  case round =>
    obtain ⟨⟨j, hj, rfl, hk, hq, hr, hb⟩, hdr⟩ := hrel
    clear HR0
    obtain ⟨_, _, hx, hy⟩ := HE.out
    by_cases hlt : j < 20
    · have c1 := row_byte hq j (by omega)
      have c2 := row_byte hr j (by omega)
      by_cases hne : xs.getD j 0 = ys.getD j 0
      · have R : ∀ n, PfxRelG w xs ys (.int .i64 ((j : Int) + 1)) (wr.drewN n) := by
          intro n
          refine ⟨⟨j + 1, by omega, by go_num, fun k hkj => ?_, hq, hr, below_drewN hb n⟩, Nat.le_trans hdr (Nat.le_add_right _ _)⟩
          by_cases hkj' : k = j
          · rw [hkj']
            exact hne
          · exact hk k (by omega)
        have HR := Lib.hid R
        rw [← hne] at c2
        generalize (xs.getD j 0).toNat = a at c1 c2
        clear hq hr hb R HE hx hy hk hne hdr
        go_wp2
        go_quiet (fail)
        go_wp2
        go_roundw
        case rel => exact HR.out _
        case measure => simp [intOf]; omega
      · have hp := pfxN_at j xs ys hk (by omega) (by omega) hne
        have hbx : bits .xor .u8 ((xs.getD j 0).toNat : Int) ((ys.getD j 0).toNat : Int) = ((xs.getD j 0 ^^^ ys.getD j 0).toNat : Int) := by
          rw [u8_xor_nat _ _ (UInt8.toNat_lt _) (UInt8.toNat_lt _), UInt8.toNat_xor]
        have hnn : ((xs.getD j 0).toNat : Int) ≠ ((ys.getD j 0).toNat : Int) := fun e => hne (UInt8.toNat.inj (by omega))
        have hl8 : lz8 (xs.getD j 0 ^^^ ys.getD j 0) ≤ 8 := by unfold lz8; repeat (first | omega | split)
        have HL := Lib.hid (fun W => lz_any (xs.getD j 0 ^^^ ys.getD j 0) W)
        have HB : Hid (∀ n, Grows w (wr.drewN n)) := Lib.hid (fun n => ⟨below_drewN hb n, Nat.le_trans hdr (Nat.le_add_right _ _)⟩)
        have HP := Lib.hid hp
        generalize lz8 (xs.getD j 0 ^^^ ys.getD j 0) = l at HP HL hl8
        generalize (xs.getD j 0 ^^^ ys.getD j 0).toNat = c at hbx HL
        generalize (xs.getD j 0).toNat = a at c1 hbx hnn
        generalize (ys.getD j 0).toNat = b at c2 hbx hnn
        clear hq hr hb HE hx hy hk hne hp hdr
        go_wp2
        go_quiet (fail)
        go_wp2
        go_quiet (first | (go_at_call 144; exact quiet_l HL.out) | (go_at_call 144; exact quiet_l2 HL.out))
        go_wp2
        go_ret
        refine ⟨congrArg (fun x => Ending.returned (.int .i64 x)) ?_, (HB.out _).trans (Grows.drewN _ _)⟩
        have := HP.out
        omega
    · obtain rfl : j = 20 := by omega
      have he := eq_of_getD (hx.trans hy.symm) (fun k hkx => hk k (by omega))
      have hp := (pfxN_spec xs ys (hx.trans hy.symm)).2.2.2 he
      rw [hx] at hp
      have HB : Hid (Grows w wr) := Lib.hid ⟨hb, hdr⟩
      have HP := Lib.hid hp
      clear hq hr hb hk he hp HE hx hy hdr
      go_wp2
      go_ret
      exact ⟨by rw [HP.out]; rfl, HB.out⟩
end Go.Proofs.YtehgpnnfjgmiiaaGreat
end
section
namespace Go.Proofs.YtehgpnnfjgmiiaaGreat
set_option maxRecDepth 100000
set_option maxHeartbeats 1000000
open Go.RowKit

structure KeptD (W0 : World) where
  val : World
  property : Grows W0 val
instance (W0 : World) : Nonempty (KeptD W0) := ⟨⟨W0, Grows.refl _⟩⟩
theorem wp_region_keptD {P : Program} {id : Nat} {Q : Exit → Act → World → Prop} {a : Act} {w : World} {l : List Oper} (W0 : World) (hW : Grows W0 w) (hm : P.follows .mixedOrders = true) (hB : Region.lexB .any l.toArray = true)
    (h : wpQuiet P l.toArray (fun w' => ∃ n : KeptD W0, w' = n.val) (fun a' => ∀ w', (∃ n : KeptD W0, w' = n.val) → Q .normal a' w') l a) : (Code.region id l.toArray true).wp P Q a w :=
  wp_region_quiet (C := fun w' => ∃ n : KeptD W0, w' = n.val) hm hB ⟨⟨w.drewN 1, hW.trans (Grows.drewN _ _)⟩, rfl⟩ (by simpa using h)
theorem keptD_of {P : Program} {f : FuncId} {args : Array Value} {v : Value} {W0 : World} (h : ∀ W, Calls P f args W fun e w' => e = .returned v ∧ Grows W w') (n : KeptD W0) :
    Calls P f args n.val fun e w' => e = .returned v ∧ ∃ m : KeptD W0, w' = m.val :=
  (h n.val).mono (by rintro e w' ⟨rfl, hb⟩; exact ⟨rfl, ⟨w', n.property.trans hb⟩, rfl⟩)
theorem keptD_row {g : Nat} {W0 : World} {o : Obj} (h : W0.heap[g]? = some o) (hg : g < W0.heap.size) (n : KeptD W0) : n.val.heap[g]? = some o := (n.property.1.block g hg).trans h
theorem quiet_loadD {P : Program} {W0 : World} {o : Oper} {a : Act} {K : Act → Prop} (ty : TypeId) (x : Operand) (ho : o.op = .load ty x) (p : Addr) (hx : a.eval x = .pointer (some p)) (v : Value) (hl : ∀ n : KeptD W0, (loadVar ty p).run P n.val = .ok v n.val)
    (hk : K (a.put o.dst v)) : o.quiet P a (fun w' => ∃ n : KeptD W0, w' = n.val) K :=
  ⟨v, fun w ⟨n, hn⟩ => by
    subst hn
    unfold Oper.quietAt execOp
    simp only [ho, hx, Instr.loadAt, Instr.sureAddr, Sem.run_bind, Sem.run_pure, Result.andThen_ok, hl n]
    exact ⟨rfl, rfl⟩, hk⟩

theorem cmp_g (xs ys : List UInt8) (hx : xs.length = 20) (hy : ys.length = 20) (w : World) :
    Calls Tryz.prog 128 #[.agg (bcells xs).toArray, .agg (bcells ys).toArray] w fun e w' => e = .returned (.int .i64 (cmpL xs ys)) ∧ Grows w w' := by
  have hP := fun W => prefix_g xs ys hx hy W
  have hBt := fun (p : Nat) (hp : p < 160) W => bit_g xs hx p hp W
  have he : ∀ W, (Op.equalIn 10000 24 (.agg (bcells xs).toArray) (.agg (bcells ys).toArray)).run Tryz.prog W = .ok (xs == ys) W := fun W => eq61 xs ys hx hy W
  obtain ⟨X, hX⟩ : ∃ X, X = (bcells xs).toArray := ⟨_, rfl⟩
  obtain ⟨Y, hY⟩ : ∃ Y, Y = (bcells ys).toArray := ⟨_, rfl⟩
  obtain ⟨W0, hW0⟩ : ∃ W0, W0 = (w.alloc (.cells X 24)).alloc (.cells Y 24) := ⟨_, rfl⟩
  obtain ⟨h1, h2, _⟩ := heap2 w (.cells X 24) (.cells Y 24)
  have h4 := (Grows.alloc w (.cells X 24)).trans (Grows.alloc _ (.cells Y 24))
  rw [← hW0] at h1 h2 h4
  have hs0 : W0.heap.size = w.heap.size + 2 := by rw [hW0]; simp
  have l1 : ∀ n : KeptD W0, (loadVar 24 ⟨w.heap.size, 0, none⟩).run Tryz.prog n.val = .ok (.agg X) n.val := fun n => by
    rw [hX] at h1 ⊢
    exact load26 hx (keptD_row h1 (by omega) n)
  have l2 : ∀ n : KeptD W0, (loadVar 24 ⟨w.heap.size + 1, 0, none⟩).run Tryz.prog n.val = .ok (.agg Y) n.val := fun n => by
    rw [hY] at h2 ⊢
    exact load26 hy (keptD_row h2 (by omega) n)
  have HL1 := Lib.hid l1
  have HL2 := Lib.hid l2
  have HK1 : Hid ((loadVar 24 ⟨w.heap.size, 0, none⟩).run Tryz.prog ((w.alloc (.cells X 24)).alloc (.cells Y 24)) = .ok (.agg X) ((w.alloc (.cells X 24)).alloc (.cells Y 24))) := Lib.hid (by rw [← hW0]; exact l1 ⟨W0, Grows.refl _⟩)
  have HK2 : Hid ((loadVar 24 ⟨w.heap.size + 1, 0, none⟩).run Tryz.prog ((w.alloc (.cells X 24)).alloc (.cells Y 24)) = .ok (.agg Y) ((w.alloc (.cells X 24)).alloc (.cells Y 24))) := Lib.hid (by rw [← hW0]; exact l2 ⟨W0, Grows.refl _⟩)
  simp only [← hX, ← hY] at hP he ⊢
  simp only [← hX] at hBt
  have HP := Lib.hid hP
  have HB := Lib.hid hBt
  have HW := Lib.hid hW0
  have HBL := Lib.hid h4
  clear hP hBt h1 h2 h4 hX hY l1 l2 hW0 hs0
  by_cases hxy : xs = ys
  · have he' : ∀ W, (Op.equalIn 10000 24 (.agg X) (.agg Y)).run Tryz.prog W = .ok true W := fun W => by rw [he, hxy]; simp
    have hc : cmpL xs ys = 0 := by unfold cmpL; rw [if_pos hxy]
    rw [hc]
    clear he hc hxy
    go_enter Tryz.func128, Tryz.ntmps128
    go_wp2_with (first
      | ((with_reducible refine wpList_loadV (op := ⟨some 5, _, _, _, _, _⟩) rfl 24 (.tmp 2) rfl _ ?_ _ HK1.out ?_); rfl)
      | ((with_reducible refine wpList_loadV (op := ⟨some 6, _, _, _, _, _⟩) rfl 24 (.tmp 3) rfl _ ?_ _ HK2.out ?_); rfl))
    go_ret
    exact ⟨rfl, by rw [← HW.out]; exact HBL.out⟩
  · have he' : ∀ W, (Op.equalIn 10000 24 (.agg X) (.agg Y)).run Tryz.prog W = .ok false W := fun W => by rw [he]; simp [hxy]
    have hp := ((pfxN_spec xs ys (hx.trans hy.symm)).2.2.1 hxy).1
    rw [hx] at hp
    have hc : cmpL xs ys = if bitL xs (pfxN xs ys) then 1 else -1 := by unfold cmpL; rw [if_neg hxy]
    have HB2 := Lib.hid (fun W => HB.out (pfxN xs ys) (by omega) W)
    rw [hc]
    generalize pfxN xs ys = p at HB2 HP ⊢
    clear he hc hxy HB hp hx hy
    cases hb : bitL xs p
    all_goals
      rw [hb] at HB2
      simp only [Bool.false_eq_true, if_false, if_true] at HB2 ⊢
      clear hb
      go_enter Tryz.func128, Tryz.ntmps128
      go_wp2_with (first
        | ((with_reducible refine wpList_loadV (op := ⟨some 5, _, _, _, _, _⟩) rfl 24 (.tmp 2) rfl _ ?_ _ HK1.out ?_); rfl)
        | ((with_reducible refine wpList_loadV (op := ⟨some 6, _, _, _, _, _⟩) rfl 24 (.tmp 3) rfl _ ?_ _ HK2.out ?_); rfl))
      rw [← HW.out]
      refine wp_region_keptD W0 (Grows.refl _) (by kernel_rfl) (by kernel_rfl) ?_
      repeat (first
        | (go_big_quiet_want; (with_reducible refine quiet_loadD 24 (.tmp 2) rfl _ ?_ _ HL1.out ?_); rfl; simp only [Act.put, List.setIfInBounds_toArray, List.set_cons_zero, List.set_cons_succ]; go_big_quiet_on)
        | (go_big_quiet_want; (with_reducible refine quiet_loadD 24 (.tmp 3) rfl _ ?_ _ HL2.out ?_); rfl; simp only [Act.put, List.setIfInBounds_toArray, List.set_cons_zero, List.set_cons_succ]; go_big_quiet_on)
        | go_big_quiet_step (first | (go_at_call 137; exact keptD_of HP.out _) | (go_at_call 136; exact keptD_of HB2.out _)))
      refine wpQuiet_nil ?_
      rintro _ ⟨⟨wk, hwk⟩, rfl⟩
      go_wp2
      go_ret
      exact ⟨rfl, HBL.out.trans hwk⟩

end Go.Proofs.YtehgpnnfjgmiiaaGreat
end
section
namespace Go.Proofs.YtehgpnnfjgmiiaaGreat
set_option maxRecDepth 100000
open Go.RowKit

theorem fold_acc : ∀ (xs : List UInt8) (n : Nat), xs.foldl (fun n b => n * 256 + b.toNat) n = n * 256 ^ xs.length + getN xs
  | [], n => by simp [getN]
  | x :: xs, n => by
    have h1 := fold_acc xs (n * 256 + x.toNat)
    have h2 := fold_acc xs (0 * 256 + x.toNat)
    have e : getN (x :: xs) = xs.foldl (fun n b => n * 256 + b.toNat) (0 * 256 + x.toNat) := rfl
    rw [List.foldl_cons, h1, e, h2, List.length_cons, Nat.pow_succ, Nat.zero_mul, Nat.zero_add, Nat.add_mul, Nat.mul_assoc, Nat.mul_comm 256, Nat.add_assoc]
theorem getN_cons (x : UInt8) (xs : List UInt8) : getN (x :: xs) = x.toNat * 256 ^ xs.length + getN xs := by
  have e : getN (x :: xs) = xs.foldl (fun n b => n * 256 + b.toNat) (0 * 256 + x.toNat) := rfl
  rw [e, fold_acc, Nat.zero_mul, Nat.zero_add]
theorem byte_fin : ∀ x y : Fin 256, x.val ≠ y.val → (x.val.testBit (7 - lz8 (UInt8.ofNat (x.val ^^^ y.val))) = false ↔ x.val < y.val) := by decide +kernel
theorem byte_lt {x y : UInt8} (h : x ≠ y) : x.toNat.testBit (7 - lz8 (x ^^^ y)) = false ↔ x.toNat < y.toNat := by
  have := byte_fin ⟨x.toNat, x.toNat_lt⟩ ⟨y.toNat, y.toNat_lt⟩ (fun e => h (UInt8.toNat.inj e))
  have e : UInt8.ofNat (x.toNat ^^^ y.toNat) = x ^^^ y := by
    apply UInt8.toNat.inj
    rw [← UInt8.toNat_xor]
    simp
  simp only [e] at this
  exact this
theorem cmpL_cons (x : UInt8) (xs ys : List UInt8) : cmpL (x :: xs) (x :: ys) = cmpL xs ys := by
  unfold cmpL
  by_cases h : xs = ys
  · rw [if_pos h, if_pos (by rw [h])]
  · rw [if_neg h, if_neg (fun e => h (by injection e))]
    have e : pfxN (x :: xs) (x :: ys) = 8 + pfxN xs ys := by
      show (if x = x then 8 + pfxN xs ys else lz8 (x ^^^ x)) = _
      rw [if_pos rfl]
    rw [e, bitL_tail]
theorem cmpL_head {x y : UInt8} (h : x ≠ y) (xs ys : List UInt8) : cmpL (x :: xs) (y :: ys) = if x.toNat.testBit (7 - lz8 (x ^^^ y)) then 1 else -1 := by
  unfold cmpL
  rw [if_neg (fun e => h (by injection e))]
  have e : pfxN (x :: xs) (y :: ys) = lz8 (x ^^^ y) := by
    show (if x = y then 8 + pfxN xs ys else lz8 (x ^^^ y)) = _
    rw [if_neg h]
  rw [e, bitL_head _ _ _ (byte_diff h).1]
/-- An id is below another one just if the number is. -/
theorem cmpL_lt : ∀ (xs ys : List UInt8), xs.length = ys.length → (cmpL xs ys < 0 ↔ getN xs < getN ys)
  | [], [], _ => by simp [cmpL, getN]
  | x :: xs, y :: ys, h => by
    have hl : xs.length = ys.length := by simpa using h
    rw [getN_cons, getN_cons, ← hl]
    have b1 := getN_lt xs
    have b2 := getN_lt ys
    rw [← hl] at b2
    by_cases hxy : x = y
    · subst hxy
      rw [cmpL_cons, cmpL_lt xs ys hl]
      omega
    · rw [cmpL_head hxy]
      have hb := byte_lt hxy
      cases hv : x.toNat.testBit (7 - lz8 (x ^^^ y))
      · have hlt := hb.1 hv
        have : x.toNat * 256 ^ xs.length + 256 ^ xs.length ≤ y.toNat * 256 ^ xs.length := by
          have := Nat.mul_le_mul_right (256 ^ xs.length) (show x.toNat + 1 ≤ y.toNat by omega)
          rw [Nat.add_mul, Nat.one_mul] at this
          exact this
        simp only [Bool.false_eq_true, if_false]
        constructor
        · intro _; omega
        · intro _; decide
      · have hnl : ¬ x.toNat < y.toNat := fun e => by have := hb.2 e; rw [hv] at this; cases this
        have hne : x.toNat ≠ y.toNat := fun e => hxy (UInt8.toNat.inj e)
        have : y.toNat * 256 ^ xs.length + 256 ^ xs.length ≤ x.toNat * 256 ^ xs.length := by
          have := Nat.mul_le_mul_right (256 ^ xs.length) (show y.toNat + 1 ≤ x.toNat by omega)
          rw [Nat.add_mul, Nat.one_mul] at this
          exact this
        simp only [if_true]
        constructor
        · intro h; omega
        · intro h; omega
theorem getN_inj {xs ys : List UInt8} (h : xs.length = ys.length) (e : getN xs = getN ys) : xs = ys := by
  apply Decidable.byContradiction
  intro hne
  have h1 := (cmpL_lt xs ys h)
  have h2 := (cmpL_lt ys xs h.symm)
  have hn := cmpL_neg xs ys h
  have h0 : cmpL xs ys ≠ 0 := by
    unfold cmpL
    rw [if_neg hne]
    split <;> decide
  omega
end Go.Proofs.YtehgpnnfjgmiiaaGreat
end
section
namespace Go.Proofs.YtehgpnnfjgmiiaaGreat
open Go.Shelf Go.RowKit Go.Lib Go.Sort
set_option maxRecDepth 100000

/-- An id. -/
def IDv : Type := { xs : List UInt8 // xs.length = 20 }
instance : Inhabited IDv := ⟨⟨List.replicate 20 0, by simp⟩⟩
def encID (x : IDv) : List Value := bcells x.val
def cfID (x y : IDv) : Int := cmpL x.val y.val
def nID (x : IDv) : Nat := getN x.val
theorem ltID (x y : IDv) : ltOf cfID x y = decide (nID x < nID y) := by
  unfold ltOf cfID nID
  have := cmpL_lt x.val y.val (x.property.trans y.property.symm)
  by_cases h : getN x.val < getN y.val
  · rw [decide_eq_true h, decide_eq_true (this.2 h)]
  · rw [decide_eq_false h, decide_eq_false (fun e => h (this.1 e))]
end Go.Proofs.YtehgpnnfjgmiiaaGreat
end
section
namespace Go.Proofs.YtehgpnnfjgmiiaaGreat
set_option maxRecDepth 100000
open Go.RowKit Go.Lib

theorem encID_length (x : IDv) : (encID x).length = 20 := by unfold encID; rw [bcells_length, x.property]
section
variable {w w' : World}
theorem range_load26 {g off : Nat} {x : IDv} (h : w.rangeAt g off (encID x)) : (loadVar 24 ⟨g, off, none⟩).run Tryz.prog w = .ok (.agg (encID x).toArray) w :=
  run_loadVar_mid w g off 24 (encID x) _ h Tryz.underlying24 rfl (by rw [encID_length]; exact size26)
theorem range_keep {g off : Nat} {cs : List Value} (h : w.rangeAt g off cs) (hb : w'.heap[g]? = w.heap[g]?) : w'.rangeAt g off cs := fun j v hv => by
  rw [World.cell?_of_block (w := w) (w' := w') (a := ⟨g, off + j, none⟩) hb]
  exact h j v hv
variable {B B' : Nat} {A : Option Addr} {L : List IDv}
end

end Go.Proofs.YtehgpnnfjgmiiaaGreat
end
section
namespace Go.Proofs.YtehgpnnfjgmiiaaGreat
set_option maxRecDepth 100000
open Go.Shelf Go.Lib Go.Sort

instance : DecidableEq IDv := fun a b => decidable_of_iff (a.val = b.val) Subtype.ext_iff.symm
section
variable {key : IDv → Nat}
end

theorem nID_inj (a b : IDv) (h : nID a = nID b) : a = b := Subtype.ext (getN_inj (a.property.trans b.property.symm) h)
end Go.Proofs.YtehgpnnfjgmiiaaGreat
end
