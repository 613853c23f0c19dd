/- Contract of slices.Concat at two slices of bytes. Conditions: at most 1,000 bytes each, not both empty. Contract of Bytes of package contact. No condition. Contacts in blocks of their own: making one, storing into it. No condition. Contract of List of package contact. Conditions: at most 10,000 contacts. -/
import Derived.Test.YtehgpnnfjgmiiaaGreatVOja
import Derived.Test.YtehgpnnfjgmiiaaGreatVObd
import Derived.Test.YtehgpnnfjgmiiaaGreatVIiv
import Derived.Test.YtehgpnnfjgmiiaaGreatVObc
import Derived.Test.YtehgpnnfjgmiiaaGreatVROcc
import Derived.Test.YtehgpnnfjgmiiaaGreatVRERefb
import Derived.Test.YtehgpnnfjgmiiaaGreatVRKCdk
import Derived.Test.YtehgpnnfjgmiiaaGreatVRIip
import Derived.Test.YtehgpnnfjgmiiaaGreatVREOctc
import Derived.Test.YtehgpnnfjgmiiaaGreatVNCdc
import Derived.Shelf.Spec.SlicesGrow
section
namespace Go.Proofs
open Go.Shelf
def Tryz.growB_ren : Go.Shelf.Ren := ⟨fun | 4 => 52 | n => n, fun | 0 => 0 | 3 => 3 | 4 => 4 | 9 => 9 | 20 => 20 | 22 => 31 | 25 => 5 | n => n, fun | n => n⟩
theorem Tryz.growB : Go.Proofs.Lays8.n4 Tryz.prog Tryz.growB_ren := {
  mixed := by kernel_rfl
  f4 := ⟨Tryz.f52.name, by decide, Tryz.func52.trans (congrArg some (by kernel_rfl))⟩
  t0 := Tryz.underlying0
  a0 := Tryz.isAgg0
  z0 := Tryz.sizeOf0
  v0 := Tryz.zeroValue0
  t3 := Tryz.underlying3
  a3 := Tryz.isAgg3
  z3 := Tryz.sizeOf3
  v3 := Tryz.zeroValue3
  t4 := Tryz.underlying4
  a4 := Tryz.isAgg4
  z4 := Tryz.sizeOf4
  v4 := Tryz.zeroValue4
  t9 := Tryz.underlying9
  a9 := Tryz.isAgg9
  z9 := Tryz.sizeOf9
  v9 := Tryz.zeroValue9
  t20 := Tryz.underlying20
  a20 := Tryz.isAgg20
  z20 := Tryz.sizeOf20
  v20 := Tryz.zeroValue20
  t22 := Tryz.underlying31
  a22 := Tryz.isAgg31
  z22 := Tryz.sizeOf31
  v22 := Tryz.zeroValue31 }
end Go.Proofs
namespace Go.Proofs.YtehgpnnfjgmiiaaGreat
open Go.Shelf Go.RowKit Go.Lib Go.Sort Go.Great
set_option maxRecDepth 100000
set_option maxHeartbeats 1000000
theorem grow_nil (n : Nat) (hn : 0 < n) (hn2 : n ≤ 1000000) (w : World) : Calls Tryz.prog 52 #[.slice none 0 0, .int .i64 (n : Int)] w fun e w' => ∃ v, e = .returned v ∧ w'.ownsRow w.heap.size 5 1 v 0 (bcells []) ∧ Below w.heap.size w w' := by
  obtain ⟨i0, hi, hz0, hz1, hz2⟩ := info5b
  refine (Any8.slices_Grow_grow Tryz.growB i0 _ hi hz0 (by omega) none 0 0 n [] w (Nat.le_refl _) (by omega) (by rw [hz2]; omega) (by omega) (by simp) (fun _ => rfl) (fun a h => by cases h)).mono ?_
  rintro e w' ⟨rfl, rfl⟩
  have hge := grownCap_ge w (0 + n) 0 5
  have hle := grownCap_le_maxLen w (0 + n) 0 5 (by simp only [maxLen]; omega)
  refine ⟨_, rfl, ⟨by simp [bcells], .inr ⟨w.heap.size, _, _, rfl, Nat.le_refl _, heap_alloc_new w.drew _, Nat.zero_le _, hle, ?_, by simp [bcells]⟩⟩, ((Below.refl _ w).drew).alloc (Nat.le_refl _) _⟩
  simp only [Array.size_append, size_zeroCells, Value.cells, List.size_toArray, List.length_nil]
  show 0 + (0 + n - 0) * 1 + (grownCap w (0 + n) 0 5 - (0 + n)) * 1 = grownCap w (0 + n) 0 5 * 1
  omega
theorem below_own {w0 w w' : World} {ob : Option Nat} (hb : Below w0.heap.size w0 w) (hg : w.grownBy w' ob) (ho : ∀ k, ob = some k → w0.heap.size ≤ k) : Below w0.heap.size w0 w' :=
  ⟨hg.os.trans hb.os, hg.tape.trans hb.tape, hg.output.trans hb.output, Nat.le_trans hb.size hg.size, fun i hi => (hg.block i (Nat.lt_of_lt_of_le hi hb.size) (by intro e; have := ho i (by first | exact e | exact e.symm); omega)).trans (hb.block i hi)⟩
/-- What stands in the first j of two. -/
def preJ (xs ys : List UInt8) (j : Nat) : List UInt8 := if j = 0 then [] else if j = 1 then xs else xs ++ ys
theorem concat_any (A A2 : Option Addr) (c c2 b : Nat) (xs ys : List UInt8) (w : World) (hx : xs.length ≤ 100000) (hy : ys.length ≤ 100000) (h0 : 0 < xs.length + ys.length) (hb : w.heap[b]? = some (.cells #[.slice A xs.length c, .slice A2 ys.length c2] 31 (0, 0))) (hA : BAt w w.heap.size A xs) (hA2 : BAt w w.heap.size A2 ys) :
    Calls Tryz.prog 24 #[.slice (some ⟨b, 0, none⟩) 2 2] w fun e w' => ∃ v, e = .returned v ∧ w'.ownsRow w.heap.size 5 1 v (xs ++ ys).length (bcells (xs ++ ys)) ∧ Below w.heap.size w w' := by
  have hbl : b < w.heap.size := (Array.getElem?_eq_some_iff.1 hb).1
  have HCELL : Hid (∀ W, Below w.heap.size w W → W.cell? ⟨b, 0, none⟩ = some (.slice A xs.length c) ∧ W.cell? ⟨b, 1, none⟩ = some (.slice A2 ys.length c2)) := Lib.hid (fun W hW => by
    have := (hW.block b hbl).trans hb
    exact ⟨by rw [cell_of_row W _ 0 _ 31 (0, 0) this]; rfl, by rw [cell_of_row W _ 1 _ 31 (0, 0) this]; rfl⟩)
  have HG := Lib.hid (grow_nil (xs.length + ys.length) h0 (by omega) w)
  have HAP : Hid (∀ (W : World) (v : Value) (zs us : List UInt8) (B : Option Addr) (d : Nat), True → Below w.heap.size w W → W.ownsRow w.heap.size 5 1 v zs.length (bcells zs) → BAt w w.heap.size B us → Src Tryz.prog 1 31 (.slice B us.length d) us.length (bcells us) W) := Lib.hid (fun W v zs us B d _ hW _ hB => (hB.below hW).srcB d)
  have HXA := Lib.hid hA
  have HYA := Lib.hid hA2
  obtain ⟨n, hn⟩ : ∃ n, n = xs.length := ⟨_, rfl⟩
  obtain ⟨m, hm⟩ : ∃ m, m = ys.length := ⟨_, rfl⟩
  have HN : Hid (n = xs.length ∧ m = ys.length) := Lib.hid ⟨hn, hm⟩
  rw [← hn] at HCELL HG hx h0
  rw [← hm] at HCELL HG hy h0
  clear hb hA hA2 hn hm HAP
  go_enter Tryz.func24, Tryz.ntmps24
  go_wp2
  go_loopg [3, 11] 2 (fun kx s3 s11 wr => ∃ (j : Nat), j ≤ 2 ∧ 2 - j ≤ kx ∧ s11 = .int .i64 (j : Int) ∧ s3 = .int .i64 ((if j = 0 then 0 else if j = 1 then n else n + m : Nat) : Int) ∧ w = wr)
  case atStart => exact ⟨0, by omega, by omega, rfl, rfl, rfl⟩
  case round =>
    obtain ⟨j, hj, hkx, rfl, rfl, rfl⟩ := hrel
    obtain ⟨k0, k1⟩ := HCELL.out w (Below.refl _ _)
    obtain rfl | rfl | rfl : j = 0 ∨ j = 1 ∨ j = 2 := by omega
    · simp only [if_true]
      go_wp2
      go_roundg 1
      case measure => omega
      case rel => exact ⟨1, by omega, by omega, by go_num, by go_num, rfl⟩
    · simp only [if_true, show ¬ (1 : Nat) = 0 from by omega, if_false]
      go_wp2
      go_roundg 0
      case measure => omega
      case rel => exact ⟨2, by omega, by omega, by go_num, by first | rfl | go_num | (congr 1), rfl⟩
    · simp only [show ¬ (2 : Nat) = 0 from by omega, show ¬ (2 : Nat) = 1 from by omega, if_false]
      rw [show ((n + m : Nat) : Int) = (n : Int) + (m : Int) by omega] at HG
      clear k0 k1
      go_upto_region 11 with (first | (go_at_call 52; (with_reducible refine HG.out.mono ?_); rintro e1 w1 ⟨v1, rfl, ho1, hb1⟩))
      have HO1 := Lib.hid ho1
      have HB1 := Lib.hid hb1
      clear ho1 hb1 HG
      go_loopg [6, 27] 2 (fun kx s6 s27 wq => ∃ (j : Nat), j ≤ 2 ∧ 2 - j ≤ kx ∧ s27 = .int .i64 (j : Int) ∧ wq.ownsRow w.heap.size 5 1 s6 (preJ xs ys j).length (bcells (preJ xs ys j)) ∧ Below w.heap.size w wq)
      case atStart => exact ⟨0, by omega, by omega, rfl, HO1.out, HB1.out⟩
      case round =>
        obtain ⟨j, hj, hkx2, rfl, ho, hbq⟩ := hrel
        clear HO1 HB1
        obtain ⟨k0, k1⟩ := HCELL.out wr hbq
        obtain ⟨A5, c5, rfl, _⟩ := own_bat ho
        have HO := Lib.hid ho
        have HBQ := Lib.hid hbq
        have HSX : Hid (Src Tryz.prog 1 31 (.slice A n c) xs.length (bcells xs) wr) := Lib.hid (by rw [HN.out.1]; exact (HXA.out.below hbq).srcB c)
        have HSY : Hid (Src Tryz.prog 1 31 (.slice A2 m c2) ys.length (bcells ys) wr) := Lib.hid (by rw [HN.out.2]; exact (HYA.out.below hbq).srcB c2)
        clear ho hbq
        obtain rfl | rfl | rfl : j = 0 ∨ j = 1 ∨ j = 2 := by omega
        · have HL : Hid (([] : List UInt8).length + xs.length ≤ 10000000) := Lib.hid (by rw [← HN.out.1]; simp; omega)
          have HNX : Hid (∀ v' w', w'.ownsRow w.heap.size 5 1 v' ([] ++ xs).length (bcells ([] ++ xs)) → wr.grownBy w' (Value.slice A5 (preJ xs ys 0).length c5).ownBlock → w'.ownsRow w.heap.size 5 1 v' (preJ xs ys 1).length (bcells (preJ xs ys 1)) ∧ Below w.heap.size w w') := Lib.hid (fun v' w' h1 h2 => ⟨h1, below_own HBQ.out h2 (fun q hq => (HO.out.lt q hq).1)⟩)
          have HO0 : Hid (wr.ownsRow w.heap.size 5 1 (.slice A5 (preJ xs ys 0).length c5) ([] : List UInt8).length (bcells [])) := HO
          go_wp2_with (first
            | (refine wpList_append_bytes rfl (.tmp 31) (.tmp 32) rfl w.heap.size _ [] rfl HO0.out _ xs rfl HSX.out HL.out HBQ.out.size ?_; intro v2 w2 ho2 hg2))
          go_roundg 1
          case measure => omega
          case rel => exact ⟨1, by omega, by omega, by go_num, (HNX.out _ _ ho2 hg2).1, (HNX.out _ _ ho2 hg2).2⟩
        · have HL : Hid ((preJ xs ys 1).length + ys.length ≤ 10000000) := Lib.hid (by rw [← HN.out.2]; show xs.length + m ≤ _; rw [← HN.out.1]; omega)
          have HNX : Hid (∀ v' w', w'.ownsRow w.heap.size 5 1 v' (preJ xs ys 1 ++ ys).length (bcells (preJ xs ys 1 ++ ys)) → wr.grownBy w' (Value.slice A5 (preJ xs ys 1).length c5).ownBlock → w'.ownsRow w.heap.size 5 1 v' (preJ xs ys 2).length (bcells (preJ xs ys 2)) ∧ Below w.heap.size w w') := Lib.hid (fun v' w' h1 h2 => ⟨h1, below_own HBQ.out h2 (fun q hq => (HO.out.lt q hq).1)⟩)
          go_wp2_with (first
            | (refine wpList_append_bytes rfl (.tmp 31) (.tmp 32) rfl w.heap.size _ (preJ xs ys 1) rfl HO.out _ ys rfl HSY.out HL.out HBQ.out.size ?_; intro v2 w2 ho2 hg2))
          go_roundg 0
          case measure => omega
          case rel => exact ⟨2, by omega, by omega, by go_num, (HNX.out _ _ ho2 hg2).1, (HNX.out _ _ ho2 hg2).2⟩
        · have HF : Hid (wr.ownsRow w.heap.size 5 1 (.slice A5 (preJ xs ys 2).length c5) (xs ++ ys).length (bcells (xs ++ ys))) := HO
          clear HO
          generalize (preJ xs ys 2).length = l2 at *
          go_wp2
          go_ret
          exact ⟨_, rfl, HF.out, HBQ.out⟩
end Go.Proofs.YtehgpnnfjgmiiaaGreat
end
section
namespace Go.Proofs.YtehgpnnfjgmiiaaGreat
open Go.Shelf Go.RowKit Go.Lib Go.Sort Go.Great
set_option maxRecDepth 100000
set_option maxHeartbeats 1000000
theorem yieldsIf_loadP {P : Program} {ops : Array Oper} {S : World → Prop} {op : Oper} {a : Act} (hw : Region.wanted op (yielded ops a.tmps) = true) (ty : TypeId) (x : Operand) (ho : op.op = .load ty x) (p : Addr) (hx : a.eval x = .pointer (some p)) (v : Value) (hl : ∀ w, S w → (loadVar ty p).run P w = .ok v w) : YieldsIf P ops S op v a :=
  .inl ⟨hw, fun w hw' => by
    unfold execOp
    simp only [ho, hx, Instr.loadAt, Instr.sureAddr, Sem.run_bind, Sem.run_pure, Result.andThen_ok, hl w hw']⟩
theorem cbytes_any (c : Con) (w : World) : Calls Tryz.prog 79 #[.agg (encC c).toArray] w fun e w' => ∃ v, e = .returned v ∧ w'.ownsRow w.heap.size 5 1 v (ctB c.1).length (bcells (ctB c.1)) ∧ Below w.heap.size w w' := by
  obtain ⟨W0, hW0⟩ : ∃ W0, W0 = w.alloc (.cells (encC c).toArray 63) := ⟨_, rfl⟩
  have hb0 : Below w.heap.size w W0 := by rw [hW0]; exact (Below.refl _ w).alloc (Nat.le_refl _) _
  have h0 : W0.heap[w.heap.size]? = some (.cells (encC c).toArray 63 (0, 0)) := by rw [hW0]; exact heap_alloc_new w _
  have hl0 : w.heap.size < W0.heap.size := (Array.getElem?_eq_some_iff.1 h0).1
  have HA : Hid (∀ W, Below W0.heap.size W0 W → BAt W W.heap.size (some ⟨w.heap.size, 0, none⟩) c.1.1) := Lib.hid (fun W hW => by
    refine .inr ⟨w.heap.size, 0, rfl, Nat.lt_of_lt_of_le hl0 hW.size, fun j hj => ?_⟩
    have h1 : W.rangeAt w.heap.size 0 (encC c) := row_range ((hW.block _ hl0).trans h0)
    rw [encC_id] at h1
    have h2 := range_front h1
    exact h2 j _ (show (bcells c.1.1)[j]? = _ from bcells_get c.1.1 j hj))
  have HK : Hid (∀ W, Below W0.heap.size W0 W → (loadVar 61 ⟨w.heap.size, 20, none⟩).run Tryz.prog W = .ok (.agg (adr c.1.2.1 c.1.2.2)) W) := Lib.hid (fun W hW => box_addr ((hW.block _ hl0).trans h0))
  have H1 : Hid (∀ W, Below W0.heap.size W0 W → Calls Tryz.prog 99 #[.agg (adr c.1.2.1 c.1.2.2)] W fun e w' => ∃ A k, e = .returned (.slice A 6 k) ∧ Below W0.heap.size W0 w' ∧ BAt w' w'.heap.size A (adB c.1.2.1 c.1.2.2)) := by
    refine Lib.hid (fun W hW => (bytes_any c.1.2.1 c.1.2.2 c.2.hh c.2.hp W).mono ?_)
    rintro e w' ⟨v, rfl, ⟨A, k, rfl, _, hA⟩, hb⟩
    exact ⟨A, k, by rw [adB_length], hW.trans (hb.mono hW.size), hA⟩
  have H2 : Hid (∀ W A k, Below W0.heap.size W0 W → BAt W W.heap.size A (adB c.1.2.1 c.1.2.2) → Calls Tryz.prog 24 #[.slice (some ⟨W.heap.size, 0, none⟩) 2 2] (W.alloc (.cells #[.slice (some ⟨w.heap.size, 0, none⟩) 20 20, .slice A 6 k] 31)) fun e w' => ∃ v, e = .returned v ∧ w'.ownsRow w.heap.size 5 1 v (ctB c.1).length (bcells (ctB c.1)) ∧ Below w.heap.size w w' ∧ Below W0.heap.size W0 w') := by
    refine Lib.hid (fun W A k hW hA => ?_)
    have hb2 : Below W.heap.size W (W.alloc (.cells #[.slice (some ⟨w.heap.size, 0, none⟩) 20 20, .slice A 6 k] 31)) := (Below.refl _ W).alloc (Nat.le_refl _) _
    have hx := HA.out _ (hW.trans (hb2.mono hW.size))
    have hy : BAt (W.alloc (.cells #[.slice (some ⟨w.heap.size, 0, none⟩) 20 20, .slice A 6 k] 31)) _ A (adB c.1.2.1 c.1.2.2) := (hA.below hb2).more hb2.size
    have hid := c.2.id
    refine (concat_any (some ⟨w.heap.size, 0, none⟩) A 20 k W.heap.size c.1.1 (adB c.1.2.1 c.1.2.2) _ (by omega) (by rw [adB_length]; omega) (by omega) (by rw [hid, adB_length]; exact heap_alloc_new W _) hx hy).mono ?_
    rintro e w' ⟨v, rfl, ho, hb⟩
    have hb' : Below w.heap.size w (W.alloc (.cells #[.slice (some ⟨w.heap.size, 0, none⟩) 20 20, .slice A 6 k] 31)) := (hb0.trans (hW.mono hb0.size)).trans (hb2.mono (Nat.le_trans hb0.size hW.size))
    have hb9 := hW.trans (hb2.mono hW.size)
    exact ⟨v, rfl, own_baseC ho hb'.size, hb'.trans (hb.mono hb'.size), hb9.trans (hb.mono hb9.size)⟩
  have HB0 := Lib.hid hb0
  have HW := Lib.hid hW0
  generalize adr c.1.2.1 c.1.2.2 = AD at HK H1
  generalize (encC c).toArray = X at HW ⊢
  clear h0 hl0 hb0 hW0
  go_enter Tryz.func79, Tryz.ntmps79
  go_upto_region 1 with fail
  rw [← HW.out]
  clear HW
  have hS0 : Below W0.heap.size W0 W0.drew := (Below.refl _ W0).drew
  refine wp_region_noPanic ?_
  refine wp_region_held_drew (S := fun w' => Below W0.heap.size W0 w') (by kernel_rfl) hS0 (fun hHeld => ?_)
  refine takeH_at 0 3 (v := ?_) rfl rfl (by kernel_rfl) (by kernel_rfl) (by kernel_rfl) (fun _ _ _ h => h) (Or.inl ⟨by rfl, ?_⟩) (by assumption) ?_
  rotate_left
  · (intro wx hSw; (try dsimp only at hSw); go_simp) <;> with_reducible rfl
  simp only [Act.put, List.setIfInBounds_toArray, List.set_cons_zero, List.set_cons_succ]
  refine takeH_at 1 4 (v := ?_) rfl rfl (by kernel_rfl) (by kernel_rfl) (by kernel_rfl) (fun _ _ _ h => h) (Or.inl ⟨by rfl, ?_⟩) (by assumption) ?_
  rotate_left
  · (intro wx hSw; (try dsimp only at hSw); go_simp) <;> with_reducible rfl
  simp only [Act.put, List.setIfInBounds_toArray, List.set_cons_zero, List.set_cons_succ]
  refine takeH_at 2 5 (v := ?_) rfl rfl (by kernel_rfl) (by kernel_rfl) (by kernel_rfl) (fun _ _ _ h => h) (Or.inl ⟨by rfl, ?_⟩) (by assumption) ?_
  rotate_left
  · (intro wx hSw; (try dsimp only at hSw); go_simp) <;> with_reducible rfl
  simp only [Act.put, List.setIfInBounds_toArray, List.set_cons_zero, List.set_cons_succ]
  refine takeH_at 3 6 (v := .agg AD) rfl rfl (by kernel_rfl) (by kernel_rfl) (by kernel_rfl) (fun _ _ _ h => h) (yieldsIf_loadP (by rfl) 61 (.tmp 5) rfl ⟨w.heap.size, 20, none⟩ rfl _ (fun w hw => HK.out w hw)) (by assumption) ?_
  simp only [Act.put, List.setIfInBounds_toArray, List.set_cons_zero, List.set_cons_succ]
  refine wpAnyH_ready (rs := [4]) (by kernel_rfl) (by simp) ?_
  refine AllReadyH.cons rfl (fun K hK => ?_) ?_
  · go_simp
    go_wp2_with (go_at_call 99; (with_reducible refine (H1.out _ hS0).mono ?_); rintro e w2 ⟨A2, k2, rfl, hb2, hA2⟩)
    refine hK.out _ _ (by assumption) (fun hHeld => ?_)
    clear hK K
    refine wpAnyH_ready (rs := [5]) (by kernel_rfl) (by simp) ?_
    refine AllReadyH.cons rfl (fun K hK => ?_) ?_
    · go_simp
      have hb3 : Below W0.heap.size W0 (w2.alloc (.cells #[.slice (some ⟨w.heap.size, 0, none⟩) 20 20, .slice A2 6 k2] 31)) := hb2.alloc hb2.size _
      go_wp2
      refine hK.out _ _ (by assumption) (fun hHeld => ?_)
      clear hK K
      refine wpAnyH_ready (rs := [6]) (by kernel_rfl) (by simp) ?_
      refine AllReadyH.cons rfl (fun K hK => ?_) ?_
      · go_simp
        go_wp2_with (go_at_call 24; (with_reducible refine (H2.out _ _ _ hb2 hA2).mono ?_); rintro e w4 ⟨v4, rfl, ho4, hb4, hb5⟩)
        refine hK.out _ _ (by assumption) (fun hHeld => ?_)
        clear hK K
        refine takeH_at 7 2 (v := ?_) rfl rfl (by kernel_rfl) (by kernel_rfl) (by kernel_rfl) (fun _ _ _ h => h) (Or.inl ⟨by rfl, ?_⟩) (by assumption) ?_
        rotate_left
        · (intro wx hSw; (try dsimp only at hSw); go_simp) <;> with_reducible rfl
        simp only [Act.put, List.setIfInBounds_toArray, List.set_cons_zero, List.set_cons_succ]
        refine wpAnyH_done (by kernel_rfl) ?_ _
        refine NoPanic.normal ?_
        go_wp2
        go_ret
        exact ⟨_, rfl, ho4, hb4⟩
      exact AllReadyH.nil
    exact AllReadyH.nil
  exact AllReadyH.nil
end Go.Proofs.YtehgpnnfjgmiiaaGreat
end
section
namespace Go.Proofs.YtehgpnnfjgmiiaaGreat
open Go.Shelf Go.RowKit Go.Lib Go.Sort Go.Great
set_option maxRecDepth 100000
set_option maxHeartbeats 1000000
theorem size60 : (Tryz.prog.info? 63).map (·.size) = some 22 := by kernel_rfl
/-- A contact's block is made. -/
theorem wpList_alloc60 {w : World} {ops : Array Oper} {rest : List Oper} {o : Oper} {a : Act} {Q : Exit → Act → World → Prop} (hgd : o.guard = none) (d : Nat) (hd : o.dst = some d) (ho : o.op = .alloc 63)
    (h : wpList Tryz.prog ops Q rest (a.put (some d) (.pointer (some ⟨w.heap.size, 0, none⟩))) (w.alloc (.cells (encC default).toArray 63))) : wpList Tryz.prog ops Q (o :: rest) a w :=
  wpList_plain hgd fun _ hK => by
    have hz := fun W => zV60 W
    generalize (encC default).toArray = Z at hz h
    unfold Oper.wp execOp
    simp only [ho, Instr.alloc, Sem.run_bind, hz, Result.andThen_ok, Value.cells]
    simp [Oper.upon, hd]
    exact hK _ _ h
/-- A contact is stored into the block made last. -/
theorem wpList_store60 {w : World} {ops : Array Oper} {rest : List Oper} {o : Oper} {a : Act} {Q : Exit → Act → World → Prop} (hgd : o.guard = none) (x y : Operand) (ho : o.op = .store 63 x y) (z c : Con) (hx : a.eval x = .pointer (some ⟨w.heap.size, 0, none⟩)) (hy : a.eval y = .agg (encC c).toArray)
    (h : wpList Tryz.prog ops Q rest (a.put o.dst undef) (w.alloc (.cells (encC c).toArray 63))) : wpList Tryz.prog ops Q (o :: rest) a (w.alloc (.cells (encC z).toArray 63)) := by
  have hsz : (encC c).toArray.size = 22 := by rw [List.size_toArray, encC_length]
  refine wpList_store_mid (P := Tryz.prog) hgd 63 x y ho w.heap.size 0 (encC c).toArray hx hy ?_ (by rw [hsz]; exact size60) ?_ ?_
  · have := there_new w 63 (encC z)
    rw [encC_length] at this
    rw [hsz]
    exact this
  · rw [Array.all_eq_true_iff_forall_mem]
    intro v hv
    exact encC_one c v (by simpa using hv)
  · rw [show (encC c).toArray.toList = encC c from rfl, setCells_all w 63 (encC z) (encC c) (by rw [encC_length, encC_length])]
    exact h
end Go.Proofs.YtehgpnnfjgmiiaaGreat
end
section
namespace Go.Proofs.YtehgpnnfjgmiiaaGreat
open Go.Shelf Go.RowKit Go.Lib Go.Sort Go.Great
set_option maxRecDepth 100000
set_option maxHeartbeats 1000000
/-- What List tells. -/
def LstC (w : World) (L : List Con) (e : Ending) (w' : World) : Prop :=
  ∃ v, e = .returned (.tuple #[v, .int .i64 (if goodC (ctsC L) then 0 else 2)]) ∧ w'.ownsRow w.heap.size 5 1 v (if goodC (ctsC L) then listC (ctsC L) else []).length (bcells (if goodC (ctsC L) then listC (ctsC L) else [])) ∧ Below w.heap.size w w'
theorem CAt.some_ {w : World} {B : Nat} {A : Option Addr} {L : List Con} (h : CAt w B A L) (hL : 0 < L.length) : ∃ g off, A = some ⟨g, off, none⟩ ∧ g < B ∧ w.rangeAt g off (flatE encC L) := by
  rcases h with rfl | h
  · simp at hL
  · exact h
theorem range_elem {w : World} {g off : Nat} {L : List Con} (hr : w.rangeAt g off (flatE encC L)) (j : Nat) (hj : j < L.length) : w.rangeAt g (off + j * 22) (encC L[j]) := fun i v hv => by
  have hi := (List.getElem?_eq_some_iff.1 hv).1
  rw [encC_length] at hi
  have := flatE_get encC_length (by omega) L j _ i (List.getElem?_eq_getElem hj) hi
  rw [hv] at this
  rw [Nat.add_assoc]
  exact hr _ v this
theorem flatC_take (L : List Con) (j : Nat) (hj : j < L.length) : flatC (ctsC (L.take (j + 1))) = flatC (ctsC (L.take j)) ++ ctB L[j].1 := by
  rw [List.take_succ_eq_append_getElem hj]
  unfold ctsC flatC
  rw [List.map_append, List.flatMap_append]
  simp
theorem putB1 (n : Nat) (hn : n < 256) : putB n 1 = [UInt8.ofNat n] := by
  unfold putB
  simp
theorem flatC_len (L : List Con) : (flatC (ctsC L)).length = L.length * 26 := by
  unfold ctsC flatC
  induction L with
  | nil => rfl
  | cons c L ih => rw [List.map_cons, List.flatMap_cons, List.length_append, ih, ctB_length c.2.id, List.length_cons]; omega
theorem clist_any (A : Option Addr) (c : Nat) (L : List Con) (w : World) (hL : L.length ≤ 10000) (hA : CAt w w.heap.size A L) (hA2 : A = none ∨ ∃ g off, A = some ⟨g, off, none⟩) : Calls Tryz.prog 53 #[.slice A L.length c] w (LstC w L) := by
  have HG := Lib.hid (isgood_any A c L w hL hA hA2)
  by_cases hg : goodC (ctsC L) = true
  · have h64 : L.length ≤ 64 := by have := goodC_len hg; unfold ctsC at this; simpa using this
    rw [hg] at HG
    have HFIN : Hid (∀ v w', w'.ownsRow w.heap.size 5 1 v (putB L.length 1 ++ flatC (ctsC (L.take L.length))).length (bcells (putB L.length 1 ++ flatC (ctsC (L.take L.length)))) → Below w.heap.size w w' → LstC w L (.returned (.tuple #[v, .int .i64 0])) w') := by
      refine Lib.hid (fun v w' ho hb => ⟨v, by rw [hg]; rfl, ?_, hb⟩)
      rw [hg]
      rw [List.take_length, putB1 _ (by omega)] at ho
      have e : listC (ctsC L) = [UInt8.ofNat L.length] ++ flatC (ctsC L) := by unfold listC; rw [show (ctsC L).length = L.length by unfold ctsC; simp]; rfl
      simp only [if_true]
      rw [e]
      exact ho
    have HP : Hid (∀ W, Below w.heap.size w W → Calls Tryz.prog 22 #[.slice none 0 0, .int .u64 (L.length : Int), .int .i64 1] W fun e w' => ∃ v, e = .returned v ∧ w'.ownsRow w.heap.size 5 1 v (putB L.length 1 ++ flatC (ctsC (L.take 0))).length (bcells (putB L.length 1 ++ flatC (ctsC (L.take 0)))) ∧ Below w.heap.size w w') := by
      refine Lib.hid (fun W hW => (put_yes none 0 L.length 1 [] W (.inl rfl) (by simp) (by omega) (by omega) (by omega)).mono ?_)
      rintro e w' ⟨v, rfl, k1, k2⟩
      refine ⟨v, rfl, own_baseC (by simpa [ctsC, flatC] using k1) hW.size, hW.trans (k2.mono hW.size)⟩
    have HRW : Hid (∀ j (hj : j < L.length) (v : Value) (wr : World), wr.ownsRow w.heap.size 5 1 v (putB L.length 1 ++ flatC (ctsC (L.take j))).length (bcells (putB L.length 1 ++ flatC (ctsC (L.take j)))) → Below w.heap.size w wr →
        (∃ g off, A = some ⟨g, off, none⟩ ∧ (loadVar 63 ⟨g, off + j * 22, none⟩).run Tryz.prog wr = .ok (.agg (encC L[j]).toArray) wr) ∧
        Calls Tryz.prog 79 #[.agg (encC L[j]).toArray] (wr.alloc (.cells (encC L[j]).toArray 63)) fun e w2 => ∃ A2 k2, e = .returned (.slice A2 26 k2) ∧ Below w.heap.size w w2 ∧ w2.ownsRow w.heap.size 5 1 v (putB L.length 1 ++ flatC (ctsC (L.take j))).length (bcells (putB L.length 1 ++ flatC (ctsC (L.take j)))) ∧ Src Tryz.prog 1 31 (.slice A2 26 k2) (ctB L[j].1).length (bcells (ctB L[j].1)) w2) := by
      refine Lib.hid (fun j hj v wr ho hb => ⟨?_, ?_⟩)
      · obtain ⟨g, off, rfl, hgl, hr⟩ := (hA.below hb).some_ (by omega)
        exact ⟨g, off, rfl, load60 (range_elem hr j hj)⟩
      · have hb1 : Below wr.heap.size wr (wr.alloc (.cells (encC L[j]).toArray 63)) := (Below.refl _ wr).alloc (Nat.le_refl _) _
        have ho1 := ho.kept (grown_of_bel hb1 none) (by cases v.ownBlock <;> simp)
        refine (cbytes_any L[j] (wr.alloc (.cells (encC L[j]).toArray 63))).mono ?_
        rintro e w2 ⟨v2, rfl, ho2, hb2⟩
        obtain ⟨A2, k2, rfl, hbat, _⟩ := own_bat ho2
        have hl : (ctB L[j].1).length = 26 := ctB_length L[j].2.id
        have hbw := hb.trans (hb1.mono hb.size)
        refine ⟨A2, k2, by rw [hl], hbw.trans (hb2.mono hbw.size), ho1.kept (grown_of_bel hb2 none) (by cases v.ownBlock <;> simp), ?_⟩
        have := hbat.srcB k2
        rw [hl] at this ⊢
        exact this
    have HLEN : Hid (∀ j, j ≤ L.length → (putB L.length 1 ++ flatC (ctsC (L.take j))).length + 26 ≤ 10000000) := Lib.hid (fun j hj => by rw [List.length_append, flatC_len, putB_length, List.length_take]; omega)
    have HNX : Hid (∀ j (hj : j < L.length), putB L.length 1 ++ flatC (ctsC (L.take (j + 1))) = putB L.length 1 ++ flatC (ctsC (L.take j)) ++ ctB L[j].1) := Lib.hid (fun j hj => by rw [flatC_take L j hj, List.append_assoc])
    obtain ⟨n, hn⟩ : ∃ n, n = L.length := ⟨_, rfl⟩
    have HN : Hid (n = L.length) := Lib.hid hn
    rw [← hn] at HG HP h64 ⊢
    clear hA hA2 hL hn
    go_enter Tryz.func53, Tryz.ntmps53
    go_upto_region 5 with (first
      | (go_at_call 78; (with_reducible refine HG.out.mono ?_); rintro e1 w1 ⟨rfl, hb1⟩)
      | (go_at_call 22; (with_reducible refine (HP.out _ hb1).mono ?_); rintro e2 w2 ⟨v2, rfl, ho2, hb2⟩))
    have HO2 := Lib.hid ho2
    have HB2 := Lib.hid hb2
    clear ho2 hb2 hb1 HG HP
    go_loopg [4, 16] n (fun kx s4 s16 wr => ∃ (j : Nat), j ≤ n ∧ n - j ≤ kx ∧ s16 = .int .i64 (j : Int) ∧ wr.ownsRow w.heap.size 5 1 s4 (putB n 1 ++ flatC (ctsC (L.take j))).length (bcells (putB n 1 ++ flatC (ctsC (L.take j)))) ∧ Below w.heap.size w wr)
    case atStart => exact ⟨0, by omega, by omega, rfl, HO2.out, HB2.out⟩
    case round =>
      obtain ⟨j, hj, hkx, rfl, ho, hb⟩ := hrel
      clear HO2 HB2
      by_cases hlt : j < n
      · have hlt' : (j : Int) < (n : Int) := by omega
        have hlL : j < L.length := by rw [← HN.out]; exact hlt
        rw [HN.out] at ho
        obtain ⟨A4, c4, hv4, _⟩ := own_bat ho
        obtain ⟨lb, hlb⟩ : ∃ lb, lb = (putB L.length 1 ++ flatC (ctsC (L.take j))).length := ⟨_, rfl⟩
        rw [← hlb] at hv4
        clear hlb
        subst hv4
        obtain ⟨⟨g, off, rfl, hld⟩, hcall⟩ := HRW.out j hlL _ wr ho hb
        have HLD := Lib.hid hld
        have HCA := Lib.hid hcall
        have HLX := Lib.hid (load60 (row_range (heap_alloc_new wr (.cells (encC L[j]).toArray 63))))
        have hl : (ctB L[j].1).length = 26 := ctB_length L[j].2.id
        have HLE : Hid ((putB L.length 1 ++ flatC (ctsC (L.take j))).length + (ctB L[j].1).length ≤ 10000000) := Lib.hid (by rw [hl]; exact HLEN.out j (by omega))
        have HNJ := Lib.hid (HNX.out j hlL)
        have HR : Hid (∀ v' w2 w', w2.ownsRow w.heap.size 5 1 (.slice A4 lb c4) (putB L.length 1 ++ flatC (ctsC (L.take j))).length (bcells (putB L.length 1 ++ flatC (ctsC (L.take j)))) → Below w.heap.size w w2 → w'.ownsRow w.heap.size 5 1 v' (putB L.length 1 ++ flatC (ctsC (L.take j)) ++ ctB L[j].1).length (bcells (putB L.length 1 ++ flatC (ctsC (L.take j)) ++ ctB L[j].1)) → w2.grownBy w' (Value.slice A4 lb c4).ownBlock → w'.ownsRow w.heap.size 5 1 v' (putB n 1 ++ flatC (ctsC (L.take (j + 1)))).length (bcells (putB n 1 ++ flatC (ctsC (L.take (j + 1))))) ∧ Below w.heap.size w w') := Lib.hid (fun v' w2 w' h0 hb2 h1 h2 => by
          rw [HN.out, HNJ.out]
          exact ⟨h1, below_own hb2 h2 (fun q hq => (h0.lt q hq).1)⟩)
        obtain ⟨cv, hcv⟩ : ∃ cv : Con, cv = L[j] := ⟨_, rfl⟩
        rw [← hcv] at HLD HCA HLX HLE HR
        clear hld hcall ho hb hl hcv HNJ
        generalize putB L.length 1 ++ flatC (ctsC (L.take j)) = bs at HLD HCA HLX HLE HR ⊢
        go_wp2_with (first
          | ((with_reducible refine wpList_loadV (op := ⟨some 19, _, _, _, _, _⟩) rfl 63 (.tmp 18) rfl _ ?_ _ HLD.out ?_); rfl)
          | (with_reducible refine wpList_alloc60 (o := ⟨some 6, _, _, _, _, _⟩) rfl 6 rfl rfl ?_)
          | ((with_reducible refine wpList_store60 (o := ⟨none, _, _, _, _, _⟩) rfl (.tmp 6) (.tmp 19) rfl default cv ?_ ?_ ?_); rfl; rfl)
          | ((with_reducible refine wpList_loadV (op := ⟨some 21, _, _, _, _, _⟩) rfl 63 (.tmp 6) rfl _ ?_ _ HLX.out ?_); rfl)
          | (go_at_call 79; (with_reducible refine HCA.out.mono ?_); rintro e3 w3 ⟨A3, k3, rfl, hb3, ho3, hs3⟩)
          | (refine wpList_append_bytes rfl (.tmp 20) (.tmp 22) rfl w.heap.size _ bs rfl ho3 _ (ctB cv.1) rfl hs3 HLE.out hb3.size ?_; intro v5 w5 ho5 hg5))
        go_roundg (n - (j + 1))
        case measure => omega
        case rel => exact ⟨j + 1, by omega, Nat.le_refl _, by go_num, (HR.out _ _ _ ho3 hb3 ho5 hg5).1, (HR.out _ _ _ ho3 hb3 ho5 hg5).2⟩
      · obtain rfl : j = n := by omega
        have HF := Lib.hid (HFIN.out _ wr (by rw [← HN.out]; exact ho) hb)
        obtain ⟨A4, c4, rfl, _⟩ := own_bat ho
        clear ho hb HFIN
        generalize (putB j 1 ++ flatC (ctsC (L.take j))).length = lb at *
        go_wp2
        go_ret2
        exact HF.out
  · have hg' : goodC (ctsC L) = false := by cases h : goodC (ctsC L) with | true => exact absurd h hg | false => rfl
    rw [hg'] at HG
    have HFIN : Hid (∀ w', Below w.heap.size w w' → LstC w L (.returned (.tuple #[.slice none 0 0, .int .i64 2])) w') := Lib.hid (fun w' hb => ⟨_, by rw [hg']; rfl, by rw [hg']; exact ⟨by simp [bcells], .inl ⟨rfl, rfl⟩⟩, hb⟩)
    generalize L.length = n at *
    clear hA hA2
    go_enter Tryz.func53, Tryz.ntmps53
    go_wp2_with (first | (go_at_call 78; (with_reducible refine HG.out.mono ?_); rintro e1 w1 ⟨rfl, hb1⟩))
    go_ret2
    exact HFIN.out _ hb1
end Go.Proofs.YtehgpnnfjgmiiaaGreat
end
