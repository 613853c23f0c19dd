/- Put of the program: a publisher that is there; Put. Conditions: at most 10,000 instances, targets of at most 100,000 bytes. lives of the statements of layer roster. No condition. Same of the reference at instances. No condition. Slices of bytes and numbers that come in, as lists. No condition. -/
import Derived.Test.YtkceipkgebgigaaXOda
import Derived.Test.YtkceipkgebgigaaXIix
import Derived.Test.YtkceipkgebgigaaXOcc
import Derived.Test.YtkceipkgebgigaaProg
import Derived.Test.YtkceipkgebgigaaXJLrg
import Derived.Test.YtkceipkgebgigaaRows
import Derived.ProofKit
import Derived.OpenShut
import Derived.ChangeOld
import Derived.SizedLaws
section
namespace Go.Proofs.Ytkceipkgebgigaa
open Go.Shelf Go.RowKit Go.Lib Go.Great
set_option maxRecDepth 100000
set_option maxHeartbeats 400000
theorem put_old (A : Option Addr) (c : Nat) (L : List Ins) (x : Ins) (w : World) (ht : ∀ y ∈ L, y.tgt.length ≤ 100000) (hx : x.tgt.length ≤ 100000) (hA : IAt w w.heap.size A L) (hA2 : A = none ∨ ∃ g off, A = some ⟨g, off, none⟩)
    (hg : goodR L = true) (hi : goodI x = true) (hf : foundAt L x (lowR L x) = true) : Calls Try.prog 39 #[.slice A L.length c, .agg (encI x).toArray] w (PutIs w L x) := by
  have hl := ((goodR_iff L).1 hg).1
  have hal : lowR L x < L.length := by
    unfold foundAt at hf
    rw [Bool.and_eq_true, decide_eq_true_eq] at hf
    exact hf.1
  have hM : putG L x = if cmpI x L[lowR L x]! > 0 then L.set (lowR L x) x else L := by unfold putG; rw [if_pos hf]
  have hM16 : (putG L x).length ≤ 16 := by rw [hM]; split <;> simp [hl]
  have K := putK A c L (putG L x) x w (by omega) (by omega) ht hx hA hA2
  have hb0 : Below w.heap.size w (w.alloc (.cells (encI x).toArray 28)) := (Below.refl _ w).alloc (Nat.le_refl _) _
  have hA1 : IAt (w.alloc (.cells (encI x).toArray 28)) (w.alloc (.cells (encI x).toArray 28)).heap.size A L := (hA.below hb0).more hb0.size
  obtain ⟨gA, off, rfl, hgA, hrA⟩ : ∃ gA off, A = some ⟨gA, off, none⟩ ∧ gA < (w.alloc (.cells (encI x).toArray 28)).heap.size ∧ (w.alloc (.cells (encI x).toArray 28)).rangeAt gA off (flatE encI L) := by
    rcases hA1 with e | ⟨gA, off, e, h1, h2⟩
    · rw [e] at hal; simp at hal
    · exact ⟨gA, off, e, h1, h2⟩
  obtain ⟨W1, hW1⟩ : ∃ W1, W1 = w.alloc (.cells (encI x).toArray 28) := ⟨_, rfl⟩
  have HSE : Hid (∀ (N : List Ins) (W : World) (v : Value), RowI W1 W1.heap.size N W v → Calls Try.prog 78 #[.slice (some ⟨gA, off, none⟩) L.length c, .agg (encI x).toArray, .func (.func 79) #[] #[]] W fun e w' => e = .returned (.tuple #[.int .i64 (lowR L x : Int), .bool (foundAt L x (lowR L x))]) ∧ RowI W1 W1.heap.size N w' v) := Lib.hid (fun N W v hR => put_search _ c L N x W1 W v hg (by rw [hW1]; exact hA1) hR)
  have HROW : Hid (∀ (N : List Ins) (W : World) (v : Value), RowI W1 W1.heap.size N W v → ∀ q : Kept W.heap.size W, (loadVar 28 ⟨gA, off + lowR L x * 28, none⟩).run Try.prog q.val = .ok (.agg (encI L[lowR L x]!).toArray) q.val) := Lib.hid (fun N W v hR q => by
    have := hR.step q.property
    rw [← hW1] at hgA hrA
    exact row_load hrA hgA this.1 hal)
  rw [← hW1] at K
  have HLQ : Hid (∀ (N : List Ins) (W : World) (v : Value), RowI W1 W1.heap.size N W v → ∀ q : Kept W.heap.size W, (loadVar 28 ⟨w.heap.size, 0, none⟩).run Try.prog q.val = .ok (.agg (encI x).toArray) q.val) := Lib.hid (fun N W v hR q => K.ld N _ v (hR.step q.property))
  have HCL : Hid (Calls Try.prog 77 #[.slice (some ⟨gA, off, none⟩) L.length c] W1 fun e w' => ∃ g' c', e = .returned (.slice (some ⟨g', 0, none⟩) L.length c') ∧ RowI W1 W1.heap.size L w' (.slice (some ⟨g', 0, none⟩) L.length c')) := Lib.hid (by
    refine K.cl.mono ?_
    rintro e w' ⟨v, rfl, hR⟩
    obtain ⟨A', c', hv, hn, hc, hm, hform⟩ := own_formI hR.2.1
    rcases hform with ⟨_, e, _⟩ | ⟨g', rfl, _⟩
    · rw [e] at hal; simp at hal
    · subst hv
      exact ⟨g', c', rfl, hR⟩)
  have HGD := Lib.hid K.gd
  have HGI := Lib.hid K.gi
  have HLD := Lib.hid K.ld
  have HSM := Lib.hid K.sm
  have HCM := Lib.hid (fun W => icmp_any x L[lowR L x]! W)
  have HFIN : Hid (∀ W v, RowI W1 W1.heap.size (putG L x) W v → PutIs w L x (.returned (.tuple #[v, .bool (!sameR (putG L x) L)])) W) := Lib.hid (fun W v hR => by
    obtain ⟨f1, f2⟩ := K.fin W v hR
    have e1 : putL L x = putG L x := by unfold putL; rw [hg, hi]; rfl
    have e2 : putOk L x = !sameR (putG L x) L := by unfold putOk; rw [hg, hi]; rfl
    exact ⟨v, by rw [e2], by rw [e1]; exact f1, f2⟩)
  have HST : Hid (∀ W g' c', RowI W1 W1.heap.size L W (.slice (some ⟨g', 0, none⟩) L.length c') → W.there g' (lowR L x * 28) 28 ∧ RowI W1 W1.heap.size (L.set (lowR L x) x) (W.setCells g' (lowR L x * 28) (encI x)) (.slice (some ⟨g', 0, none⟩) L.length c')) := Lib.hid (fun W g' c' hR => by
    obtain ⟨f1, f2, f3⟩ := own_store x hR.2.1 rfl hal
    exact ⟨f1, below_ownB hR.1 hR.2.2 f3 (fun k hk => (hR.2.1.lt k (by first | exact hk | exact hk.symm)).1), by rw [List.length_set]; exact f2, Nat.le_trans hR.2.2 f3.size⟩)
  have HSTEP : Hid (∀ W W' v, RowI W1 W1.heap.size L W v → Below W.heap.size W W' → RowI W1 W1.heap.size L W' v) := Lib.hid (fun W W' v hR hb => hR.step hb)
  have hin : (lowR L x : Int) < (L.length : Int) := by omega
  have hsz : (encI x).toArray.size = 28 := by rw [List.size_toArray, encI_length]
  have HSZ : Hid ((Try.prog.info? 28).map (·.size) = some (encI x).toArray.size) := Lib.hid (by rw [hsz]; exact size28i)
  have HALL := encI_all x
  rw [hf] at HSE
  rw [hg] at HGD
  rw [hi] at HGI
  have HW1 := Lib.hid hW1
  clear K hA hA2 ht hx hA1 hb0 hM16 hl hf hg hi hgA hrA hW1
  by_cases hgt : cmpI x L[lowR L x]! > 0
  · rw [if_pos hgt] at hM
    rw [hM] at HSM HFIN
    clear hM
    generalize L.set (lowR L x) x = M at *
    generalize sameR M L = sr at *
    generalize cmpI x L[lowR L x]! = cv at *
    generalize (encI L[lowR L x]!).toArray = Y at *
    generalize lowR L x = a at *
    generalize L.length = n at *
    go_enter Try.func39, Try.ntmps39
    go_upto_region 7 with (first
      | (rw [← HW1.out]; go_at_call 77; (with_reducible refine HCL.out.mono ?_); rintro e2 w2 ⟨g2, c2, rfl, hp2⟩)
      | (go_at_call 40; (with_reducible refine (HGD.out _ _ _ hp2).mono ?_); rintro e3 w3 ⟨rfl, hp3⟩)
      | ((with_reducible refine wpList_loadG (o := ⟨some 15, _, _, _, _, _⟩) ?_ 28 (.tmp 3) rfl _ ?_ _ (HLD.out _ _ _ hp3) ?_); rfl; rfl)
      | (go_at_call 14; (with_reducible refine (HGI.out _ _ _ hp3).mono ?_); rintro e4 w4 ⟨rfl, hp4⟩)
      | ((with_reducible refine wpList_loadV (op := ⟨some 22, _, _, _, _, _⟩) rfl 28 (.tmp 3) rfl _ ?_ _ (HLD.out _ _ _ hp4) ?_); rfl)
      | (go_at_call 78; (with_reducible refine (HSE.out _ _ _ hp4).mono ?_); rintro e5 w5 ⟨rfl, hp5⟩))
    have HQ34 := Lib.hid (HLQ.out _ _ _ hp5)
    have HQ38 := Lib.hid (HROW.out _ _ _ hp5)
    have HP5 := Lib.hid hp5
    clear hp2 hp3 hp4 hp5
    refine wp_region_kept w5.heap.size w5 (Below.refl _ _) (by kernel_rfl) (by kernel_rfl) ?_
    repeat (first
      | (go_big_quiet_want; (with_reducible refine quiet_loadV 28 (.tmp 3) rfl _ ?_ _ HQ34.out ?_); rfl; simp only [Act.put, List.setIfInBounds_toArray, List.set_cons_zero, List.set_cons_succ]; go_big_quiet_on)
      | (go_big_quiet_want; (with_reducible refine quiet_loadV 28 (.tmp 37) rfl _ ?_ _ HQ38.out ?_); rfl; simp only [Act.put, List.setIfInBounds_toArray, List.set_cons_zero, List.set_cons_succ]; go_big_quiet_on)
      | go_big_quiet_step (first | (go_at_call 24; with_reducible exact kept_of (Nat.le_refl _) HCM.out _)))
    refine wpQuiet_nil ?_
    rintro wk ⟨⟨_, hwk⟩, rfl⟩
    have hp6 := HSTEP.out _ _ _ HP5.out hwk
    obtain ⟨hth, hp7⟩ := HST.out _ _ _ hp6
    have HTH := Lib.hid (show wk.there g2 (a * 28) (encI x).toArray.size by rw [hsz]; exact hth)
    clear hwk hth
    go_wp2_with (first
      | ((with_reducible refine wpList_loadV (op := ⟨some 43, _, _, _, _, _⟩) rfl 28 (.tmp 3) rfl _ ?_ _ (HLD.out _ _ _ hp6) ?_); rfl)
      | ((with_reducible refine wpList_store_mid (op := ⟨none, _, _, _, _, _⟩) rfl 28 (.tmp 44) (.tmp 43) rfl g2 (a * 28) (encI x).toArray ?_ ?_ HTH.out HSZ.out HALL ?_); rfl; rfl)
      | (go_at_call 44; (with_reducible refine (HSM.out _ _ hp7).mono ?_); rintro e8 w8 ⟨rfl, hp8⟩))
    go_ret2
    exact HFIN.out _ _ hp8
  · rw [if_neg hgt] at hM
    rw [hM] at HSM HFIN
    clear hM HST
    generalize sameR L L = sr at *
    generalize cmpI x L[lowR L x]! = cv at *
    generalize (encI L[lowR L x]!).toArray = Y at *
    generalize lowR L x = a at *
    generalize L.length = n at *
    go_enter Try.func39, Try.ntmps39
    go_upto_region 7 with (first
      | (rw [← HW1.out]; go_at_call 77; (with_reducible refine HCL.out.mono ?_); rintro e2 w2 ⟨g2, c2, rfl, hp2⟩)
      | (go_at_call 40; (with_reducible refine (HGD.out _ _ _ hp2).mono ?_); rintro e3 w3 ⟨rfl, hp3⟩)
      | ((with_reducible refine wpList_loadG (o := ⟨some 15, _, _, _, _, _⟩) ?_ 28 (.tmp 3) rfl _ ?_ _ (HLD.out _ _ _ hp3) ?_); rfl; rfl)
      | (go_at_call 14; (with_reducible refine (HGI.out _ _ _ hp3).mono ?_); rintro e4 w4 ⟨rfl, hp4⟩)
      | ((with_reducible refine wpList_loadV (op := ⟨some 22, _, _, _, _, _⟩) rfl 28 (.tmp 3) rfl _ ?_ _ (HLD.out _ _ _ hp4) ?_); rfl)
      | (go_at_call 78; (with_reducible refine (HSE.out _ _ _ hp4).mono ?_); rintro e5 w5 ⟨rfl, hp5⟩))
    have HQ34 := Lib.hid (HLQ.out _ _ _ hp5)
    have HQ38 := Lib.hid (HROW.out _ _ _ hp5)
    have HP5 := Lib.hid hp5
    clear hp2 hp3 hp4 hp5
    refine wp_region_kept w5.heap.size w5 (Below.refl _ _) (by kernel_rfl) (by kernel_rfl) ?_
    repeat (first
      | (go_big_quiet_want; (with_reducible refine quiet_loadV 28 (.tmp 3) rfl _ ?_ _ HQ34.out ?_); rfl; simp only [Act.put, List.setIfInBounds_toArray, List.set_cons_zero, List.set_cons_succ]; go_big_quiet_on)
      | (go_big_quiet_want; (with_reducible refine quiet_loadV 28 (.tmp 37) rfl _ ?_ _ HQ38.out ?_); rfl; simp only [Act.put, List.setIfInBounds_toArray, List.set_cons_zero, List.set_cons_succ]; go_big_quiet_on)
      | go_big_quiet_step (first | (go_at_call 24; with_reducible exact kept_of (Nat.le_refl _) HCM.out _)))
    refine wpQuiet_nil ?_
    rintro wk ⟨⟨_, hwk⟩, rfl⟩
    have hp6 := HSTEP.out _ _ _ HP5.out hwk
    clear hwk
    go_wp2_with (first
      | (go_at_call 44; (with_reducible refine (HSM.out _ _ hp6).mono ?_); rintro e8 w8 ⟨rfl, hp8⟩))
    go_ret2
    exact HFIN.out _ _ hp8
/-- Put of the program. -/
theorem put_roster (A : Option Addr) (c : Nat) (L : List Ins) (x : Ins) (w : World) (hL : L.length ≤ 10000) (ht : ∀ y ∈ L, y.tgt.length ≤ 100000) (hx : x.tgt.length ≤ 100000) (hA : IAt w w.heap.size A L) (hA2 : A = none ∨ ∃ g off, A = some ⟨g, off, none⟩) :
    Calls Try.prog 39 #[.slice A L.length c, .agg (encI x).toArray] w (PutIs w L x) := by
  cases hb : goodR L && goodI x with
  | false => exact put_bad A c L x w hL ht hx hA hA2 hb
  | true =>
    rw [Bool.and_eq_true] at hb
    cases hf : foundAt L x (lowR L x) with
    | false => exact put_new A c L x w ht hx hA hA2 hb.1 hb.2 hf
    | true => exact put_old A c L x w ht hx hA hA2 hb.1 hb.2 hf
end Go.Proofs.Ytkceipkgebgigaa
end
section
namespace Go.Proofs.Ytkceipkgebgigaa
open Go.Shelf Go.RowKit Go.Lib Go.Great
set_option maxRecDepth 100000
set_option maxHeartbeats 400000
def rliv (s : Nat) (hs : s < 18446744073709551616) : Ins := ⟨List.replicate 20 0, s, 0, 5, false, 0, 0, 80, [97], by simp, hs, by omega, by omega, by omega, by omega, by omega⟩
def livA : Ins := rliv 1 (by omega)
def livB : Ins := rliv 2 (by omega)
theorem build_livA (W : World) : (Instr.build 28 #[(1, .int .u64 1), (3, .int .u32 5), (7, .int .u16 80), (8, .string ⟨#[97]⟩)]).run Try.prog W = .ok (.agg (encI livA).toArray) W := by kernel_rfl
theorem rl1 : putL [] livA = [livA] := by rfl
theorem rl2 : putOk [] livA = true := by decide +kernel
theorem rl3 : putL [livA] livB = [livB] := by rfl
theorem rl4 : putOk [livA] livB = true := by decide +kernel
theorem rl5 : goodR [livB] = true := by decide +kernel
/-- A roster of one in memory. -/
def OneAt (w : World) (A : Option Addr) (y : Ins) : Prop := ∃ g, A = some ⟨g, 0, none⟩ ∧ g < w.heap.size ∧ w.rangeAt g 0 (flatE encI [y])
theorem put_one (A : Option Addr) (c : Nat) (L : List Ins) (x y : Ins) (W : World) (hL : L.length ≤ 16) (ht : ∀ y ∈ L, y.tgt.length ≤ 100000) (hx : x.tgt.length ≤ 100000) (hA : IAt W W.heap.size A L) (hA2 : A = none ∨ ∃ g off, A = some ⟨g, off, none⟩) (h1 : putL L x = [y]) (h2 : putOk L x = true) :
    Calls Try.prog 39 #[.slice A L.length c, .agg (encI x).toArray] W fun e w' => ∃ A' c', e = .returned (.tuple #[.slice A' 1 c', .bool true]) ∧ OneAt w' A' y ∧ Below W.heap.size W w' := by
  refine (put_roster A c L x W (by omega) ht hx hA hA2).mono ?_
  rintro e w' ⟨v, rfl, ho, hb⟩
  rw [h1] at ho
  rw [h2]
  obtain ⟨A', c', rfl, hn, hc, hm, hform⟩ := own_formI ho
  rcases hform with ⟨_, e, _⟩ | ⟨g, rfl, _, hg, hr⟩
  · cases e
  · exact ⟨_, c', rfl, ⟨g, rfl, hg, hr⟩, hb⟩
theorem rlives_any (w : World) : Calls Try.prog 34 #[] w fun e w' => e = .returned (.bool true) ∧ Below w.heap.size w w' := by
  have HBU := Lib.hid build_livA
  have hn1 := heap_alloc_new w (.cells (encI livA).toArray 28)
  have HK1 : Hid (∀ W, Below (w.heap.size + 1) (w.alloc (.cells (encI livA).toArray 28)) W → (loadVar 28 ⟨w.heap.size, 0, none⟩).run Try.prog W = .ok (.agg (encI livA).toArray) W) := Lib.hid (fun W hW => (fld_below hn1 hW (by omega)).all)
  obtain ⟨W0, hW0⟩ : ∃ W0, W0 = (w.alloc (.cells (encI livA).toArray 28)).alloc (.cells (encI livB).toArray 28) := ⟨_, rfl⟩
  obtain ⟨h1, h2, hb⟩ := heap2 w (.cells (encI livA).toArray 28) (.cells (encI livB).toArray 28)
  rw [← hW0] at h1 h2 hb
  have hl1 : w.heap.size < W0.heap.size := (Array.getElem?_eq_some_iff.1 h1).1
  have hl2 : w.heap.size + 1 < W0.heap.size := (Array.getElem?_eq_some_iff.1 h2).1
  have HLA : Hid (∀ W, Below W0.heap.size W0 W → (loadVar 28 ⟨w.heap.size, 0, none⟩).run Try.prog W = .ok (.agg (encI livA).toArray) W) := Lib.hid (fun W hW => load28 (row_range (by rw [hW.block _ hl1]; exact h1)))
  have HLB : Hid (∀ W, Below W0.heap.size W0 W → (loadVar 28 ⟨w.heap.size + 1, 0, none⟩).run Try.prog W = .ok (.agg (encI livB).toArray) W) := Lib.hid (fun W hW => load28 (row_range (by rw [hW.block _ hl2]; exact h2)))
  have HP1 : Hid (Calls Try.prog 39 #[.slice none 0 0, .agg (encI livA).toArray] W0 fun e w' => ∃ A' c', e = .returned (.tuple #[.slice A' 1 c', .bool true]) ∧ OneAt w' A' livA ∧ Below W0.heap.size W0 w') := Lib.hid (put_one none 0 [] livA livA W0 (by decide) (by intro y hy; cases hy) (by decide) (.inl rfl) (.inl rfl) rl1 rl2)
  have HP2 : Hid (∀ W A c, Below W0.heap.size W0 W → OneAt W A livA → Calls Try.prog 39 #[.slice A 1 c, .agg (encI livB).toArray] W fun e w' => ∃ g c', e = .returned (.tuple #[.slice (some ⟨g, 0, none⟩) 1 c', .bool true]) ∧ OneAt w' (some ⟨g, 0, none⟩) livB ∧ Below W0.heap.size W0 w') := Lib.hid (fun W A c hW hA => by
    obtain ⟨g, rfl, hg, hr⟩ := hA
    refine (put_one (some ⟨g, 0, none⟩) c [livA] livB livB W (by decide) (by intro y hy; simp only [List.mem_singleton] at hy; subst hy; decide) (by decide) (.inr ⟨g, 0, rfl, hg, hr⟩) (.inr ⟨g, 0, rfl⟩) rl3 rl4).mono ?_
    rintro e w' ⟨A', c', rfl, ⟨g', rfl, hg', hr'⟩, hb'⟩
    exact ⟨g', c', rfl, ⟨g', rfl, hg', hr'⟩, hW.trans (hb'.mono hW.size)⟩)
  have HQR : Hid (∀ W g, OneAt W (some ⟨g, 0, none⟩) livB → ∀ q : Kept W.heap.size W, (loadVar 28 ⟨g, 0, none⟩).run Try.prog q.val = .ok (.agg (encI livB).toArray) q.val) := Lib.hid (fun W g h q => by
    obtain ⟨g', e, hg, hr⟩ := h
    injection e with e
    injection e with e
    subst e
    have := row_load hr hg q.property (k := 0) (by decide)
    exact this)
  have HQL : Hid (∀ W, Below W0.heap.size W0 W → ∀ q : Kept W.heap.size W, (loadVar 28 ⟨w.heap.size + 1, 0, none⟩).run Try.prog q.val = .ok (.agg (encI livB).toArray) q.val) := Lib.hid (fun W hW q => HLB.out _ (hW.trans (q.property.mono hW.size)))
  have HGD : Hid (∀ W g c, OneAt W (some ⟨g, 0, none⟩) livB → ∀ q : Kept W.heap.size W, Calls Try.prog 40 #[.slice (some ⟨g, 0, none⟩) 1 c] q.val fun e w' => e = .returned (.bool true) ∧ Below q.val.heap.size q.val w') := Lib.hid (fun W g c h q => by
    obtain ⟨g', e, hg, hr⟩ := h
    injection e with e
    injection e with e
    subst e
    have := gd_any (some ⟨g, 0, none⟩) c [livB] q.val (by intro y hy; simp only [List.mem_singleton] at hy; subst hy; decide) (.inr ⟨g, 0, rfl, Nat.lt_of_lt_of_le hg q.property.size, rangeAt_below hr (q.property.block g hg)⟩)
    rw [rl5] at this
    exact this)
  have he := fun W => eqIns livB livB W
  rw [eqI_self] at he
  have HBF : Hid (∀ W, Below W0.heap.size W0 W → Below w.heap.size w W) := Lib.hid (fun W hW => hb.trans (hW.mono hb.size))
  have hYX : (encI livB).toArray = (encI livA).toArray.setIfInBounds 20 (.int .u64 2) := rfl
  obtain ⟨X, hX⟩ : ∃ X, X = (encI livA).toArray := ⟨_, rfl⟩
  have HX := Lib.hid hX
  have hX20 : X[20]? = some (.int .u64 1) := by rw [hX]; rfl
  rw [← hX] at HBU HK1 HLA HP1 hYX hW0
  obtain ⟨Y, hY⟩ : ∃ Y, Y = (encI livB).toArray := ⟨_, rfl⟩
  rw [← hY] at HLB HP2 HQR HQL he hYX hW0
  rw [hYX] at hW0
  have HW0 := Lib.hid hW0
  clear hX hn1 hY h1 h2 hb hl1 hl2 hW0 hYX
  go_enter Try.func34, Try.ntmps34
  go_upto_region 4 with (first
    | ((with_reducible refine wpList_buildV (o := ⟨some 7, _, _, _, _, _⟩) rfl 28 _ rfl _ ?_ _ (HBU.out _) ?_); (simp only [List.map_toArray, List.map_cons, List.map_nil]; rfl))
    | (with_reducible refine wpList_alloc28 (o := ⟨some 1, _, _, _, _, _⟩) w.heap.size rfl rfl 1 rfl rfl ?_)
    | ((with_reducible refine wpList_store28n (o := ⟨none, _, _, _, _, _⟩) rfl (.tmp 1) (.tmp 7) rfl w.heap.size rfl zeroI livA ?_ ?_ ?_); rfl; (rw [← HX.out]; rfl); rw [← HX.out])
    | ((with_reducible refine wpList_loadV (op := ⟨some 8, _, _, _, _, _⟩) rfl 28 (.tmp 1) rfl _ ?_ _ (HK1.out _ (Below.refl _ _)) ?_); rfl)
    | (with_reducible refine wpList_alloc28 (o := ⟨some 2, _, _, _, _, _⟩) (w.heap.size + 1) (by simp) rfl 2 rfl rfl ?_)
    | ((with_reducible refine wpList_store28n (o := ⟨none, _, _, _, _, _⟩) rfl (.tmp 2) (.tmp 8) rfl (w.heap.size + 1) (by simp) zeroI livA ?_ ?_ ?_); rfl; (rw [← HX.out]; rfl); rw [← HX.out]))
  rw [← HW0.out]
  go_upto_region 6 with (first
    | ((with_reducible refine wpList_loadV (op := ⟨some 11, _, _, _, _, _⟩) rfl 28 (.tmp 1) rfl _ ?_ _ (HLA.out _ (Below.refl _ _)) ?_); rfl)
    | (go_at_call 39; (with_reducible refine HP1.out.mono ?_); rintro e1 w1 ⟨A1, c1, rfl, ho1, hb1⟩)
    | ((with_reducible refine wpList_loadV (op := ⟨some 17, _, _, _, _, _⟩) rfl 28 (.tmp 2) rfl _ ?_ _ (HLB.out _ hb1) ?_); rfl)
    | (go_at_call 39; (with_reducible refine (HP2.out _ _ _ hb1 ho1).mono ?_); rintro e2 w2 ⟨g2, c2, rfl, ho2, hb2⟩))
  have HR := Lib.hid (HQR.out _ _ ho2)
  have HL := Lib.hid (HQL.out _ hb2)
  have HG := Lib.hid (HGD.out _ _ c2 ho2)
  have HB2 := Lib.hid hb2
  clear ho1 hb1 ho2 hb2 HQR HQL HGD HP1 HP2 HLA HBU HK1 HW0 hX20
  refine wp_region_kept w2.heap.size w2 (Below.refl _ _) (by kernel_rfl) (by kernel_rfl) ?_
  repeat (first
    | (go_big_quiet_want; (with_reducible refine quiet_loadV 28 (.tmp 32) rfl _ ?_ _ HR.out ?_); rfl; simp only [Act.put, List.setIfInBounds_toArray, List.set_cons_zero, List.set_cons_succ]; go_big_quiet_on)
    | (go_big_quiet_want; (with_reducible refine quiet_loadV 28 (.tmp 2) rfl _ ?_ _ HL.out ?_); rfl; simp only [Act.put, List.setIfInBounds_toArray, List.set_cons_zero, List.set_cons_succ]; go_big_quiet_on)
    | go_big_quiet_step (first | (go_at_call 40; with_reducible exact kept_ofS (Nat.le_refl _) HG.out _)))
  refine wpQuiet_nil ?_
  rintro wk ⟨⟨_, hwk⟩, rfl⟩
  go_wp2
  go_ret
  exact ⟨rfl, HBF.out _ (HB2.out.trans (hwk.mono HB2.out.size))⟩
end Go.Proofs.Ytkceipkgebgigaa
end
section
namespace Go.Proofs.Ytkceipkgebgigaa
open Go.Shelf Go.RowKit Go.Lib Go.Great
set_option maxRecDepth 100000
set_option maxHeartbeats 400000
theorem req_len (A A' : Option Addr) (n m c c' : Nat) (w : World) (h : n ≠ m) : Calls Try.prog 35 #[.slice A n c, .slice A' m c'] w fun e w' => e = .returned (.bool false) ∧ w' = w := by
  have h' : ¬ (n : Int) = (m : Int) := by omega
  go_enter Try.func35, Try.ntmps35
  go_wp2
  go_ret
  exact ⟨rfl, rfl⟩
theorem req_none (A A' : Option Addr) (c c' : Nat) (w : World) : Calls Try.prog 35 #[.slice A 0 c, .slice A' 0 c'] w fun e w' => e = .returned (.bool true) ∧ w' = w := by
  go_enter Try.func35, Try.ntmps35
  go_wp2
  go_loopg [5] 0 (fun _ s wr => s = .int .i64 0 ∧ wr = w)
  case atStart => exact ⟨rfl, rfl⟩
  case round =>
    obtain ⟨rfl, rfl⟩ := hrel
    go_wp2
    go_ret
    exact ⟨rfl, rfl⟩
theorem req_some (g1 o1 c1 g2 o2 c2 n : Nat) (xs ys : List Ins) (w : World) (hx : xs.length = n) (hy : ys.length = n) (hn : n ≤ 10000) (hg1 : g1 < w.heap.size) (hr1 : w.rangeAt g1 o1 (flatE encI xs)) (hg2 : g2 < w.heap.size) (hr2 : w.rangeAt g2 o2 (flatE encI ys)) :
    Calls Try.prog 35 #[.slice (some ⟨g1, o1, none⟩) n c1, .slice (some ⟨g2, o2, none⟩) n c2] w fun e w' => e = .returned (.bool (sameR xs ys)) ∧ Below w.heap.size w w' := by
  have HL1 : Hid (∀ k, k < n → ∀ W, Below w.heap.size w W → (loadVar 28 ⟨g1, o1 + k * 28, none⟩).run Try.prog W = .ok (.agg (encI xs[k]!).toArray) W) := Lib.hid (fun k hk W hW => row_load hr1 hg1 hW (by omega))
  have HL2 : Hid (∀ k, k < n → ∀ W, Below w.heap.size w W → (loadVar 28 ⟨g2, o2 + k * 28, none⟩).run Try.prog W = .ok (.agg (encI ys[k]!).toArray) W) := Lib.hid (fun k hk W hW => row_load hr2 hg2 hW (by omega))
  have HT : Hid ((∀ k, k < n → eqI xs[k]! ys[k]! = true) → sameR xs ys = true) := Lib.hid (fun h => by
    unfold sameR
    rw [Bool.and_eq_true, decide_eq_true_eq, List.all_eq_true]
    exact ⟨by omega, fun k hk => h k (by rw [List.mem_range] at hk; omega)⟩)
  have HF : Hid (∀ k, k < n → eqI xs[k]! ys[k]! = false → sameR xs ys = false) := Lib.hid (fun k hk h => by
    cases hs : sameR xs ys with
    | false => rfl
    | true => rw [(sameR_iff xs ys).1 hs, eqI_self] at h; cases h)
  generalize sameR xs ys = r at *
  clear hr1 hr2
  go_enter Try.func35, Try.ntmps35
  go_wp2
  go_loopw [5] (fun i wr => ∃ k : Nat, i = .int .i64 (k : Int) ∧ k ≤ n ∧ (∀ j, j < k → eqI xs[j]! ys[j]! = true) ∧ Below w.heap.size w wr) (fun i _ => n - (RowKit.intOf i).toNat)
  case atStart => exact ⟨0, rfl, by omega, fun j hj => by omega, Below.refl _ _⟩
  case round =>
    obtain ⟨k, rfl, hk, hF, hbr⟩ := hrel
    have HD := Lib.hid hF
    clear hF
    by_cases hlt : k < n
    · have hlt' : (k : Int) < (n : Int) := by omega
      have HBN := Lib.hid hbr
      have HQ1 : Hid (∀ q : Kept wr.heap.size wr, (loadVar 28 ⟨g1, o1 + k * 28, none⟩).run Try.prog q.val = .ok (.agg (encI xs[k]!).toArray) q.val) := Lib.hid (fun q => HL1.out k hlt _ (HBN.out.trans (q.property.mono HBN.out.size)))
      have HQ2 : Hid (∀ q : Kept wr.heap.size wr, (loadVar 28 ⟨g2, o2 + k * 28, none⟩).run Try.prog q.val = .ok (.agg (encI ys[k]!).toArray) q.val) := Lib.hid (fun q => HL2.out k hlt _ (HBN.out.trans (q.property.mono HBN.out.size)))
      have he := fun W => eqIns xs[k]! ys[k]! W
      have HNX : Hid (eqI xs[k]! ys[k]! = true → ∀ wx, Below w.heap.size w wx → ∃ k' : Nat, Value.int .i64 ((k : Int) + 1) = .int .i64 (k' : Int) ∧ k' ≤ n ∧ (∀ j, j < k' → eqI xs[j]! ys[j]! = true) ∧ Below w.heap.size w wx) := Lib.hid (fun h wx hx => ⟨k + 1, by simp, by omega, fun j hj => by
        by_cases e : j = k
        · subst e; exact h
        · exact HD.out j (by omega), hx⟩)
      have HRF := Lib.hid (HF.out k hlt)
      clear HT HF HD HL1 HL2 hbr
      cases hq : eqI xs[k]! ys[k]! with
      | false =>
        rw [hq] at he
        have HRR : Hid (r = false) := Lib.hid (HRF.out hq)
        clear HRF HNX hq
        generalize (encI xs[k]!).toArray = X at *
        generalize (encI ys[k]!).toArray = Y at *
        go_upto_region 6 with fail
        refine wp_region_kept wr.heap.size wr (Below.refl _ _) (by kernel_rfl) (by kernel_rfl) ?_
        repeat (first
          | (go_big_quiet_want; (with_reducible refine quiet_loadV 28 (.tmp 19) rfl _ ?_ _ HQ1.out ?_); rfl; simp only [Act.put, List.setIfInBounds_toArray, List.set_cons_zero, List.set_cons_succ]; go_big_quiet_on)
          | (go_big_quiet_want; (with_reducible refine quiet_loadV 28 (.tmp 23) rfl _ ?_ _ HQ2.out ?_); rfl; simp only [Act.put, List.setIfInBounds_toArray, List.set_cons_zero, List.set_cons_succ]; go_big_quiet_on)
          | go_big_quiet_step (fail))
        refine wpQuiet_nil ?_
        rintro wk ⟨⟨_, hwk⟩, rfl⟩
        go_wp2
        go_ret
        exact ⟨by rw [HRR.out]; rfl, HBN.out.trans (hwk.mono HBN.out.size)⟩
      | true =>
        rw [hq] at he
        have HNY := Lib.hid (HNX.out hq)
        clear HRF HNX hq
        generalize (encI xs[k]!).toArray = X at *
        generalize (encI ys[k]!).toArray = Y at *
        go_upto_region 6 with fail
        refine wp_region_kept wr.heap.size wr (Below.refl _ _) (by kernel_rfl) (by kernel_rfl) ?_
        repeat (first
          | (go_big_quiet_want; (with_reducible refine quiet_loadV 28 (.tmp 19) rfl _ ?_ _ HQ1.out ?_); rfl; simp only [Act.put, List.setIfInBounds_toArray, List.set_cons_zero, List.set_cons_succ]; go_big_quiet_on)
          | (go_big_quiet_want; (with_reducible refine quiet_loadV 28 (.tmp 23) rfl _ ?_ _ HQ2.out ?_); rfl; simp only [Act.put, List.setIfInBounds_toArray, List.set_cons_zero, List.set_cons_succ]; go_big_quiet_on)
          | go_big_quiet_step (fail))
        refine wpQuiet_nil ?_
        rintro wk ⟨⟨_, hwk⟩, rfl⟩
        have HBW := Lib.hid (HNY.out _ (HBN.out.trans (hwk.mono HBN.out.size)))
        clear hwk
        go_wp2
        go_roundw
        case rel => exact HBW.out
        case measure => simp [RowKit.intOf]; omega
    · have hlt' : ¬ (k : Int) < (n : Int) := by omega
      have HRT : Hid (r = true) := Lib.hid (HT.out (fun j hj => HD.out j (by omega)))
      have HBR := Lib.hid hbr
      clear HT HF HD HL1 HL2 hbr
      go_wp2
      go_ret
      exact ⟨by rw [HRT.out]; rfl, HBR.out⟩
theorem rsame_any (A A' : Option Addr) (c c' : Nat) (xs ys : List Ins) (w : World) (hx : xs.length ≤ 10000) (hA : IAt w w.heap.size A xs) (hA' : IAt w w.heap.size A' ys) :
    Calls Try.prog 35 #[.slice A xs.length c, .slice A' ys.length c'] w fun e w' => e = .returned (.bool (sameR xs ys)) ∧ Below w.heap.size w w' := by
  by_cases h : xs.length = ys.length
  · rcases hA with rfl | ⟨g1, o1, rfl, hg1, hr1⟩
    · have hy : ys = [] := List.eq_nil_of_length_eq_zero (by simpa using h.symm)
      subst hy
      refine (req_none A A' c c' w).mono ?_
      rintro e w' ⟨rfl, rfl⟩
      exact ⟨rfl, Below.refl _ _⟩
    · rcases hA' with rfl | ⟨g2, o2, rfl, hg2, hr2⟩
      · have hx0 : xs = [] := List.eq_nil_of_length_eq_zero (by simpa using h)
        subst hx0
        refine (req_none _ A' c c' w).mono ?_
        rintro e w' ⟨rfl, rfl⟩
        exact ⟨rfl, Below.refl _ _⟩
      · rw [← h]
        exact req_some g1 o1 c g2 o2 c' xs.length xs ys w rfl h.symm hx hg1 hr1 hg2 hr2
  · have hs : sameR xs ys = false := by unfold sameR; rw [decide_eq_false h, Bool.false_and]
    rw [hs]
    refine (req_len A A' _ _ c c' w h).mono ?_
    rintro e w' ⟨rfl, rfl⟩
    exact ⟨rfl, Below.refl _ _⟩
end Go.Proofs.Ytkceipkgebgigaa
end
section
namespace Go.Proofs.Ytkceipkgebgigaa
set_option maxRecDepth 100000
set_option linter.unusedVariables false
open Go.ChangeShapes Go.WideShapes Go.ChangeAt Go.RowKit

theorem wf_u8 {n : Int} (h : (Lit.int .u8 n).wf = true) : 0 ≤ n ∧ n ≤ 255 := by
  simp [Lit.wf, IntKind.min, IntKind.max, IntKind.bits, IntKind.signed] at h
  omega
/-- The bytes of a row of numbers that fit a byte. -/
def bytesOf (zs : List Int) : List UInt8 := zs.map fun n => UInt8.ofNat n.toNat
theorem wf_u64 {n : Int} (h : (Lit.int .u64 n).wf = true) : 0 ≤ n ∧ n < 18446744073709551616 := by
  simp [Lit.wf, IntKind.min, IntKind.max, IntKind.bits, IntKind.signed] at h
  omega
theorem bytes_of_row {w : World} {x : Addr} {len cap : Nat} {zs : List Int} (hl : len ≤ cap) (hz : zs.length = cap) (hcell : ∀ i, i < zs.length → w.cell? (x.add i) = some (.int .u8 (zs.getD i 0))) (hwf : ∀ n ∈ zs, (Lit.int .u8 n).wf = true) :
    ∃ xs : List UInt8, xs.length = len ∧ BAt w w.heap.size (some x) xs := by
  refine ⟨bytesOf (zs.take len), by simp [bytesOf]; omega, ?_⟩
  by_cases h0 : len = 0
  · left
    subst h0
    simp [bytesOf]
  · right
    obtain ⟨b, off, spot⟩ := x
    have hc := hcell 0 (by omega)
    have hspot : spot = none := by simpa [Addr.add] using World.cell?_spot hc
    subst hspot
    refine ⟨b, off, rfl, ?_, fun j hj => ?_⟩
    · have := World.block_lt_of_cell? w _ hc
      simpa [Addr.add] using this
    · have hj' : j < len := by simp [bytesOf] at hj; omega
      have hc := hcell j (by omega)
      have e : (⟨b, off, none⟩ : Addr).add j = ⟨b, off + j, none⟩ := by unfold Addr.add; split <;> simp_all
      rw [e] at hc
      rw [hc]
      have hw := wf_u8 (hwf (zs[j]'(by omega)) (List.getElem_mem _))
      have e1 : zs.getD j 0 = zs[j]'(by omega) := by simp [List.getD, List.getElem?_eq_getElem (show j < zs.length by omega)]
      rw [e1]
      simp only [bytesOf, List.getElem_map, List.getElem_take]
      congr 2
      simp
      omega
section
variable {H : Type} {enc : TypeId × Value → H} {W : World} {base : Nat} {sp : Nat → Bool} {hd : Bool} {a : Option Addr} {len cap : Nat} {d : DataW H} {p : List MemPlace}
theorem open_one {fuel : Nat} {V : Value} {x : DataW H × List MemPlace} (h : DataW.trod enc Try.prog W base sp hd fuel 30 [V] = some x) : ∃ (A : Option Addr) (xs : List UInt8) (c : Nat), V = .slice A xs.length c ∧ BAt W W.heap.size A xs ∧ xs.length ≤ c := by
  rcases open_ints Try.underlying30 Try.underlying5 (by kernel_rfl) h with ⟨hcs, _⟩ | ⟨x, l, c, zs, hcs, _, hl, hm, hz, _, hcell, hwz⟩
  · simp only [List.cons.injEq, and_true] at hcs
    exact ⟨none, [], 0, hcs, .inl rfl, Nat.le_refl _⟩
  · simp only [List.cons.injEq, and_true] at hcs
    obtain ⟨xs, h1, h2⟩ := bytes_of_row (len := l) (cap := zs.length) (by rw [hz]; split <;> omega) rfl hcell hwz
    exact ⟨some x, xs, c, by rw [hcs, h1], h2, by omega⟩
theorem open_bytes (h : DataW.Trod enc Try.prog W base sp hd 30 (.slice a len cap) d p) : ∃ xs : List UInt8, xs.length = len ∧ BAt W W.heap.size a xs ∧ len ≤ cap := by
  obtain ⟨fuel, hf⟩ := h
  obtain ⟨A, xs, c, hV, hb, hc⟩ := open_one (V := .slice a len cap) (by simpa [Value.cells] using hf)
  simp only [Value.slice.injEq] at hV
  obtain ⟨rfl, rfl, rfl⟩ := hV
  exact ⟨xs, rfl, hb, hc⟩
theorem bytes_sized (h : DataW.Trod enc Try.prog W base sp hd 30 (.slice a len cap) d p) : len = 0 ∨ ∃ es sps, d = .slice es sps ∧ es.length = len := by
  obtain ⟨fuel, hf⟩ := h
  have hf' : DataW.trod enc Try.prog W base sp hd fuel 30 [.slice a len cap] = some (d, p) := by simpa [Value.cells] using hf
  rcases open_ints Try.underlying30 Try.underlying5 (by kernel_rfl) hf' with ⟨hcs, _⟩ | ⟨x, l, c, zs, hcs, _, hl, hm, hz, hx, _, _⟩
  · simp only [List.cons.injEq, and_true, Value.slice.injEq] at hcs
    exact .inl hcs.2.1
  · simp only [List.cons.injEq, and_true, Value.slice.injEq] at hcs
    obtain ⟨rfl, rfl, rfl⟩ := hcs
    right
    injection hx with hx _
    refine ⟨_, _, hx, ?_⟩
    simp only [lits, List.length_map, List.length_take]
    rw [hz]
    split <;> omega
theorem str_data {s : ByteArray} (h : DataW.Trod enc Try.prog W base sp hd 9 (.string s) d p) : d = .lit (.string s.data.toList) := by
  obtain ⟨fuel, hf⟩ := h
  have hf' : DataW.trod enc Try.prog W base sp hd fuel 9 [.string s] = some (d, p) := by simpa [Value.cells] using hf
  obtain ⟨s', e1, e2, _⟩ := DataW.trod_string Try.underlying9 hf'
  simp only [List.cons.injEq, and_true, Value.string.injEq] at e1
  subst e1
  injection e2
end
theorem str_list (s : ByteArray) : ∃ xs : List UInt8, s = bstr xs := ⟨s.data.toList, by simp [bstr]⟩

end Go.Proofs.Ytkceipkgebgigaa
end
