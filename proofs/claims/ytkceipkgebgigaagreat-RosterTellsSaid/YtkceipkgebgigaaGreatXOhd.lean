/- Put of the program: a publisher that is there; Put. Conditions: at most 10,000 instances, targets of at most 100,000 bytes. Merge of the program. Conditions: at most 10,000 instances each, targets of at most 100,000 bytes. Light of the statements. Condition: a length that an int holds. -/
import Derived.Test.YtkceipkgebgigaaGreatProg
import Derived.Test.YtkceipkgebgigaaGreatXOpb
import Derived.Test.YtkceipkgebgigaaGreatXObc
section
namespace Go.Proofs.YtkceipkgebgigaaGreat
open Go.Shelf Go.RowKit Go.Lib Go.Great
set_option maxRecDepth 100000
set_option maxHeartbeats 400000
theorem put_old (A : Option Addr) (c : Nat) (L : List Ins) (x : Ins) (w : World) (ht : ∀ y ∈ L, y.tgt.length ≤ 100000) (hx : x.tgt.length ≤ 100000) (hA : IAt w w.heap.size A L) (hA2 : A = none ∨ ∃ g off, A = some ⟨g, off, none⟩)
    (hg : goodR L = true) (hi : goodI x = true) (hf : foundAt L x (lowR L x) = true) : Calls Tryz.prog 6 #[.slice A L.length c, .agg (encI x).toArray] w (PutIs w L x) := by
  have hl := ((goodR_iff L).1 hg).1
  have hal : lowR L x < L.length := by
    unfold foundAt at hf
    rw [Bool.and_eq_true, decide_eq_true_eq] at hf
    exact hf.1
  have hM : putG L x = if cmpI x L[lowR L x]! > 0 then L.set (lowR L x) x else L := by unfold putG; rw [if_pos hf]
  have hM16 : (putG L x).length ≤ 16 := by rw [hM]; split <;> simp [hl]
  have K := putK A c L (putG L x) x w (by omega) (by omega) ht hx hA hA2
  have hb0 : Below w.heap.size w (w.alloc (.cells (encI x).toArray 29)) := (Below.refl _ w).alloc (Nat.le_refl _) _
  have hA1 : IAt (w.alloc (.cells (encI x).toArray 29)) (w.alloc (.cells (encI x).toArray 29)).heap.size A L := (hA.below hb0).more hb0.size
  obtain ⟨gA, off, rfl, hgA, hrA⟩ : ∃ gA off, A = some ⟨gA, off, none⟩ ∧ gA < (w.alloc (.cells (encI x).toArray 29)).heap.size ∧ (w.alloc (.cells (encI x).toArray 29)).rangeAt gA off (flatE encI L) := by
    rcases hA1 with e | ⟨gA, off, e, h1, h2⟩
    · rw [e] at hal; simp at hal
    · exact ⟨gA, off, e, h1, h2⟩
  obtain ⟨W1, hW1⟩ : ∃ W1, W1 = w.alloc (.cells (encI x).toArray 29) := ⟨_, rfl⟩
  have HSE : Hid (∀ (N : List Ins) (W : World) (v : Value), RowI W1 W1.heap.size N W v → Calls Tryz.prog 24 #[.slice (some ⟨gA, off, none⟩) L.length c, .agg (encI x).toArray, .func (.func 25) #[] #[]] W fun e w' => e = .returned (.tuple #[.int .i64 (lowR L x : Int), .bool (foundAt L x (lowR L x))]) ∧ RowI W1 W1.heap.size N w' v) := Lib.hid (fun N W v hR => put_search _ c L N x W1 W v hg (by rw [hW1]; exact hA1) hR)
  have HROW : Hid (∀ (N : List Ins) (W : World) (v : Value), RowI W1 W1.heap.size N W v → ∀ q : Kept W.heap.size W, (loadVar 29 ⟨gA, off + lowR L x * 28, none⟩).run Tryz.prog q.val = .ok (.agg (encI L[lowR L x]!).toArray) q.val) := Lib.hid (fun N W v hR q => by
    have := hR.step q.property
    rw [← hW1] at hgA hrA
    exact row_load hrA hgA this.1 hal)
  rw [← hW1] at K
  have HLQ : Hid (∀ (N : List Ins) (W : World) (v : Value), RowI W1 W1.heap.size N W v → ∀ q : Kept W.heap.size W, (loadVar 29 ⟨w.heap.size, 0, none⟩).run Tryz.prog q.val = .ok (.agg (encI x).toArray) q.val) := Lib.hid (fun N W v hR q => K.ld N _ v (hR.step q.property))
  have HCL : Hid (Calls Tryz.prog 22 #[.slice (some ⟨gA, off, none⟩) L.length c] W1 fun e w' => ∃ g' c', e = .returned (.slice (some ⟨g', 0, none⟩) L.length c') ∧ RowI W1 W1.heap.size L w' (.slice (some ⟨g', 0, none⟩) L.length c')) := Lib.hid (by
    refine K.cl.mono ?_
    rintro e w' ⟨v, rfl, hR⟩
    obtain ⟨A', c', hv, hn, hc, hm, hform⟩ := own_formI hR.2.1
    rcases hform with ⟨_, e, _⟩ | ⟨g', rfl, _⟩
    · rw [e] at hal; simp at hal
    · subst hv
      exact ⟨g', c', rfl, hR⟩)
  have HGD := Lib.hid K.gd
  have HGI := Lib.hid K.gi
  have HLD := Lib.hid K.ld
  have HSM := Lib.hid K.sm
  have HCM := Lib.hid (fun W => icmp_any x L[lowR L x]! W)
  have HFIN : Hid (∀ W v, RowI W1 W1.heap.size (putG L x) W v → PutIs w L x (.returned (.tuple #[v, .bool (!sameR (putG L x) L)])) W) := Lib.hid (fun W v hR => by
    obtain ⟨f1, f2⟩ := K.fin W v hR
    have e1 : putL L x = putG L x := by unfold putL; rw [hg, hi]; rfl
    have e2 : putOk L x = !sameR (putG L x) L := by unfold putOk; rw [hg, hi]; rfl
    exact ⟨v, by rw [e2], by rw [e1]; exact f1, f2⟩)
  have HST : Hid (∀ W g' c', RowI W1 W1.heap.size L W (.slice (some ⟨g', 0, none⟩) L.length c') → W.there g' (lowR L x * 28) 28 ∧ RowI W1 W1.heap.size (L.set (lowR L x) x) (W.setCells g' (lowR L x * 28) (encI x)) (.slice (some ⟨g', 0, none⟩) L.length c')) := Lib.hid (fun W g' c' hR => by
    obtain ⟨f1, f2, f3⟩ := own_store x hR.2.1 rfl hal
    exact ⟨f1, below_ownB hR.1 hR.2.2 f3 (fun k hk => (hR.2.1.lt k (by first | exact hk | exact hk.symm)).1), by rw [List.length_set]; exact f2, Nat.le_trans hR.2.2 f3.size⟩)
  have HSTEP : Hid (∀ W W' v, RowI W1 W1.heap.size L W v → Below W.heap.size W W' → RowI W1 W1.heap.size L W' v) := Lib.hid (fun W W' v hR hb => hR.step hb)
  have hin : (lowR L x : Int) < (L.length : Int) := by omega
  have hsz : (encI x).toArray.size = 28 := by rw [List.size_toArray, encI_length]
  have HSZ : Hid ((Tryz.prog.info? 29).map (·.size) = some (encI x).toArray.size) := Lib.hid (by rw [hsz]; exact size28i)
  have HALL := encI_all x
  rw [hf] at HSE
  rw [hg] at HGD
  rw [hi] at HGI
  have HW1 := Lib.hid hW1
  clear K hA hA2 ht hx hA1 hb0 hM16 hl hf hg hi hgA hrA hW1
  by_cases hgt : cmpI x L[lowR L x]! > 0
  · rw [if_pos hgt] at hM
    rw [hM] at HSM HFIN
    clear hM
    generalize L.set (lowR L x) x = M at *
    generalize sameR M L = sr at *
    generalize cmpI x L[lowR L x]! = cv at *
    generalize (encI L[lowR L x]!).toArray = Y at *
    generalize lowR L x = a at *
    generalize L.length = n at *
    go_enter Tryz.func6, Tryz.ntmps6
    go_upto_region 7 with (first
      | (rw [← HW1.out]; go_at_call 22; (with_reducible refine HCL.out.mono ?_); rintro e2 w2 ⟨g2, c2, rfl, hp2⟩)
      | (go_at_call 13; (with_reducible refine (HGD.out _ _ _ hp2).mono ?_); rintro e3 w3 ⟨rfl, hp3⟩)
      | ((with_reducible refine wpList_loadG (o := ⟨some 15, _, _, _, _, _⟩) ?_ 29 (.tmp 3) rfl _ ?_ _ (HLD.out _ _ _ hp3) ?_); rfl; rfl)
      | (go_at_call 23; (with_reducible refine (HGI.out _ _ _ hp3).mono ?_); rintro e4 w4 ⟨rfl, hp4⟩)
      | ((with_reducible refine wpList_loadV (op := ⟨some 22, _, _, _, _, _⟩) rfl 29 (.tmp 3) rfl _ ?_ _ (HLD.out _ _ _ hp4) ?_); rfl)
      | (go_at_call 24; (with_reducible refine (HSE.out _ _ _ hp4).mono ?_); rintro e5 w5 ⟨rfl, hp5⟩))
    have HQ34 := Lib.hid (HLQ.out _ _ _ hp5)
    have HQ38 := Lib.hid (HROW.out _ _ _ hp5)
    have HP5 := Lib.hid hp5
    clear hp2 hp3 hp4 hp5
    refine wp_region_kept w5.heap.size w5 (Below.refl _ _) (by kernel_rfl) (by kernel_rfl) ?_
    repeat (first
      | (go_big_quiet_want; (with_reducible refine quiet_loadV 29 (.tmp 3) rfl _ ?_ _ HQ34.out ?_); rfl; simp only [Act.put, List.setIfInBounds_toArray, List.set_cons_zero, List.set_cons_succ]; go_big_quiet_on)
      | (go_big_quiet_want; (with_reducible refine quiet_loadV 29 (.tmp 37) rfl _ ?_ _ HQ38.out ?_); rfl; simp only [Act.put, List.setIfInBounds_toArray, List.set_cons_zero, List.set_cons_succ]; go_big_quiet_on)
      | go_big_quiet_step (first | (go_at_call 28; with_reducible exact kept_of (Nat.le_refl _) HCM.out _)))
    refine wpQuiet_nil ?_
    rintro wk ⟨⟨_, hwk⟩, rfl⟩
    have hp6 := HSTEP.out _ _ _ HP5.out hwk
    obtain ⟨hth, hp7⟩ := HST.out _ _ _ hp6
    have HTH := Lib.hid (show wk.there g2 (a * 28) (encI x).toArray.size by rw [hsz]; exact hth)
    clear hwk hth
    go_wp2_with (first
      | ((with_reducible refine wpList_loadV (op := ⟨some 43, _, _, _, _, _⟩) rfl 29 (.tmp 3) rfl _ ?_ _ (HLD.out _ _ _ hp6) ?_); rfl)
      | ((with_reducible refine wpList_store_mid (op := ⟨none, _, _, _, _, _⟩) rfl 29 (.tmp 44) (.tmp 43) rfl g2 (a * 28) (encI x).toArray ?_ ?_ HTH.out HSZ.out HALL ?_); rfl; rfl)
      | (go_at_call 15; (with_reducible refine (HSM.out _ _ hp7).mono ?_); rintro e8 w8 ⟨rfl, hp8⟩))
    go_ret2
    exact HFIN.out _ _ hp8
  · rw [if_neg hgt] at hM
    rw [hM] at HSM HFIN
    clear hM HST
    generalize sameR L L = sr at *
    generalize cmpI x L[lowR L x]! = cv at *
    generalize (encI L[lowR L x]!).toArray = Y at *
    generalize lowR L x = a at *
    generalize L.length = n at *
    go_enter Tryz.func6, Tryz.ntmps6
    go_upto_region 7 with (first
      | (rw [← HW1.out]; go_at_call 22; (with_reducible refine HCL.out.mono ?_); rintro e2 w2 ⟨g2, c2, rfl, hp2⟩)
      | (go_at_call 13; (with_reducible refine (HGD.out _ _ _ hp2).mono ?_); rintro e3 w3 ⟨rfl, hp3⟩)
      | ((with_reducible refine wpList_loadG (o := ⟨some 15, _, _, _, _, _⟩) ?_ 29 (.tmp 3) rfl _ ?_ _ (HLD.out _ _ _ hp3) ?_); rfl; rfl)
      | (go_at_call 23; (with_reducible refine (HGI.out _ _ _ hp3).mono ?_); rintro e4 w4 ⟨rfl, hp4⟩)
      | ((with_reducible refine wpList_loadV (op := ⟨some 22, _, _, _, _, _⟩) rfl 29 (.tmp 3) rfl _ ?_ _ (HLD.out _ _ _ hp4) ?_); rfl)
      | (go_at_call 24; (with_reducible refine (HSE.out _ _ _ hp4).mono ?_); rintro e5 w5 ⟨rfl, hp5⟩))
    have HQ34 := Lib.hid (HLQ.out _ _ _ hp5)
    have HQ38 := Lib.hid (HROW.out _ _ _ hp5)
    have HP5 := Lib.hid hp5
    clear hp2 hp3 hp4 hp5
    refine wp_region_kept w5.heap.size w5 (Below.refl _ _) (by kernel_rfl) (by kernel_rfl) ?_
    repeat (first
      | (go_big_quiet_want; (with_reducible refine quiet_loadV 29 (.tmp 3) rfl _ ?_ _ HQ34.out ?_); rfl; simp only [Act.put, List.setIfInBounds_toArray, List.set_cons_zero, List.set_cons_succ]; go_big_quiet_on)
      | (go_big_quiet_want; (with_reducible refine quiet_loadV 29 (.tmp 37) rfl _ ?_ _ HQ38.out ?_); rfl; simp only [Act.put, List.setIfInBounds_toArray, List.set_cons_zero, List.set_cons_succ]; go_big_quiet_on)
      | go_big_quiet_step (first | (go_at_call 28; with_reducible exact kept_of (Nat.le_refl _) HCM.out _)))
    refine wpQuiet_nil ?_
    rintro wk ⟨⟨_, hwk⟩, rfl⟩
    have hp6 := HSTEP.out _ _ _ HP5.out hwk
    clear hwk
    go_wp2_with (first
      | (go_at_call 15; (with_reducible refine (HSM.out _ _ hp6).mono ?_); rintro e8 w8 ⟨rfl, hp8⟩))
    go_ret2
    exact HFIN.out _ _ hp8
/-- Put of the program. -/
theorem put_roster (A : Option Addr) (c : Nat) (L : List Ins) (x : Ins) (w : World) (hL : L.length ≤ 10000) (ht : ∀ y ∈ L, y.tgt.length ≤ 100000) (hx : x.tgt.length ≤ 100000) (hA : IAt w w.heap.size A L) (hA2 : A = none ∨ ∃ g off, A = some ⟨g, off, none⟩) :
    Calls Tryz.prog 6 #[.slice A L.length c, .agg (encI x).toArray] w (PutIs w L x) := by
  cases hb : goodR L && goodI x with
  | false => exact put_bad A c L x w hL ht hx hA hA2 hb
  | true =>
    rw [Bool.and_eq_true] at hb
    cases hf : foundAt L x (lowR L x) with
    | false => exact put_new A c L x w ht hx hA hA2 hb.1 hb.2 hf
    | true => exact put_old A c L x w ht hx hA hA2 hb.1 hb.2 hf
end Go.Proofs.YtkceipkgebgigaaGreat
end
section
namespace Go.Proofs.YtkceipkgebgigaaGreat
open Go.Shelf Go.RowKit Go.Lib Go.Great
set_option maxRecDepth 100000
set_option maxHeartbeats 400000
/-- A row of the program's own. -/
def OwnR (w : World) (M : List Ins) (W : World) (v : Value) : Prop := W.ownsRow w.heap.size 29 28 v M.length (flatE encI M) ∧ Below w.heap.size w W
theorem OwnR.bel {w W W' : World} {M : List Ins} {v : Value} (h : OwnR w M W v) (hb : Below W.heap.size W W') : OwnR w M W' v := ⟨own_bel h.1 hb, h.2.trans (hb.mono h.2.size)⟩
theorem OwnR.form {w W : World} {M : List Ins} {v : Value} (h : OwnR w M W v) : ∃ A c, v = .slice A M.length c ∧ IAt W W.heap.size A M ∧ (A = none ∨ ∃ g off, A = some ⟨g, off, none⟩) ∧ M.length ≤ c := by
  obtain ⟨A, c, hv, hn, hc, hm, hform⟩ := own_formI h.1
  rcases hform with ⟨e, e2, _⟩ | ⟨g, e, _, hg, hr⟩
  · exact ⟨A, c, hv, .inl e2, .inl e, hc⟩
  · exact ⟨A, c, hv, .inr ⟨g, 0, e, hg, hr⟩, .inr ⟨g, 0, e⟩, hc⟩
/-- The roster of the first k. -/
def foldK (a b : List Ins) (k : Nat) : List Ins := (b.take k).foldl putL a
theorem foldK_succ (a b : List Ins) (k : Nat) (hk : k < b.length) : foldK a b (k + 1) = putL (foldK a b k) b[k]! := by
  unfold foldK
  rw [List.take_add_one, List.getElem?_eq_getElem hk, getElem!_pos b k hk, List.foldl_append]
  rfl
theorem good_tgt {L : List Ins} (h : goodR L = true) : ∀ y ∈ L, y.tgt.length ≤ 253 := fun y hy => goodI_len (goodR_all h y hy)
theorem put_own {w W : World} {M : List Ins} {v : Value} (h : OwnR w M W v) (hg : goodR M = true) (x : Ins) (hx : goodI x = true) : Calls Tryz.prog 6 #[v, .agg (encI x).toArray] W fun e w' => ∃ v', e = .returned (.tuple #[v', .bool (putOk M x)]) ∧ OwnR w (putL M x) w' v' := by
  obtain ⟨A, c, rfl, hA, hA2, _⟩ := h.form
  have hl := ((goodR_iff M).1 hg).1
  refine (put_roster A c M x W (by omega) (fun y hy => by have := good_tgt hg y hy; omega) (by have := goodI_len hx; omega) hA hA2).mono ?_
  rintro e w' ⟨v', rfl, ho, hb⟩
  exact ⟨v', rfl, own_baseC ho h.2.size, h.2.trans (hb.mono h.2.size)⟩
theorem merge_bad (A B : Option Addr) (c d n : Nat) (a : List Ins) (w : World) (X : Value) (hX : X = .slice B n d)
    (ha : a.length ≤ 10000) (hta : ∀ y ∈ a, y.tgt.length ≤ 100000) (hA : IAt w w.heap.size A a) (hA2 : A = none ∨ ∃ g off, A = some ⟨g, off, none⟩)
    (hg : goodR a = false ∨ (goodR a = true ∧ ∀ W, Below w.heap.size w W → Calls Tryz.prog 13 #[X] W fun e w' => e = .returned (.bool false) ∧ Below W.heap.size W w')) :
    Calls Tryz.prog 16 #[.slice A a.length c, X] w fun e w' => ∃ v, e = .returned v ∧ OwnR w a w' v := by
  have HCL : Hid (Calls Tryz.prog 22 #[.slice A a.length c] w fun e w' => ∃ v, e = .returned v ∧ OwnR w a w' v) := Lib.hid ((iclone_any A c a w ha hA hA2).mono (by rintro e w' ⟨v, rfl, ho, hb⟩; exact ⟨v, rfl, ho, hb⟩))
  have HGA : Hid (∀ W v, OwnR w a W v → Calls Tryz.prog 13 #[.slice A a.length c] W fun e w' => e = .returned (.bool (goodR a)) ∧ OwnR w a w' v) := Lib.hid (fun W v h => (gd_any A c a W hta ((hA.below h.2).more h.2.size)).mono (by rintro e w' ⟨rfl, hb⟩; exact ⟨rfl, h.bel hb⟩))
  generalize a.length = m at *
  clear ha hta hA hA2 hX
  rcases hg with hg | ⟨hg, hb⟩
  · rw [hg] at HGA
    clear hg
    go_enter Tryz.func16, Tryz.ntmps16
    go_wp2_with (first
      | (go_at_call 22; (with_reducible refine HCL.out.mono ?_); rintro e w1 ⟨v1, rfl, ho1⟩)
      | (go_at_call 13; (with_reducible refine (HGA.out _ _ ho1).mono ?_); rintro e w2 ⟨rfl, ho2⟩))
    go_ret
    exact ⟨_, rfl, ho2⟩
  · rw [hg] at HGA
    have HGB : Hid (∀ W v, OwnR w a W v → Calls Tryz.prog 13 #[X] W fun e w' => e = .returned (.bool false) ∧ OwnR w a w' v) := Lib.hid (fun W v h => (hb W h.2).mono (by rintro e w' ⟨rfl, hb⟩; exact ⟨rfl, h.bel hb⟩))
    clear hg hb
    go_enter Tryz.func16, Tryz.ntmps16
    go_upto_region 2 with (first
      | (go_at_call 22; (with_reducible refine HCL.out.mono ?_); rintro e w1 ⟨v1, rfl, ho1⟩))
    have HG1 := Lib.hid (HGA.out _ _ ho1)
    clear HGA HCL
    go_wp2_with (first
      | (go_at_call 13; (with_reducible refine HG1.out.mono ?_); rintro e w2 ⟨rfl, ho2⟩; clear HG1; have HG2 := Lib.hid (HGB.out _ _ ho2))
      | (go_at_call 13; (with_reducible refine HG2.out.mono ?_); rintro e w3 ⟨rfl, ho3⟩))
    go_ret
    exact ⟨_, rfl, ho3⟩
theorem merge_fold (A B : Option Addr) (c d : Nat) (a b : List Ins) (w : World) (hga : goodR a = true) (hgb : goodR b = true)
    (hA : IAt w w.heap.size A a) (hA2 : A = none ∨ ∃ g off, A = some ⟨g, off, none⟩) (hB : IAt w w.heap.size B b) :
    Calls Tryz.prog 16 #[.slice A a.length c, .slice B b.length d] w fun e w' => ∃ v, e = .returned v ∧ OwnR w (mergeL a b) w' v := by
  have hla := ((goodR_iff a).1 hga).1
  have hlb := ((goodR_iff b).1 hgb).1
  have HCL : Hid (Calls Tryz.prog 22 #[.slice A a.length c] w fun e w' => ∃ v, e = .returned v ∧ OwnR w (foldK a b 0) w' v) := Lib.hid ((iclone_any A c a w (by omega) hA hA2).mono (by rintro e w' ⟨v, rfl, ho, hb⟩; exact ⟨v, rfl, ho, hb⟩))
  have HGA : Hid (∀ W v, OwnR w (foldK a b 0) W v → Calls Tryz.prog 13 #[.slice A a.length c] W fun e w' => e = .returned (.bool true) ∧ OwnR w (foldK a b 0) w' v) := Lib.hid (fun W v h => (gd_any A c a W (fun y hy => by have := good_tgt hga y hy; omega) ((hA.below h.2).more h.2.size)).mono (by rintro e w' ⟨rfl, hb⟩; exact ⟨by rw [hga], h.bel hb⟩))
  have HGB : Hid (∀ W v, OwnR w (foldK a b 0) W v → Calls Tryz.prog 13 #[.slice B b.length d] W fun e w' => e = .returned (.bool true) ∧ OwnR w (foldK a b 0) w' v) := Lib.hid (fun W v h => (gd_any B d b W (fun y hy => by have := good_tgt hgb y hy; omega) ((hB.below h.2).more h.2.size)).mono (by rintro e w' ⟨rfl, hb⟩; exact ⟨by rw [hgb], h.bel hb⟩))
  obtain ⟨n, hn⟩ : ∃ n, n = b.length := ⟨_, rfl⟩
  have HLD : Hid (∀ k, k < n → ∃ g off, B = some ⟨g, off, none⟩ ∧ ∀ W, Below w.heap.size w W → (loadVar 29 ⟨g, off + k * 28, none⟩).run Tryz.prog W = .ok (.agg (encI b[k]!).toArray) W) := Lib.hid (fun k hk => by
    rcases hB with rfl | ⟨g, off, rfl, hg, hr⟩
    · simp at hn; omega
    · exact ⟨g, off, rfl, fun W hW => row_load hr hg hW (by omega)⟩)
  have HPUT : Hid (∀ k, k < n → ∀ W v, OwnR w (foldK a b k) W v → Calls Tryz.prog 6 #[v, .agg (encI b[k]!).toArray] W fun e w' => ∃ v' r, e = .returned (.tuple #[v', .bool r]) ∧ OwnR w (foldK a b (k + 1)) w' v') := Lib.hid (fun k hk W v h => by
    have hgk : goodR (foldK a b k) = true := fold_good _ hga (fun x hx => goodR_all hgb x (List.mem_of_mem_take hx))
    have hx : goodI b[k]! = true := goodR_all hgb _ (by rw [getElem!_pos b k (by omega)]; exact List.getElem_mem _)
    refine (put_own h hgk b[k]! hx).mono ?_
    rintro e w' ⟨v', rfl, ho⟩
    exact ⟨v', _, rfl, by rw [foldK_succ a b k (by omega)]; exact ho⟩)
  have HEND : Hid (∀ W v, OwnR w (foldK a b n) W v → OwnR w (mergeL a b) W v) := Lib.hid (fun W v h => by
    rw [merge_is hga hgb]
    unfold foldK at h
    rw [hn, List.take_length] at h
    exact h)
  rw [← hn] at HGB hlb ⊢
  generalize a.length = m at *
  clear hA hA2 hB hga hgb hla hn
  go_enter Tryz.func16, Tryz.ntmps16
  go_upto_region 2 with (first
    | (go_at_call 22; (with_reducible refine HCL.out.mono ?_); rintro e w1 ⟨v1, rfl, ho1⟩))
  have HG1 := Lib.hid (HGA.out _ _ ho1)
  clear HGA HCL
  go_upto_region 5 with (first
    | (go_at_call 13; (with_reducible refine HG1.out.mono ?_); rintro e w2 ⟨rfl, ho2⟩; clear HG1; have HG2 := Lib.hid (HGB.out _ _ ho2))
    | (go_at_call 13; (with_reducible refine HG2.out.mono ?_); rintro e w3 ⟨rfl, ho3⟩))
  have HO3 := Lib.hid ho3
  clear ho1 ho2 ho3 HG2 HGB
  go_loopw [5, 21] (fun s5 i wr => ∃ k : Nat, i = .int .i64 (k : Int) ∧ k ≤ n ∧ OwnR w (foldK a b k) wr s5) (fun _ i _ => n - (RowKit.intOf i).toNat)
  case atStart => exact ⟨0, rfl, by omega, HO3.out⟩
  case round =>
    obtain ⟨k, rfl, hk, ho⟩ := hrel
    clear HO3
    by_cases hlt : k < n
    · have hlt' : (k : Int) < (n : Int) := by omega
      obtain ⟨g, off, rfl, hld⟩ := HLD.out k hlt
      have hld := Lib.hid (hld wr ho.2)
      have hnew := heap_alloc_new wr (.cells (encI b[k]!).toArray 29)
      have hba : Below wr.heap.size wr (wr.alloc (.cells (encI b[k]!).toArray 29)) := (Below.refl _ wr).alloc (Nat.le_refl _) _
      have HLX := Lib.hid (load28 (row_range hnew))
      have HP := Lib.hid (HPUT.out k hlt _ _ (ho.bel hba))
      clear HLD HPUT HEND ho hnew hba
      generalize b[k]! = x at *
      go_wp2_with (first
        | ((with_reducible refine wpList_loadV (op := ⟨some 24, _, _, _, _, _⟩) rfl 29 (.tmp 23) rfl _ ?_ _ hld.out ?_); rfl)
        | (with_reducible refine wpList_alloc28 (o := ⟨some 7, _, _, _, _, _⟩) wr.heap.size rfl rfl 7 rfl rfl ?_)
        | ((with_reducible refine wpList_store28n (o := ⟨none, _, _, _, _, _⟩) rfl (.tmp 7) (.tmp 24) rfl wr.heap.size rfl zeroI x ?_ ?_ ?_); rfl; rfl)
        | ((with_reducible refine wpList_loadV (op := ⟨some 27, _, _, _, _, _⟩) rfl 29 (.tmp 7) rfl _ ?_ _ HLX.out ?_); rfl)
        | (go_at_call 6; (with_reducible refine HP.out.mono ?_); rintro e w4 ⟨v4, r4, rfl, ho4⟩))
      go_roundw
      case rel => exact ⟨k + 1, by go_num, by omega, ho4⟩
      case measure => simp [RowKit.intOf]; omega
    · obtain rfl : k = n := by omega
      have HE := Lib.hid (HEND.out _ _ ho)
      clear HLD HPUT HEND ho
      go_wp2
      go_ret
      exact ⟨_, rfl, HE.out⟩
theorem merge_any (A B : Option Addr) (c d : Nat) (a b : List Ins) (w : World) (ha : a.length ≤ 10000) (hta : ∀ y ∈ a, y.tgt.length ≤ 100000) (htb : ∀ y ∈ b, y.tgt.length ≤ 100000)
    (hA : IAt w w.heap.size A a) (hA2 : A = none ∨ ∃ g off, A = some ⟨g, off, none⟩) (hB : IAt w w.heap.size B b) :
    Calls Tryz.prog 16 #[.slice A a.length c, .slice B b.length d] w fun e w' => ∃ v, e = .returned v ∧ OwnR w (mergeL a b) w' v := by
  have he : ¬ (goodR a = true ∧ goodR b = true) → mergeL a b = a := fun h => by
    unfold mergeL
    rw [if_neg (by rw [Bool.and_eq_true]; exact h)]
  cases hga : goodR a with
  | false =>
    rw [he (by rw [hga]; simp)]
    exact merge_bad A B c d b.length a w _ rfl ha hta hA hA2 (.inl hga)
  | true =>
    cases hgb : goodR b with
    | false =>
      rw [he (by rw [hgb]; simp)]
      exact merge_bad A B c d b.length a w _ rfl ha hta hA hA2 (.inr ⟨hga, fun W hW => by
        have := gd_any B d b W htb ((hB.below hW).more hW.size)
        rw [hgb] at this
        exact this⟩)
    | true => exact merge_fold A B c d a b w hga hgb hA hA2 hB
end Go.Proofs.YtkceipkgebgigaaGreat
end
section
namespace Go.Proofs.YtkceipkgebgigaaGreat
open Go.Shelf Go.RowKit Go.Lib Go.Great
set_option maxRecDepth 100000
set_option maxHeartbeats 400000
/-- Instances that are not more than are looked at. -/
def lightR (L : List Ins) : Bool := L.all (fun i => decide (i.tgt.length ≤ 300)) && decide (L.length ≤ 40)
theorem light_of {L : List Ins} {k : Nat} (hk : k < L.length) (h : ¬ L[k]!.tgt.length ≤ 300) : lightR L = false := by
  unfold lightR
  rw [Bool.and_eq_false_iff]
  left
  rw [List.all_eq_false]
  refine ⟨L[k]!, ?_, by simpa using h⟩
  rw [getElem!_pos L k hk]
  exact List.getElem_mem hk
theorem light_end {L : List Ins} (h : ∀ k, k < L.length → L[k]!.tgt.length ≤ 300) : lightR L = decide (L.length ≤ 40) := by
  unfold lightR
  have : L.all (fun i => decide (i.tgt.length ≤ 300)) = true := by
    rw [List.all_eq_true]
    intro x hx
    obtain ⟨k, hk, rfl⟩ := List.getElem_of_mem hx
    have := h k hk
    rw [getElem!_pos L k hk] at this
    simpa using this
  rw [this, Bool.true_and]
theorem light_none (A : Option Addr) (c : Nat) (w : World) : Calls Tryz.prog 4 #[.slice A 0 c] w fun e w' => e = .returned (.bool true) ∧ w' = w := by
  go_enter Tryz.func4, Tryz.ntmps4
  go_wp2
  go_loopg [7] 0 (fun _ s wr => s = .int .i64 0 ∧ wr = w)
  case atStart => exact ⟨rfl, rfl⟩
  case round =>
    obtain ⟨rfl, rfl⟩ := hrel
    go_wp2
    go_ret
    exact ⟨rfl, rfl⟩
theorem light_some (b off c n : Nat) (L : List Ins) (w : World) (hn : L.length = n) (hL : n ≤ 9223372036854775807) (hb : b < w.heap.size) (hr : w.rangeAt b off (flatE encI L)) :
    Calls Tryz.prog 4 #[.slice (some ⟨b, off, none⟩) n c] w fun e w' => e = .returned (.bool (lightR L)) ∧ Below w.heap.size w w' := by
  have HLD : Hid (∀ k, k < n → ∀ W, Below w.heap.size w W → (loadVar 29 ⟨b, off + k * 28, none⟩).run Tryz.prog W = .ok (.agg (encI L[k]!).toArray) W) := Lib.hid (fun k hk W hW => row_load hr hb hW (by omega))
  have HF : Hid (∀ k, k < n → ¬ L[k]!.tgt.length ≤ 300 → lightR L = false) := Lib.hid (fun k hk h => light_of (by omega) h)
  have HE : Hid ((∀ k, k < n → L[k]!.tgt.length ≤ 300) → lightR L = decide (n ≤ 40)) := Lib.hid (fun h => by rw [← hn]; exact light_end (fun k hk => h k (by omega)))
  clear hr hn
  generalize lightR L = r at *
  go_enter Tryz.func4, Tryz.ntmps4
  go_wp2
  go_loopw [7] (fun i wr => ∃ k : Nat, i = .int .i64 (k : Int) ∧ k ≤ n ∧ (∀ j, j < k → L[j]!.tgt.length ≤ 300) ∧ Below w.heap.size w wr) (fun i _ => n - (RowKit.intOf i).toNat)
  case atStart => exact ⟨0, rfl, by omega, fun j hj => by omega, Below.refl _ _⟩
  case round =>
    obtain ⟨k, rfl, hk, hF, hbr⟩ := hrel
    have HD := Lib.hid hF
    clear hF
    by_cases hlt : k < n
    · have hlt' : (k : Int) < (n : Int) := by omega
      have hbn : Below w.heap.size w (wr.alloc (.cells (encI L[k]!).toArray 29)) := hbr.alloc hbr.size _
      have HBN := Lib.hid hbn
      have hfl := (fldB (heap_alloc_new wr (.cells (encI L[k]!).toArray 29))).tgt
      have hld := Lib.hid (HLD.out k hlt wr hbr)
      have HFK := HF.out k hlt
      have HDK : Hid (L[k]!.tgt.length ≤ 300 → ∀ j, j < k + 1 → L[j]!.tgt.length ≤ 300) := Lib.hid (fun h j hj => by
        rcases Nat.lt_or_ge j k with h' | h'
        · exact HD.out j h'
        · obtain rfl : j = k := by omega
          exact h)
      clear HD HF HE HLD hbn
      generalize L[k]! = Y at *
      have hsz : (bstr Y.tgt).size = Y.tgt.length := by show Y.tgt.toArray.size = _; simp
      generalize bstr Y.tgt = S at *
      by_cases hs : Y.tgt.length ≤ 300
      · have hs1 : ¬ (S.size : Int) > 300 := by omega
        have HX := Lib.hid (HDK.out hs)
        clear HFK hs hsz HDK
        go_wp2_with (first
          | ((with_reducible refine wpList_loadV (op := ⟨some 10, _, _, _, _, _⟩) rfl 29 (.tmp 9) rfl _ ?_ _ hld.out ?_); rfl)
          | (with_reducible refine wpList_alloc28 (o := ⟨some 4, _, _, _, _, _⟩) wr.heap.size rfl rfl 4 rfl rfl ?_)
          | ((with_reducible refine wpList_store28n (o := ⟨none, _, _, _, _, _⟩) rfl (.tmp 4) (.tmp 10) rfl wr.heap.size rfl zeroI Y ?_ ?_ ?_); rfl; rfl))
        go_roundw
        case rel => exact ⟨k + 1, by go_num, by omega, HX.out, HBN.out⟩
        case measure => simp [RowKit.intOf]; omega
      · have hs1 : (S.size : Int) > 300 := by omega
        have HX := Lib.hid (HFK hs)
        clear HFK hs hsz HDK
        go_wp2_with (first
          | ((with_reducible refine wpList_loadV (op := ⟨some 10, _, _, _, _, _⟩) rfl 29 (.tmp 9) rfl _ ?_ _ hld.out ?_); rfl)
          | (with_reducible refine wpList_alloc28 (o := ⟨some 4, _, _, _, _, _⟩) wr.heap.size rfl rfl 4 rfl rfl ?_)
          | ((with_reducible refine wpList_store28n (o := ⟨none, _, _, _, _, _⟩) rfl (.tmp 4) (.tmp 10) rfl wr.heap.size rfl zeroI Y ?_ ?_ ?_); rfl; rfl))
        go_ret
        exact ⟨by rw [HX.out]; rfl, HBN.out⟩
    · obtain rfl : k = n := by omega
      have HX := Lib.hid (HE.out HD.out)
      have HB := Lib.hid hbr
      clear HD HF HE HLD hbr
      by_cases h4 : k ≤ 40
      · have h4' : (k : Int) ≤ 40 := by omega
        go_wp2
        go_ret
        exact ⟨by rw [HX.out]; simp [h4], HB.out⟩
      · have h4' : ¬ (k : Int) ≤ 40 := by omega
        go_wp2
        go_ret
        exact ⟨by rw [HX.out]; simp [h4], HB.out⟩
theorem light_any (A : Option Addr) (c : Nat) (L : List Ins) (w : World) (hL : L.length ≤ 9223372036854775807) (hA : IAt w w.heap.size A L) :
    Calls Tryz.prog 4 #[.slice A L.length c] w fun e w' => e = .returned (.bool (lightR L)) ∧ Below w.heap.size w w' := by
  rcases hA with rfl | ⟨g, off, rfl, hg, hr⟩
  · exact (light_none A c w).mono (by rintro e w' ⟨rfl, rfl⟩; exact ⟨rfl, Below.refl _ _⟩)
  · exact light_some g off c L.length L w rfl hL hg hr
end Go.Proofs.YtkceipkgebgigaaGreat
end
