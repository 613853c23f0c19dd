/- Put of the reference. Conditions: at most 10,000 instances, targets of at most 100,000 bytes. -/
import Derived.Test.YtkceipkgebgigaaGreatXOgb
import Derived.Test.YtkceipkgebgigaaGreatXZac
import Derived.Test.YtkceipkgebgigaaGreatXIil
import Derived.Test.YtkceipkgebgigaaGreatXOqb
namespace Go.Proofs.YtkceipkgebgigaaGreat
open Go.Shelf Go.RowKit Go.Lib Go.Great
set_option maxRecDepth 100000
set_option maxHeartbeats 400000
/-- What the reference's Put tells. -/
def RPut (w : World) (L : List Ins) (x : Ins) (e : Ending) (w' : World) : Prop :=
  ∃ A c, e = .returned (.tuple #[.slice A (putL L x).length c, .bool (putOk L x)]) ∧ IAt w' w'.heap.size A (putL L x) ∧ (A = none ∨ ∃ g off, A = some ⟨g, off, none⟩) ∧ Below w.heap.size w w'
theorem rput_bad (A : Option Addr) (c : Nat) (L : List Ins) (x : Ins) (w : World) (hl : L.length ≤ 10000) (ht : ∀ y ∈ L, y.tgt.length ≤ 100000) (hx : x.tgt.length ≤ 100000) (hA : IAt w w.heap.size A L) (hA2 : A = none ∨ ∃ g off, A = some ⟨g, off, none⟩) (hg : ¬ (goodR L = true ∧ goodI x = true)) :
    Calls Tryz.prog 7 #[.slice A L.length c, .agg (encI x).toArray] w (RPut w L x) := by
  have eP : putL L x = L := by unfold putL; rw [if_neg (by rw [Bool.and_eq_true]; exact hg)]
  have eO : putOk L x = false := by unfold putOk; rw [if_neg (by rw [Bool.and_eq_true]; exact hg)]
  have k1 := heap_alloc_new w (.cells (encI x).toArray 29)
  have hb : Below w.heap.size w (w.alloc (.cells (encI x).toArray 29)) := (Below.refl _ w).alloc (Nat.le_refl _) _
  obtain ⟨w1, hw1⟩ : ∃ y, y = w.alloc (.cells (encI x).toArray 29) := ⟨_, rfl⟩
  have HW1 := Lib.hid hw1
  rw [← hw1] at k1 hb
  have HB := Lib.hid hb
  have up : ∀ {W : World}, Below w1.heap.size w1 W → IAt W W.heap.size A L := fun hW => by
    have h2 := hb.trans (hW.mono hb.size)
    exact (hA.below h2).more h2.size
  have H14 : Hid (∀ W, Below w1.heap.size w1 W → Calls Tryz.prog 14 #[.slice A L.length c] W fun e w' => e = .returned (.bool (goodR L)) ∧ Below w1.heap.size w1 w') := Lib.hid (fun W hW => (rgd_any A c L W hl ht (up hW)).mono (by rintro e w' ⟨rfl, hb'⟩; exact ⟨rfl, hW.trans (hb'.mono hW.size)⟩))
  have H29 : Hid (∀ W, Below w1.heap.size w1 W → Calls Tryz.prog 29 #[.agg (encI x).toArray] W fun e w' => e = .returned (.bool (goodI x)) ∧ Below w1.heap.size w1 w') := Lib.hid (fun W hW => (rgoodI_any x hx W).mono (by rintro e w' ⟨rfl, hb'⟩; exact ⟨rfl, hW.trans (hb'.mono hW.size)⟩))
  have HX29 : Hid (∀ W, Below w1.heap.size w1 W → (loadVar 29 ⟨w.heap.size, 0, none⟩).run Tryz.prog W = .ok (.agg (encI x).toArray) W) := Lib.hid (fun W hW => load28 (row_range ((hW.block _ (Array.getElem?_eq_some_iff.1 k1).1).trans k1)))
  have HF : Hid (∀ W, Below w1.heap.size w1 W → RPut w L x (.returned (.tuple #[.slice A L.length c, .bool false])) W) := Lib.hid (fun W hW => ⟨A, c, by rw [eP, eO], by rw [eP]; exact up hW, hA2, hb.trans (hW.mono hb.size)⟩)
  clear hw1 up hA hA2 k1 hb eP eO hl ht hx
  cases gl : goodR L
  · rw [gl] at H14
    clear hg gl
    generalize L.length = n at *
    go_enter Tryz.func7, Tryz.ntmps7
    go_upto_region 1 with fail
    rw [← HW1.out]
    go_wp2_with (first
      | (go_at_call 14; (with_reducible refine (H14.out _ (Below.refl _ _)).mono ?_); rintro e w2 ⟨rfl, hb2⟩))
    go_ret2
    exact HF.out _ hb2
  · have gx : goodI x = false := by
      cases h : goodI x
      · rfl
      · exact absurd ⟨gl, h⟩ hg
    rw [gl] at H14
    rw [gx] at H29
    clear hg gl gx
    generalize L.length = n at *
    go_enter Tryz.func7, Tryz.ntmps7
    go_upto_region 1 with fail
    rw [← HW1.out]
    go_wp2_with (first
      | (go_at_call 14; (with_reducible refine (H14.out _ (Below.refl _ _)).mono ?_); rintro e w2 ⟨rfl, hb2⟩)
      | ((with_reducible refine wpList_loadG (o := ⟨some 14, _, _, _, _, _⟩) rfl 29 (.tmp 3) rfl _ ?_ _ (HX29.out _ hb2) ?_); rfl)
      | (go_at_call 29; (with_reducible refine (H29.out _ hb2).mono ?_); rintro e w3 ⟨rfl, hb3⟩))
    go_ret2
    exact HF.out _ hb3
theorem rput_good (A : Option Addr) (c : Nat) (L : List Ins) (x : Ins) (w : World) (hl : L.length ≤ 10000) (ht : ∀ y ∈ L, y.tgt.length ≤ 100000) (hx : x.tgt.length ≤ 100000) (hA : IAt w w.heap.size A L) (hA2 : A = none ∨ ∃ g off, A = some ⟨g, off, none⟩) (gl : goodR L = true) (gx : goodI x = true) :
    Calls Tryz.prog 7 #[.slice A L.length c, .agg (encI x).toArray] w (RPut w L x) := by
  have h16 := ((goodR_iff L).1 gl).1
  have k1 := heap_alloc_new w (.cells (encI x).toArray 29)
  have hb : Below w.heap.size w (w.alloc (.cells (encI x).toArray 29)) := (Below.refl _ w).alloc (Nat.le_refl _) _
  obtain ⟨w1, hw1⟩ : ∃ y, y = w.alloc (.cells (encI x).toArray 29) := ⟨_, rfl⟩
  have HW1 := Lib.hid hw1
  rw [← hw1] at k1 hb
  have HB := Lib.hid hb
  have up : ∀ {W : World}, Below w1.heap.size w1 W → IAt W W.heap.size A L := fun hW => by
    have h2 := hb.trans (hW.mono hb.size)
    exact (hA.below h2).more h2.size
  have H14 : Hid (∀ W, Below w1.heap.size w1 W → Calls Tryz.prog 14 #[.slice A L.length c] W fun e w' => e = .returned (.bool (goodR L)) ∧ Below w1.heap.size w1 w') := Lib.hid (fun W hW => (rgd_any A c L W hl ht (up hW)).mono (by rintro e w' ⟨rfl, hb'⟩; exact ⟨rfl, hW.trans (hb'.mono hW.size)⟩))
  have H29 : Hid (∀ W, Below w1.heap.size w1 W → Calls Tryz.prog 29 #[.agg (encI x).toArray] W fun e w' => e = .returned (.bool (goodI x)) ∧ Below w1.heap.size w1 w') := Lib.hid (fun W hW => (rgoodI_any x hx W).mono (by rintro e w' ⟨rfl, hb'⟩; exact ⟨rfl, hW.trans (hb'.mono hW.size)⟩))
  have HX29 : Hid (∀ W, Below w1.heap.size w1 W → (loadVar 29 ⟨w.heap.size, 0, none⟩).run Tryz.prog W = .ok (.agg (encI x).toArray) W) := Lib.hid (fun W hW => load28 (row_range ((hW.block _ (Array.getElem?_eq_some_iff.1 k1).1).trans k1)))
  have HX24 : Hid (∀ W, Below w1.heap.size w1 W → (loadVar 24 ⟨w.heap.size, 0, none⟩).run Tryz.prog W = .ok (.agg (bcells x.pub).toArray) W) := Lib.hid (fun W hW => load23 (row_range ((hW.block _ (Array.getElem?_eq_some_iff.1 k1).1).trans k1)))
  obtain ⟨old, hold⟩ : ∃ y, y = (getV L x.pub).1 := ⟨_, rfl⟩
  obtain ⟨ok, hok⟩ : ∃ y, y = (getV L x.pub).2 := ⟨_, rfl⟩
  have H11 : Hid (∀ W, Below w1.heap.size w1 W → Calls Tryz.prog 11 #[.slice A L.length c, .agg (bcells x.pub).toArray] W fun e w' => e = .returned (.tuple #[.agg (encI old).toArray, .bool ok]) ∧ Below w1.heap.size w1 w') := Lib.hid (fun W hW => (rget_any A c L x.pub x.hp W (by omega) (up hW)).mono (by rintro e w' ⟨rfl, hb'⟩; exact ⟨by rw [hold, hok], hW.trans (hb'.mono hW.size)⟩))
  have H30 : Hid (∀ W, Below w1.heap.size w1 W → Calls Tryz.prog 30 #[.agg (encI x).toArray, .agg (encI old).toArray] W fun e w' => e = .returned (.int .i64 (cmpI x old)) ∧ Below w1.heap.size w1 w') := Lib.hid (fun W hW => (rcmp_any x old W).mono (by rintro e w' ⟨rfl, hb'⟩; exact ⟨rfl, hW.trans (hb'.mono hW.size)⟩))
  have HOL : Hid (∀ W, Below w1.heap.size w1 W → Below w1.heap.size w1 (W.alloc (.cells (encI old).toArray 29)) ∧ (loadVar 29 ⟨W.heap.size, 0, none⟩).run Tryz.prog (W.alloc (.cells (encI old).toArray 29)) = .ok (.agg (encI old).toArray) (W.alloc (.cells (encI old).toArray 29))) := Lib.hid (fun W hW => ⟨hW.alloc hW.size _, load28 (row_range (heap_alloc_new W _))⟩)
  have hsp := put_split gl gx
  rw [← hold, ← hok] at hsp
  rw [gl] at H14
  rw [gx] at H29
  rcases hsp with ⟨hk, hle, eP, eO⟩ | ⟨hne, eP, eO, hM⟩
  · subst hk
    have hle' : cmpI x old ≤ 0 := hle
    have HF : Hid (∀ W, Below w1.heap.size w1 W → RPut w L x (.returned (.tuple #[.slice A L.length c, .bool false])) W) := Lib.hid (fun W hW => ⟨A, c, by rw [eP, eO], by rw [eP]; exact up hW, hA2, hb.trans (hW.mono hb.size)⟩)
    clear hw1 up hA hA2 k1 hb eP eO hl ht hx gl gx hok hle h16 hold
    generalize L.length = n at *
    generalize cmpI x old = cv at *
    go_enter Tryz.func7, Tryz.ntmps7
    go_upto_region 1 with fail
    rw [← HW1.out]
    go_wp2_with (first
      | (go_at_call 14; (with_reducible refine (H14.out _ (Below.refl _ _)).mono ?_); rintro e w2 ⟨rfl, hb2⟩)
      | ((with_reducible refine wpList_loadG (o := ⟨some 14, _, _, _, _, _⟩) rfl 29 (.tmp 3) rfl _ ?_ _ (HX29.out _ hb2) ?_); rfl)
      | (go_at_call 29; (with_reducible refine (H29.out _ hb2).mono ?_); rintro e w3 ⟨rfl, hb3⟩)
      | ((with_reducible refine wpList_loadV (op := ⟨some 22, _, _, _, _, _⟩) rfl 24 (.tmp 21) rfl _ ?_ _ (HX24.out _ hb3) ?_); rfl)
      | (go_at_call 11; (with_reducible refine (H11.out _ hb3).mono ?_); rintro e w4 ⟨rfl, hb4⟩; have hol := HOL.out _ hb4)
      | (with_reducible refine wpList_alloc28 (o := ⟨some 6, _, _, _, _, _⟩) w4.heap.size rfl rfl 6 rfl rfl ?_)
      | ((with_reducible refine wpList_store28n (o := ⟨none, _, _, _, _, _⟩) rfl (.tmp 6) (.tmp 24) rfl w4.heap.size rfl zeroI old ?_ ?_ ?_); rfl; rfl)
      | ((with_reducible refine wpList_loadG (o := ⟨some 28, _, _, _, _, _⟩) rfl 29 (.tmp 3) rfl _ ?_ _ (HX29.out _ hol.1) ?_); rfl)
      | ((with_reducible refine wpList_loadG (o := ⟨some 29, _, _, _, _, _⟩) rfl 29 (.tmp 6) rfl _ ?_ _ hol.2 ?_); rfl)
      | (go_at_call 30; (with_reducible refine (H30.out _ hol.1).mono ?_); rintro e w5 ⟨rfl, hb5⟩))
    go_ret2
    exact HF.out _ hb5
  · obtain ⟨M, hMe⟩ : ∃ M, M = withL L x := ⟨_, rfl⟩
    rw [← hMe] at eP eO hM
    have hM1 : 1 ≤ M.length := by
      rw [hMe, with_is ((good_iff L).1 gl).2.2]
      simp
      omega
    have H31 : Hid (∀ W, Below w1.heap.size w1 W → Calls Tryz.prog 31 #[.slice A L.length c, .agg (encI x).toArray] W fun e w' => ∃ g c', e = .returned (.slice (some ⟨g, 0, none⟩) M.length c') ∧ w1.heap.size ≤ g ∧ g < w'.heap.size ∧ w'.rangeAt g 0 (flatE encI M) ∧ M.length ≤ c' ∧ Below w1.heap.size w1 w') := Lib.hid (fun W hW => (rwith_any A c L x W h16 (up hW)).mono (by
      rintro e w' ⟨v, rfl, ho⟩
      rw [← hMe] at ho
      obtain ⟨A', c', hv, hn, hc, hm, hform⟩ := own_formI ho.1
      rcases hform with ⟨_, e, _⟩ | ⟨g, rfl, hgb, hg, hr⟩
      · rw [e] at hM1; simp at hM1
      · exact ⟨g, c', by rw [hv], Nat.le_trans hW.size hgb, hg, hr, hc, hW.trans (ho.2.mono hW.size)⟩))
    have H12 : Hid (∀ W A' c' (E : List Ins), Below w1.heap.size w1 W → E.length ≤ 17 → IAt W W.heap.size A' E → Calls Tryz.prog 12 #[.slice A' E.length c', .slice A L.length c] W fun e w' => e = .returned (.bool (sameR E L)) ∧ IAt w' w'.heap.size A' E ∧ Below w1.heap.size w1 w') := Lib.hid (fun W A' c' E hW hE hi => (rsame_any A' A c' c E L W (by omega) hi (up hW)).mono (by rintro e w' ⟨rfl, hb'⟩; exact ⟨rfl, (hi.below hb').more hb'.size, hW.trans (hb'.mono hW.size)⟩))
    have HE : Hid (∀ W A' c' (E : List Ins), E = fitL M → IAt W W.heap.size A' E → (A' = none ∨ ∃ g off, A' = some ⟨g, off, none⟩) → Below w1.heap.size w1 W → RPut w L x (.returned (.tuple #[.slice A' E.length c', .bool (!sameR E L)])) W) := Lib.hid (fun W A' c' E hE hi h2 hW => ⟨A', c', by rw [eP, eO, hE], by rw [eP, ← hE]; exact hi, h2, hb.trans (hW.mono hb.size)⟩)
    by_cases hm16 : M.length ≤ 16
    · have HEM : Hid (M = fitL M) := Lib.hid (by unfold fitL; rw [if_pos hm16])
      have H12M : Hid (∀ W A' c', Below w1.heap.size w1 W → IAt W W.heap.size A' M → Calls Tryz.prog 12 #[.slice A' M.length c', .slice A L.length c] W fun e w' => e = .returned (.bool (sameR M L)) ∧ IAt w' w'.heap.size A' M ∧ Below w1.heap.size w1 w') := Lib.hid (fun W A' c' hW hi => H12.out W A' c' M hW (by omega) hi)
      have HEE : Hid (∀ W A' c', IAt W W.heap.size A' M → (A' = none ∨ ∃ g off, A' = some ⟨g, off, none⟩) → Below w1.heap.size w1 W → RPut w L x (.returned (.tuple #[.slice A' M.length c', .bool (!sameR M L)])) W) := Lib.hid (fun W A' c' hi h2 hW => HE.out W A' c' M HEM.out hi h2 hW)
      have hm' : ¬ (M.length : Int) > 16 := by omega
      have HIA : Hid (∀ W g, w1.heap.size ≤ g → g < W.heap.size → W.rangeAt g 0 (flatE encI M) → IAt W W.heap.size (some ⟨g, 0, none⟩) M) := Lib.hid (fun W g h1 h2 h3 => .inr ⟨g, 0, rfl, h2, h3⟩)
      clear hw1 up hA hA2 k1 hb eP eO hl ht hx gl gx hok h16 hold hM hMe hM1 hm16 H12 HE HEM
      generalize L.length = n at *
      generalize M.length = m at *
      generalize sameR M L = sm at *
      cases ok
      · clear hne
        go_enter Tryz.func7, Tryz.ntmps7
        go_upto_region 1 with fail
        rw [← HW1.out]
        go_wp2_with (first
      | (go_at_call 14; (with_reducible refine (H14.out _ (Below.refl _ _)).mono ?_); rintro e w2 ⟨rfl, hb2⟩)
      | ((with_reducible refine wpList_loadG (o := ⟨some 14, _, _, _, _, _⟩) rfl 29 (.tmp 3) rfl _ ?_ _ (HX29.out _ hb2) ?_); rfl)
      | (go_at_call 29; (with_reducible refine (H29.out _ hb2).mono ?_); rintro e w3 ⟨rfl, hb3⟩)
      | ((with_reducible refine wpList_loadV (op := ⟨some 22, _, _, _, _, _⟩) rfl 24 (.tmp 21) rfl _ ?_ _ (HX24.out _ hb3) ?_); rfl)
      | (go_at_call 11; (with_reducible refine (H11.out _ hb3).mono ?_); rintro e w4 ⟨rfl, hb4⟩; have hol := HOL.out _ hb4)
      | (with_reducible refine wpList_alloc28 (o := ⟨some 6, _, _, _, _, _⟩) w4.heap.size rfl rfl 6 rfl rfl ?_)
      | ((with_reducible refine wpList_store28n (o := ⟨none, _, _, _, _, _⟩) rfl (.tmp 6) (.tmp 24) rfl w4.heap.size rfl zeroI old ?_ ?_ ?_); rfl; rfl)
      | ((with_reducible refine wpList_loadV (op := ⟨some 35, _, _, _, _, _⟩) rfl 29 (.tmp 3) rfl _ ?_ _ (HX29.out _ hol.1) ?_); rfl)
      | (go_at_call 31; (with_reducible refine (H31.out _ hol.1).mono ?_); rintro e w6 ⟨g6, c6, rfl, hg6, hl6, hr6, hc6, hb6⟩; have hi6 := HIA.out _ _ hg6 hl6 hr6)
      | (go_at_call 12; (with_reducible refine (H12M.out _ _ _ hb6 hi6).mono ?_); rintro e w12 ⟨rfl, hi12, hb12⟩))
        go_ret2
        exact HEE.out _ _ _ hi12 (.inr ⟨_, _, rfl⟩) hb12
      · have hc : ¬ cmpI x old ≤ 0 := fun h => hne ⟨rfl, h⟩
        clear hne
        generalize cmpI x old = cv at *
        go_enter Tryz.func7, Tryz.ntmps7
        go_upto_region 1 with fail
        rw [← HW1.out]
        go_wp2_with (first
      | (go_at_call 14; (with_reducible refine (H14.out _ (Below.refl _ _)).mono ?_); rintro e w2 ⟨rfl, hb2⟩)
      | ((with_reducible refine wpList_loadG (o := ⟨some 14, _, _, _, _, _⟩) rfl 29 (.tmp 3) rfl _ ?_ _ (HX29.out _ hb2) ?_); rfl)
      | (go_at_call 29; (with_reducible refine (H29.out _ hb2).mono ?_); rintro e w3 ⟨rfl, hb3⟩)
      | ((with_reducible refine wpList_loadV (op := ⟨some 22, _, _, _, _, _⟩) rfl 24 (.tmp 21) rfl _ ?_ _ (HX24.out _ hb3) ?_); rfl)
      | (go_at_call 11; (with_reducible refine (H11.out _ hb3).mono ?_); rintro e w4 ⟨rfl, hb4⟩; have hol := HOL.out _ hb4)
      | (with_reducible refine wpList_alloc28 (o := ⟨some 6, _, _, _, _, _⟩) w4.heap.size rfl rfl 6 rfl rfl ?_)
      | ((with_reducible refine wpList_store28n (o := ⟨none, _, _, _, _, _⟩) rfl (.tmp 6) (.tmp 24) rfl w4.heap.size rfl zeroI old ?_ ?_ ?_); rfl; rfl)
      | ((with_reducible refine wpList_loadG (o := ⟨some 28, _, _, _, _, _⟩) rfl 29 (.tmp 3) rfl _ ?_ _ (HX29.out _ hol.1) ?_); rfl)
      | ((with_reducible refine wpList_loadG (o := ⟨some 29, _, _, _, _, _⟩) rfl 29 (.tmp 6) rfl _ ?_ _ hol.2 ?_); rfl)
      | (go_at_call 30; (with_reducible refine (H30.out _ hol.1).mono ?_); rintro e w5 ⟨rfl, hb5⟩)
      | ((with_reducible refine wpList_loadV (op := ⟨some 35, _, _, _, _, _⟩) rfl 29 (.tmp 3) rfl _ ?_ _ (HX29.out _ hb5) ?_); rfl)
      | (go_at_call 31; (with_reducible refine (H31.out _ hb5).mono ?_); rintro e w6 ⟨g6, c6, rfl, hg6, hl6, hr6, hc6, hb6⟩; have hi6 := HIA.out _ _ hg6 hl6 hr6)
      | (go_at_call 12; (with_reducible refine (H12M.out _ _ _ hb6 hi6).mono ?_); rintro e w12 ⟨rfl, hi12, hb12⟩))
        go_ret2
        exact HEE.out _ _ _ hi12 (.inr ⟨_, _, rfl⟩) hb12
    · have hm17 : M.length = 17 := by omega
      obtain ⟨f, hf⟩ : ∃ f, f = lastMin M 17 := ⟨_, rfl⟩
      have hflt : f < 17 := by rw [hf]; exact lastMin_le M 17 17 (Nat.le_refl _) (by omega)
      have eF : [] ++ M.take f ++ M.drop (f + 1) = fitL M := by unfold fitL; rw [if_neg hm16, hm17, ← hf, List.eraseIdx_eq_take_drop_succ]; rfl
      have H32 : Hid (∀ W g c', g < W.heap.size → W.rangeAt g 0 (flatE encI M) → Calls Tryz.prog 32 #[.slice (some ⟨g, 0, none⟩) 17 c'] W fun e w' => e = .returned (.int .i64 (f : Int)) ∧ Below W.heap.size W w') := Lib.hid (fun W g c' hg hr => by rw [hf]; exact rfirst_any g 0 c' 17 M W hm17 (by omega) (by omega) hg hr)
      have HSL : Hid (∀ W g, g < W.heap.size → W.rangeAt g 0 (flatE encI M) → ∀ c', 17 ≤ c' → Src Tryz.prog 28 22 (.slice (headI (some ⟨g, 0, none⟩) c') f c') (M.take f).length (flatE encI (M.take f)) W ∧ Src Tryz.prog 28 22 (.slice (cutI (some ⟨g, 0, none⟩) c' (f + 1)) (17 - (f + 1)) (c' - (f + 1))) (M.drop (f + 1)).length (flatE encI (M.drop (f + 1))) W) := Lib.hid (fun W g hg hr c' hc => by
        have hI : IAt W W.heap.size (some ⟨g, 0, none⟩) M := .inr ⟨g, 0, rfl, hg, hr⟩
        have e1 : (M.take f).length = f := by rw [List.length_take]; omega
        have e2 : (M.drop (f + 1)).length = 17 - (f + 1) := by rw [List.length_drop, hm17]
        have s1 := IAt.src insT (hI.headI c' f) c'
        have s2 := IAt.src insT (hI.cutI (c := c') (k := f + 1) (by omega)) (c' - (f + 1))
        rw [e1] at s1 ⊢
        rw [e2] at s2 ⊢
        exact ⟨s1, s2⟩)
      have HLE : Hid (([] : List Ins).length + (M.take f).length ≤ 1000000 ∧ ([] ++ M.take f).length + (M.drop (f + 1)).length ≤ 1000000) := Lib.hid (by simp only [List.length_append, List.length_take, List.length_drop, List.length_nil]; omega)
      have HEN : Hid (([] ++ M.take f ++ M.drop (f + 1)).length ≤ 17) := Lib.hid (by simp only [List.length_append, List.length_take, List.length_drop, List.length_nil]; omega)
      have HEF := Lib.hid eF
      rw [hm17] at H31
      clear hw1 up hA hA2 k1 hb eP eO hl ht hx gl gx hok h16 hold hMe hM1 hm16 hM hf eF hm17
      generalize hLn : L.length = n at *
      clear hLn
      cases ok
      · clear hne
        go_enter Tryz.func7, Tryz.ntmps7
        go_upto_region 1 with fail
        rw [← HW1.out]
        go_upto_region 9 with (first
      | (go_at_call 14; (with_reducible refine (H14.out _ (Below.refl _ _)).mono ?_); rintro e w2 ⟨rfl, hb2⟩)
      | ((with_reducible refine wpList_loadG (o := ⟨some 14, _, _, _, _, _⟩) rfl 29 (.tmp 3) rfl _ ?_ _ (HX29.out _ hb2) ?_); rfl)
      | (go_at_call 29; (with_reducible refine (H29.out _ hb2).mono ?_); rintro e w3 ⟨rfl, hb3⟩)
      | ((with_reducible refine wpList_loadV (op := ⟨some 22, _, _, _, _, _⟩) rfl 24 (.tmp 21) rfl _ ?_ _ (HX24.out _ hb3) ?_); rfl)
      | (go_at_call 11; (with_reducible refine (H11.out _ hb3).mono ?_); rintro e w4 ⟨rfl, hb4⟩; have hol := HOL.out _ hb4)
      | (with_reducible refine wpList_alloc28 (o := ⟨some 6, _, _, _, _, _⟩) w4.heap.size rfl rfl 6 rfl rfl ?_)
      | ((with_reducible refine wpList_store28n (o := ⟨none, _, _, _, _, _⟩) rfl (.tmp 6) (.tmp 24) rfl w4.heap.size rfl zeroI old ?_ ?_ ?_); rfl; rfl)
          | ((with_reducible refine wpList_loadV (op := ⟨some 35, _, _, _, _, _⟩) rfl 29 (.tmp 3) rfl _ ?_ _ (HX29.out _ hol.1) ?_); rfl)
          | (go_at_call 31; (with_reducible refine (H31.out _ hol.1).mono ?_); rintro e w6 ⟨g6, c6, rfl, hg6, hl6, hr6, hc6, hb6⟩)
          | (go_at_call 32; (with_reducible refine (H32.out _ _ _ hl6 hr6).mono ?_); rintro e w8 ⟨rfl, hb68⟩; have hb8 := hb6.trans (hb68.mono hb6.size); have hl8 := Nat.lt_of_lt_of_le hl6 hb68.size; have hr8 := rangeAt_below hr6 (hb68.block _ hl6)))
        have h9 : Below w8.heap.size w8 { w8 with drawn := w8.drawn + 1 } := ⟨rfl, rfl, rfl, Nat.le_refl _, fun _ _ => rfl⟩
        have hb9 := hb8.trans (h9.mono hb8.size)
        have hl9 : g6 < ({ w8 with drawn := w8.drawn + 1 } : World).heap.size := hl8
        have hr9 : ({ w8 with drawn := w8.drawn + 1 } : World).rangeAt g6 0 (flatE encI M) := hr8
        refine wp_region_any (by kernel_rfl) ?_
        generalize ({ w8 with drawn := w8.drawn + 1 } : World) = w9 at *
        clear h9 hb8 hl8 hr8
        have hf1 : f ≤ c6 := by omega
        have hf2 : f + 1 ≤ 17 := by omega
        have hba : Below w9.heap.size w9 (w9.alloc (.cells #[] 29)) := (Below.refl _ w9).alloc (Nat.le_refl _) _
        have G0 : GroR w9 (w9.alloc (.cells #[] 29)) (.slice (some ⟨w9.heap.size, 0, none⟩) 0 0) [] := ⟨hba, ownNone 29 28 (Nat.le_refl _)⟩
        have HS1 := (HSL.out _ g6 (Nat.lt_of_lt_of_le hl9 hba.size) (rangeAt_below hr9 (hba.block _ hl9)) c6 hc6).1
        show wpAny _ _ _ _ 11 _ _ _
        refine any_move 1 43 (.tmp 8) (.slice (some ⟨g6, 0, none⟩) 17 c6) rfl rfl rfl rfl (by kernel_rfl) (by kernel_rfl) (by kernel_rfl) (by kernel_rfl) (fun _ _ _ h => h) ?_
        refine any_move 2 44 (.tmp 9) (.int .i64 (f : Int)) rfl rfl rfl rfl (by kernel_rfl) (by kernel_rfl) (by kernel_rfl) (by kernel_rfl) (fun _ _ _ h => h) ?_
        refine any_move 5 47 (.tmp 8) (.slice (some ⟨g6, 0, none⟩) 17 c6) rfl rfl rfl rfl (by kernel_rfl) (by kernel_rfl) (by kernel_rfl) (by kernel_rfl) (fun _ _ _ h => h) ?_
        refine any_move 6 48 (.tmp 9) (.int .i64 (f : Int)) rfl rfl rfl rfl (by kernel_rfl) (by kernel_rfl) (by kernel_rfl) (by kernel_rfl) (fun _ _ _ h => h) ?_
        simp only [Act.put, List.setIfInBounds_toArray, List.set_cons_zero, List.set_cons_succ]
        refine any_val 3 45 (.slice (headI (some ⟨g6, 0, none⟩) c6) f c6) rfl rfl (fun W => exec_headI (.tmp 43) (.tmp 44) rfl _ 17 c6 f rfl rfl hf1 W) (by kernel_rfl) (by kernel_rfl) (by kernel_rfl) (by kernel_rfl) (fun _ _ _ h => h) ?_
        refine any_add1 7 49 (.tmp 48) f (by omega) rfl rfl rfl rfl rfl (by kernel_rfl) (by kernel_rfl) (by kernel_rfl) (by kernel_rfl) (fun _ _ _ h => h) ?_
        simp only [Act.put, List.setIfInBounds_toArray, List.set_cons_zero, List.set_cons_succ]
        refine any_val 8 50 (.slice (cutI (some ⟨g6, 0, none⟩) c6 (f + 1)) (17 - (f + 1)) (c6 - (f + 1))) rfl rfl (fun W => exec_cutI (.tmp 47) (.tmp 49) rfl _ 17 c6 (f + 1) rfl rfl hf2 W) (by kernel_rfl) (by kernel_rfl) (by kernel_rfl) (by kernel_rfl) (fun _ _ _ h => h) ?_
        simp only [Act.put, List.setIfInBounds_toArray, List.set_cons_zero, List.set_cons_succ]
        refine any_build insT 0 42 rfl rfl (by kernel_rfl) (by kernel_rfl) rfl ?_
        simp only [Act.put, List.setIfInBounds_toArray, List.set_cons_zero, List.set_cons_succ]
        refine any_append insT 4 46 rfl rfl (by kernel_rfl) (by kernel_rfl) (.tmp 42) (.tmp 45) rfl w9.heap.size _ [] (M.take f) rfl G0.own _ rfl HS1 HLE.out.1 G0.be.size ?_
        intro v46 w46 ho46 hg46
        have G1 := G0.push (M.take f) hg46 ho46
        have HS2 := (HSL.out w46 g6 (Nat.lt_of_lt_of_le hl9 G1.be.size) (rangeAt_below hr9 (G1.be.block _ hl9)) c6 hc6).2
        simp only [Act.put, List.setIfInBounds_toArray, List.set_cons_zero, List.set_cons_succ]
        refine any_append insT 9 51 rfl rfl (by kernel_rfl) (by kernel_rfl) (.tmp 46) (.tmp 50) rfl w9.heap.size _ ([] ++ M.take f) (M.drop (f + 1)) rfl G1.own _ rfl HS2 HLE.out.2 G1.be.size ?_
        intro v51 w51 ho51 hg51
        have G2 := (G1.push (M.drop (f + 1)) hg51 ho51).out (w := w1) hb9
        obtain ⟨A51, c51, rfl, hi51, ha51, _⟩ := G2.form
        have hb51 := G2.be
        simp only [Act.put, List.setIfInBounds_toArray, List.set_cons_zero, List.set_cons_succ]
        refine any_assign 10 8 (.tmp 51) (.slice A51 ([] ++ M.take f ++ M.drop (f + 1)).length c51) rfl rfl rfl rfl (by kernel_rfl) (by kernel_rfl) (by kernel_rfl) (by kernel_rfl) (fun _ _ _ h => h) ?_
        simp only [Act.put, List.setIfInBounds_toArray, List.set_cons_zero, List.set_cons_succ]
        refine wpAny_done (by kernel_rfl) ?_ 0
        have H12E := Lib.hid (H12.out _ A51 c51 _ hb51 HEN.out hi51)
        have HEE := Lib.hid (fun W c' => HE.out W A51 c' _ HEF.out)
        clear HSL HS1 HS2 G0 G1 G2 ho46 hg46 ho51 hg51 hba hl9 hr9 hb9 H12 HE H32 H31 H14 H29 H11 H30 HOL hi51
        generalize ([] ++ M.take f ++ M.drop (f + 1)) = E at *
        generalize hEl : E.length = el at *
        clear hEl
        generalize sameR E L = sm at *
        go_wp2_with (first
          | (go_at_call 12; (with_reducible refine H12E.out.mono ?_); rintro e w12 ⟨rfl, hi12, hb12⟩))
        go_ret2
        exact HEE.out _ _ hi12 ha51 hb12
      · have hc : ¬ cmpI x old ≤ 0 := fun h => hne ⟨rfl, h⟩
        clear hne
        generalize cmpI x old = cv at *
        go_enter Tryz.func7, Tryz.ntmps7
        go_upto_region 1 with fail
        rw [← HW1.out]
        go_upto_region 9 with (first
      | (go_at_call 14; (with_reducible refine (H14.out _ (Below.refl _ _)).mono ?_); rintro e w2 ⟨rfl, hb2⟩)
      | ((with_reducible refine wpList_loadG (o := ⟨some 14, _, _, _, _, _⟩) rfl 29 (.tmp 3) rfl _ ?_ _ (HX29.out _ hb2) ?_); rfl)
      | (go_at_call 29; (with_reducible refine (H29.out _ hb2).mono ?_); rintro e w3 ⟨rfl, hb3⟩)
      | ((with_reducible refine wpList_loadV (op := ⟨some 22, _, _, _, _, _⟩) rfl 24 (.tmp 21) rfl _ ?_ _ (HX24.out _ hb3) ?_); rfl)
      | (go_at_call 11; (with_reducible refine (H11.out _ hb3).mono ?_); rintro e w4 ⟨rfl, hb4⟩; have hol := HOL.out _ hb4)
      | (with_reducible refine wpList_alloc28 (o := ⟨some 6, _, _, _, _, _⟩) w4.heap.size rfl rfl 6 rfl rfl ?_)
      | ((with_reducible refine wpList_store28n (o := ⟨none, _, _, _, _, _⟩) rfl (.tmp 6) (.tmp 24) rfl w4.heap.size rfl zeroI old ?_ ?_ ?_); rfl; rfl)
      | ((with_reducible refine wpList_loadG (o := ⟨some 28, _, _, _, _, _⟩) rfl 29 (.tmp 3) rfl _ ?_ _ (HX29.out _ hol.1) ?_); rfl)
      | ((with_reducible refine wpList_loadG (o := ⟨some 29, _, _, _, _, _⟩) rfl 29 (.tmp 6) rfl _ ?_ _ hol.2 ?_); rfl)
      | (go_at_call 30; (with_reducible refine (H30.out _ hol.1).mono ?_); rintro e w5 ⟨rfl, hb5⟩)
          | ((with_reducible refine wpList_loadV (op := ⟨some 35, _, _, _, _, _⟩) rfl 29 (.tmp 3) rfl _ ?_ _ (HX29.out _ hb5) ?_); rfl)
          | (go_at_call 31; (with_reducible refine (H31.out _ hb5).mono ?_); rintro e w6 ⟨g6, c6, rfl, hg6, hl6, hr6, hc6, hb6⟩)
          | (go_at_call 32; (with_reducible refine (H32.out _ _ _ hl6 hr6).mono ?_); rintro e w8 ⟨rfl, hb68⟩; have hb8 := hb6.trans (hb68.mono hb6.size); have hl8 := Nat.lt_of_lt_of_le hl6 hb68.size; have hr8 := rangeAt_below hr6 (hb68.block _ hl6)))
        have h9 : Below w8.heap.size w8 { w8 with drawn := w8.drawn + 1 } := ⟨rfl, rfl, rfl, Nat.le_refl _, fun _ _ => rfl⟩
        have hb9 := hb8.trans (h9.mono hb8.size)
        have hl9 : g6 < ({ w8 with drawn := w8.drawn + 1 } : World).heap.size := hl8
        have hr9 : ({ w8 with drawn := w8.drawn + 1 } : World).rangeAt g6 0 (flatE encI M) := hr8
        refine wp_region_any (by kernel_rfl) ?_
        generalize ({ w8 with drawn := w8.drawn + 1 } : World) = w9 at *
        clear h9 hb8 hl8 hr8
        have hf1 : f ≤ c6 := by omega
        have hf2 : f + 1 ≤ 17 := by omega
        have hba : Below w9.heap.size w9 (w9.alloc (.cells #[] 29)) := (Below.refl _ w9).alloc (Nat.le_refl _) _
        have G0 : GroR w9 (w9.alloc (.cells #[] 29)) (.slice (some ⟨w9.heap.size, 0, none⟩) 0 0) [] := ⟨hba, ownNone 29 28 (Nat.le_refl _)⟩
        have HS1 := (HSL.out _ g6 (Nat.lt_of_lt_of_le hl9 hba.size) (rangeAt_below hr9 (hba.block _ hl9)) c6 hc6).1
        show wpAny _ _ _ _ 11 _ _ _
        refine any_move 1 43 (.tmp 8) (.slice (some ⟨g6, 0, none⟩) 17 c6) rfl rfl rfl rfl (by kernel_rfl) (by kernel_rfl) (by kernel_rfl) (by kernel_rfl) (fun _ _ _ h => h) ?_
        refine any_move 2 44 (.tmp 9) (.int .i64 (f : Int)) rfl rfl rfl rfl (by kernel_rfl) (by kernel_rfl) (by kernel_rfl) (by kernel_rfl) (fun _ _ _ h => h) ?_
        refine any_move 5 47 (.tmp 8) (.slice (some ⟨g6, 0, none⟩) 17 c6) rfl rfl rfl rfl (by kernel_rfl) (by kernel_rfl) (by kernel_rfl) (by kernel_rfl) (fun _ _ _ h => h) ?_
        refine any_move 6 48 (.tmp 9) (.int .i64 (f : Int)) rfl rfl rfl rfl (by kernel_rfl) (by kernel_rfl) (by kernel_rfl) (by kernel_rfl) (fun _ _ _ h => h) ?_
        simp only [Act.put, List.setIfInBounds_toArray, List.set_cons_zero, List.set_cons_succ]
        refine any_val 3 45 (.slice (headI (some ⟨g6, 0, none⟩) c6) f c6) rfl rfl (fun W => exec_headI (.tmp 43) (.tmp 44) rfl _ 17 c6 f rfl rfl hf1 W) (by kernel_rfl) (by kernel_rfl) (by kernel_rfl) (by kernel_rfl) (fun _ _ _ h => h) ?_
        refine any_add1 7 49 (.tmp 48) f (by omega) rfl rfl rfl rfl rfl (by kernel_rfl) (by kernel_rfl) (by kernel_rfl) (by kernel_rfl) (fun _ _ _ h => h) ?_
        simp only [Act.put, List.setIfInBounds_toArray, List.set_cons_zero, List.set_cons_succ]
        refine any_val 8 50 (.slice (cutI (some ⟨g6, 0, none⟩) c6 (f + 1)) (17 - (f + 1)) (c6 - (f + 1))) rfl rfl (fun W => exec_cutI (.tmp 47) (.tmp 49) rfl _ 17 c6 (f + 1) rfl rfl hf2 W) (by kernel_rfl) (by kernel_rfl) (by kernel_rfl) (by kernel_rfl) (fun _ _ _ h => h) ?_
        simp only [Act.put, List.setIfInBounds_toArray, List.set_cons_zero, List.set_cons_succ]
        refine any_build insT 0 42 rfl rfl (by kernel_rfl) (by kernel_rfl) rfl ?_
        simp only [Act.put, List.setIfInBounds_toArray, List.set_cons_zero, List.set_cons_succ]
        refine any_append insT 4 46 rfl rfl (by kernel_rfl) (by kernel_rfl) (.tmp 42) (.tmp 45) rfl w9.heap.size _ [] (M.take f) rfl G0.own _ rfl HS1 HLE.out.1 G0.be.size ?_
        intro v46 w46 ho46 hg46
        have G1 := G0.push (M.take f) hg46 ho46
        have HS2 := (HSL.out w46 g6 (Nat.lt_of_lt_of_le hl9 G1.be.size) (rangeAt_below hr9 (G1.be.block _ hl9)) c6 hc6).2
        simp only [Act.put, List.setIfInBounds_toArray, List.set_cons_zero, List.set_cons_succ]
        refine any_append insT 9 51 rfl rfl (by kernel_rfl) (by kernel_rfl) (.tmp 46) (.tmp 50) rfl w9.heap.size _ ([] ++ M.take f) (M.drop (f + 1)) rfl G1.own _ rfl HS2 HLE.out.2 G1.be.size ?_
        intro v51 w51 ho51 hg51
        have G2 := (G1.push (M.drop (f + 1)) hg51 ho51).out (w := w1) hb9
        obtain ⟨A51, c51, rfl, hi51, ha51, _⟩ := G2.form
        have hb51 := G2.be
        simp only [Act.put, List.setIfInBounds_toArray, List.set_cons_zero, List.set_cons_succ]
        refine any_assign 10 8 (.tmp 51) (.slice A51 ([] ++ M.take f ++ M.drop (f + 1)).length c51) rfl rfl rfl rfl (by kernel_rfl) (by kernel_rfl) (by kernel_rfl) (by kernel_rfl) (fun _ _ _ h => h) ?_
        simp only [Act.put, List.setIfInBounds_toArray, List.set_cons_zero, List.set_cons_succ]
        refine wpAny_done (by kernel_rfl) ?_ 0
        have H12E := Lib.hid (H12.out _ A51 c51 _ hb51 HEN.out hi51)
        have HEE := Lib.hid (fun W c' => HE.out W A51 c' _ HEF.out)
        clear HSL HS1 HS2 G0 G1 G2 ho46 hg46 ho51 hg51 hba hl9 hr9 hb9 H12 HE H32 H31 H14 H29 H11 H30 HOL hi51
        generalize ([] ++ M.take f ++ M.drop (f + 1)) = E at *
        generalize hEl : E.length = el at *
        clear hEl
        generalize sameR E L = sm at *
        go_wp2_with (first
          | (go_at_call 12; (with_reducible refine H12E.out.mono ?_); rintro e w12 ⟨rfl, hi12, hb12⟩))
        go_ret2
        exact HEE.out _ _ hi12 ha51 hb12
theorem rput_any (A : Option Addr) (c : Nat) (L : List Ins) (x : Ins) (w : World) (hl : L.length ≤ 10000) (ht : ∀ y ∈ L, y.tgt.length ≤ 100000) (hx : x.tgt.length ≤ 100000) (hA : IAt w w.heap.size A L) (hA2 : A = none ∨ ∃ g off, A = some ⟨g, off, none⟩) : Calls Tryz.prog 7 #[.slice A L.length c, .agg (encI x).toArray] w (RPut w L x) := by
  by_cases hg : goodR L = true ∧ goodI x = true
  · exact rput_good A c L x w hl ht hx hA hA2 hg.1 hg.2
  · exact rput_bad A c L x w hl ht hx hA hA2 hg
end Go.Proofs.YtkceipkgebgigaaGreat
