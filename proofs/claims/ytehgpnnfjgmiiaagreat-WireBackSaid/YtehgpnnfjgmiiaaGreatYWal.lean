/- Same of the reference. Conditions: at most 10,000 contacts and instances. Encode of the reference. Conditions: at most 10,000 contacts and instances, targets of at most 100,000 bytes. Encode of the reference, whole. Conditions: at most 10,000 contacts and instances, targets of at most 100,000 bytes. The walk of WireEncodes. Conditions: what Light says. What Decode reads has the bytes it was read from, and a good message is read from its bytes: plain. No condition. The walk of WireDecodes. Conditions: the bytes lie where the slice says. -/
import Derived.Test.YtehgpnnfjgmiiaaGreatYWah
import Derived.Test.YtehgpnnfjgmiiaaGreatYIia
import Derived.Test.YtehgpnnfjgmiiaaGreatYNCwb
import Derived.Test.YtehgpnnfjgmiiaaGreatYWau
import Derived.Test.YtehgpnnfjgmiiaaGreatYOja
import Derived.Test.YtehgpnnfjgmiiaaGreatYRIis
section
namespace Go.Proofs.YtehgpnnfjgmiiaaGreat
open Go.Shelf Go.RowKit Go.Lib Go.Great
set_option maxRecDepth 100000
set_option maxHeartbeats 1000000
section
variable {w : World} {X Y : Array Value} {k k' : Int} {t t' : Nat} {F F' D D' : Array Value} {bf bd : Bool} {A A' B B' : Option Addr} {n n' c c' r r' d d' : Nat} {C S : Bool} {E : World → Prop}
theorem rsam1 (hk : ¬ k = k') (K : SamK w X Y k k' t t' F F' D D' bf bd A A' B B' n n' c c' r r' d d' C S E) : Calls Tryz.prog 18 #[.agg X, .agg Y] w fun e w' => e = .returned (.bool false) ∧ Below w.heap.size w w' := by
  have bk := bneT hk
  have HB := Lib.hid K.be
  have ST := Lib.hid K.st
  have q0 := (K.k1 _ K.st).1
  have q1 := (K.k1 _ K.st).2
  have q2 := (K.t1 _ K.st).1
  have q3 := (K.t1 _ K.st).2
  have q4 := (K.c1 _ K.st).1
  have q5 := (K.c1 _ K.st).2
  have HF1 := Lib.hid (K.f1 _ K.st)
  have HF2 := Lib.hid (K.f2 _ K.st)
  have HD1 := Lib.hid (K.d1 _ K.st)
  have HD2 := Lib.hid (K.d2 _ K.st)
  have HR := Lib.hid K.r1
  have H38 := Lib.hid K.c38
  have HCC := Lib.hid K.c1
  have ef := K.ef
  have ed := K.ed
  clear K
  go_enter Tryz.func18, Tryz.ntmps18
  go_wp2_with (first
    | ((with_reducible refine wpList_loadG (o := ⟨some 20, _, _, _, _, _⟩) rfl 24 (.tmp 19) rfl _ ?_ _ HF1.out ?_); rfl)
    | ((with_reducible refine wpList_loadG (o := ⟨some 22, _, _, _, _, _⟩) rfl 24 (.tmp 21) rfl _ ?_ _ HF2.out ?_); rfl)
    | ((with_reducible refine wpList_loadG (o := ⟨some 27, _, _, _, _, _⟩) rfl 24 (.tmp 26) rfl _ ?_ _ HD1.out ?_); rfl)
    | ((with_reducible refine wpList_loadG (o := ⟨some 29, _, _, _, _, _⟩) rfl 24 (.tmp 28) rfl _ ?_ _ HD2.out ?_); rfl))
  go_ret
  exact ⟨rfl, HB.out _ ST.out⟩
theorem rsam2 (ht : ¬ t = t') (K : SamK w X Y k k t t' F F' D D' bf bd A A' B B' n n' c c' r r' d d' C S E) : Calls Tryz.prog 18 #[.agg X, .agg Y] w fun e w' => e = .returned (.bool false) ∧ Below w.heap.size w w' := by
  have bt := bneT (show ¬ (t : Int) = (t' : Int) by omega)
  have HB := Lib.hid K.be
  have ST := Lib.hid K.st
  have q0 := (K.k1 _ K.st).1
  have q1 := (K.k1 _ K.st).2
  have q2 := (K.t1 _ K.st).1
  have q3 := (K.t1 _ K.st).2
  have q4 := (K.c1 _ K.st).1
  have q5 := (K.c1 _ K.st).2
  have HF1 := Lib.hid (K.f1 _ K.st)
  have HF2 := Lib.hid (K.f2 _ K.st)
  have HD1 := Lib.hid (K.d1 _ K.st)
  have HD2 := Lib.hid (K.d2 _ K.st)
  have HR := Lib.hid K.r1
  have H38 := Lib.hid K.c38
  have HCC := Lib.hid K.c1
  have ef := K.ef
  have ed := K.ed
  clear K
  go_enter Tryz.func18, Tryz.ntmps18
  go_wp2_with (first
    | ((with_reducible refine wpList_loadG (o := ⟨some 20, _, _, _, _, _⟩) rfl 24 (.tmp 19) rfl _ ?_ _ HF1.out ?_); rfl)
    | ((with_reducible refine wpList_loadG (o := ⟨some 22, _, _, _, _, _⟩) rfl 24 (.tmp 21) rfl _ ?_ _ HF2.out ?_); rfl)
    | ((with_reducible refine wpList_loadG (o := ⟨some 27, _, _, _, _, _⟩) rfl 24 (.tmp 26) rfl _ ?_ _ HD1.out ?_); rfl)
    | ((with_reducible refine wpList_loadG (o := ⟨some 29, _, _, _, _, _⟩) rfl 24 (.tmp 28) rfl _ ?_ _ HD2.out ?_); rfl))
  go_ret
  exact ⟨rfl, HB.out _ ST.out⟩
theorem rsam3 (K : SamK w X Y k k t t F F' D D' false bd A A' B B' n n' c c' r r' d d' C S E) : Calls Tryz.prog 18 #[.agg X, .agg Y] w fun e w' => e = .returned (.bool false) ∧ Below w.heap.size w w' := by
  have HB := Lib.hid K.be
  have ST := Lib.hid K.st
  have q0 := (K.k1 _ K.st).1
  have q1 := (K.k1 _ K.st).2
  have q2 := (K.t1 _ K.st).1
  have q3 := (K.t1 _ K.st).2
  have q4 := (K.c1 _ K.st).1
  have q5 := (K.c1 _ K.st).2
  have HF1 := Lib.hid (K.f1 _ K.st)
  have HF2 := Lib.hid (K.f2 _ K.st)
  have HD1 := Lib.hid (K.d1 _ K.st)
  have HD2 := Lib.hid (K.d2 _ K.st)
  have HR := Lib.hid K.r1
  have H38 := Lib.hid K.c38
  have HCC := Lib.hid K.c1
  have ef := K.ef
  have ed := K.ed
  clear K
  go_enter Tryz.func18, Tryz.ntmps18
  go_wp2_with (first
    | ((with_reducible refine wpList_loadG (o := ⟨some 20, _, _, _, _, _⟩) rfl 24 (.tmp 19) rfl _ ?_ _ HF1.out ?_); rfl)
    | ((with_reducible refine wpList_loadG (o := ⟨some 22, _, _, _, _, _⟩) rfl 24 (.tmp 21) rfl _ ?_ _ HF2.out ?_); rfl)
    | ((with_reducible refine wpList_loadG (o := ⟨some 27, _, _, _, _, _⟩) rfl 24 (.tmp 26) rfl _ ?_ _ HD1.out ?_); rfl)
    | ((with_reducible refine wpList_loadG (o := ⟨some 29, _, _, _, _, _⟩) rfl 24 (.tmp 28) rfl _ ?_ _ HD2.out ?_); rfl))
  go_ret
  exact ⟨rfl, HB.out _ ST.out⟩
theorem rsam4 (K : SamK w X Y k k t t F F' D D' true false A A' B B' n n' c c' r r' d d' C S E) : Calls Tryz.prog 18 #[.agg X, .agg Y] w fun e w' => e = .returned (.bool false) ∧ Below w.heap.size w w' := by
  have HB := Lib.hid K.be
  have ST := Lib.hid K.st
  have q0 := (K.k1 _ K.st).1
  have q1 := (K.k1 _ K.st).2
  have q2 := (K.t1 _ K.st).1
  have q3 := (K.t1 _ K.st).2
  have q4 := (K.c1 _ K.st).1
  have q5 := (K.c1 _ K.st).2
  have HF1 := Lib.hid (K.f1 _ K.st)
  have HF2 := Lib.hid (K.f2 _ K.st)
  have HD1 := Lib.hid (K.d1 _ K.st)
  have HD2 := Lib.hid (K.d2 _ K.st)
  have HR := Lib.hid K.r1
  have H38 := Lib.hid K.c38
  have HCC := Lib.hid K.c1
  have ef := K.ef
  have ed := K.ed
  clear K
  go_enter Tryz.func18, Tryz.ntmps18
  go_wp2_with (first
    | ((with_reducible refine wpList_loadG (o := ⟨some 20, _, _, _, _, _⟩) rfl 24 (.tmp 19) rfl _ ?_ _ HF1.out ?_); rfl)
    | ((with_reducible refine wpList_loadG (o := ⟨some 22, _, _, _, _, _⟩) rfl 24 (.tmp 21) rfl _ ?_ _ HF2.out ?_); rfl)
    | ((with_reducible refine wpList_loadG (o := ⟨some 27, _, _, _, _, _⟩) rfl 24 (.tmp 26) rfl _ ?_ _ HD1.out ?_); rfl)
    | ((with_reducible refine wpList_loadG (o := ⟨some 29, _, _, _, _, _⟩) rfl 24 (.tmp 28) rfl _ ?_ _ HD2.out ?_); rfl))
  go_ret
  exact ⟨rfl, HB.out _ ST.out⟩
theorem rsam5 (hn : ¬ n = n') (K : SamK w X Y k k t t F F' D D' true true A A' B B' n n' c c' r r' d d' C S E) : Calls Tryz.prog 18 #[.agg X, .agg Y] w fun e w' => e = .returned (.bool false) ∧ Below w.heap.size w w' := by
  have bn := bneT (show ¬ (n : Int) = (n' : Int) by omega)
  have HB := Lib.hid K.be
  have ST := Lib.hid K.st
  have q0 := (K.k1 _ K.st).1
  have q1 := (K.k1 _ K.st).2
  have q2 := (K.t1 _ K.st).1
  have q3 := (K.t1 _ K.st).2
  have q4 := (K.c1 _ K.st).1
  have q5 := (K.c1 _ K.st).2
  have HF1 := Lib.hid (K.f1 _ K.st)
  have HF2 := Lib.hid (K.f2 _ K.st)
  have HD1 := Lib.hid (K.d1 _ K.st)
  have HD2 := Lib.hid (K.d2 _ K.st)
  have HR := Lib.hid K.r1
  have H38 := Lib.hid K.c38
  have HCC := Lib.hid K.c1
  have ef := K.ef
  have ed := K.ed
  clear K
  go_enter Tryz.func18, Tryz.ntmps18
  go_wp2_with (first
    | ((with_reducible refine wpList_loadG (o := ⟨some 20, _, _, _, _, _⟩) rfl 24 (.tmp 19) rfl _ ?_ _ HF1.out ?_); rfl)
    | ((with_reducible refine wpList_loadG (o := ⟨some 22, _, _, _, _, _⟩) rfl 24 (.tmp 21) rfl _ ?_ _ HF2.out ?_); rfl)
    | ((with_reducible refine wpList_loadG (o := ⟨some 27, _, _, _, _, _⟩) rfl 24 (.tmp 26) rfl _ ?_ _ HD1.out ?_); rfl)
    | ((with_reducible refine wpList_loadG (o := ⟨some 29, _, _, _, _, _⟩) rfl 24 (.tmp 28) rfl _ ?_ _ HD2.out ?_); rfl))
  go_ret
  exact ⟨rfl, HB.out _ ST.out⟩
theorem rsam0 (K : SamK w X Y k k t t F F' D D' true true A A' B B' 0 0 c c' r r' d d' C S E) : Calls Tryz.prog 18 #[.agg X, .agg Y] w fun e w' => e = .returned (.bool S) ∧ Below w.heap.size w w' := by
  have HB := Lib.hid K.be
  have ST := Lib.hid K.st
  have q0 := (K.k1 _ K.st).1
  have q1 := (K.k1 _ K.st).2
  have q2 := (K.t1 _ K.st).1
  have q3 := (K.t1 _ K.st).2
  have q4 := (K.c1 _ K.st).1
  have q5 := (K.c1 _ K.st).2
  have HF1 := Lib.hid (K.f1 _ K.st)
  have HF2 := Lib.hid (K.f2 _ K.st)
  have HD1 := Lib.hid (K.d1 _ K.st)
  have HD2 := Lib.hid (K.d2 _ K.st)
  have HR := Lib.hid K.r1
  have H38 := Lib.hid K.c38
  have HCC := Lib.hid K.c1
  have ef := K.ef
  have ed := K.ed
  clear K
  go_enter Tryz.func18, Tryz.ntmps18
  go_wp2_with (first
    | ((with_reducible refine wpList_loadG (o := ⟨some 20, _, _, _, _, _⟩) rfl 24 (.tmp 19) rfl _ ?_ _ HF1.out ?_); rfl)
    | ((with_reducible refine wpList_loadG (o := ⟨some 22, _, _, _, _, _⟩) rfl 24 (.tmp 21) rfl _ ?_ _ HF2.out ?_); rfl)
    | ((with_reducible refine wpList_loadG (o := ⟨some 27, _, _, _, _, _⟩) rfl 24 (.tmp 26) rfl _ ?_ _ HD1.out ?_); rfl)
    | ((with_reducible refine wpList_loadG (o := ⟨some 29, _, _, _, _, _⟩) rfl 24 (.tmp 28) rfl _ ?_ _ HD2.out ?_); rfl))
  go_loopg [5] 0 (fun _ s wr => s = .int .i64 0 ∧ E wr)
  case atStart => exact ⟨rfl, ST.out⟩
  case round =>
    obtain ⟨rfl, e1⟩ := hrel
    obtain ⟨p4, p5⟩ := HCC.out _ e1
    obtain ⟨p6, p7⟩ := HR.out _ e1
    go_wp2_with (go_at_call 38; (with_reducible refine (H38.out _ e1).mono ?_); rintro e w2 ⟨rfl, e2⟩)
    go_ret
    exact ⟨rfl, HB.out _ e2⟩
theorem rsam6 (L L' : List Con) (g1 o1 g2 o2 : Nat) (hL : L.length = n) (hL' : L'.length = n) (hn : n ≤ 10000) (hg1 : g1 < w.heap.size) (hr1 : w.rangeAt g1 o1 (flatE encC L)) (hg2 : g2 < w.heap.size) (hr2 : w.rangeAt g2 o2 (flatE encC L'))
    (hE : E = fun W => Below (w.heap.size + 2) ((w.alloc (.cells X 28)).alloc (.cells Y 28)) W)
    (K : SamK w X Y k k t t F F' D D' true true (some ⟨g1, o1, none⟩) (some ⟨g2, o2, none⟩) B B' n n c c' r r' d d' C S E) : Calls Tryz.prog 18 #[.agg X, .agg Y] w fun e w' => e = .returned (.bool (sameC L L' && S)) ∧ Below w.heap.size w w' := by
  have HL1 : Hid (∀ j, j < n → ∀ W, Below w.heap.size w W → (loadVar 63 ⟨g1, o1 + j * 22, none⟩).run Tryz.prog W = .ok (.agg (encC L[j]!).toArray) W) := Lib.hid (fun j hj W hW => rowC_load hr1 hg1 hW (by omega))
  have HL2 : Hid (∀ j, j < n → ∀ W, Below w.heap.size w W → (loadVar 63 ⟨g2, o2 + j * 22, none⟩).run Tryz.prog W = .ok (.agg (encC L'[j]!).toArray) W) := Lib.hid (fun j hj W hW => rowC_load hr2 hg2 hW (by omega))
  have HT : Hid ((∀ j, j < n → eqC L[j]! L'[j]! = true) → sameC L L' = true) := Lib.hid (fun h => by
    unfold sameC
    rw [Bool.and_eq_true, decide_eq_true_eq, List.all_eq_true]
    exact ⟨by omega, fun j hj => h j (by rw [List.mem_range] at hj; omega)⟩)
  have HF : Hid (∀ j, j < n → eqC L[j]! L'[j]! = false → sameC L L' = false) := Lib.hid (fun j hj h => by
    cases hs : sameC L L' with
    | false => rfl
    | true => rw [(sameC_iff L L').1 hs, eqCc_self] at h; cases h)
  generalize sameC L L' = rr at *
  have HEK : Hid (∀ q : Kept (w.heap.size + 2) ((w.alloc (.cells X 28)).alloc (.cells Y 28)), E q.val) := Lib.hid (fun q => by rw [hE]; exact q.property)
  have HKE : Hid (∀ W, E W → Below (w.heap.size + 2) ((w.alloc (.cells X 28)).alloc (.cells Y 28)) W) := Lib.hid (fun W h => by rw [hE] at h; exact h)
  clear hr1 hr2 hE hg1 hg2
  have HB := Lib.hid K.be
  have ST := Lib.hid K.st
  have q0 := (K.k1 _ K.st).1
  have q1 := (K.k1 _ K.st).2
  have q2 := (K.t1 _ K.st).1
  have q3 := (K.t1 _ K.st).2
  have q4 := (K.c1 _ K.st).1
  have q5 := (K.c1 _ K.st).2
  have HF1 := Lib.hid (K.f1 _ K.st)
  have HF2 := Lib.hid (K.f2 _ K.st)
  have HD1 := Lib.hid (K.d1 _ K.st)
  have HD2 := Lib.hid (K.d2 _ K.st)
  have HR := Lib.hid K.r1
  have H38 := Lib.hid K.c38
  have HCC := Lib.hid K.c1
  have ef := K.ef
  have ed := K.ed
  clear K
  go_enter Tryz.func18, Tryz.ntmps18
  go_wp2_with (first
    | ((with_reducible refine wpList_loadG (o := ⟨some 20, _, _, _, _, _⟩) rfl 24 (.tmp 19) rfl _ ?_ _ HF1.out ?_); rfl)
    | ((with_reducible refine wpList_loadG (o := ⟨some 22, _, _, _, _, _⟩) rfl 24 (.tmp 21) rfl _ ?_ _ HF2.out ?_); rfl)
    | ((with_reducible refine wpList_loadG (o := ⟨some 27, _, _, _, _, _⟩) rfl 24 (.tmp 26) rfl _ ?_ _ HD1.out ?_); rfl)
    | ((with_reducible refine wpList_loadG (o := ⟨some 29, _, _, _, _, _⟩) rfl 24 (.tmp 28) rfl _ ?_ _ HD2.out ?_); rfl))
  go_loopw [5] (fun i wr => ∃ j : Nat, i = .int .i64 (j : Int) ∧ j ≤ n ∧ (∀ z, z < j → eqC L[z]! L'[z]! = true) ∧ E wr) (fun i _ => n - (RowKit.intOf i).toNat)
  case atStart => exact ⟨0, rfl, by omega, fun z hz => by omega, ST.out⟩
  case round =>
    obtain ⟨j, rfl, hj, hF, ew⟩ := hrel
    have HD := Lib.hid hF
    obtain ⟨p4, p5⟩ := HCC.out _ ew
    clear hF q0 q1 q2 q3 q4 q5 HF1 HF2 HD1 HD2 ef ed
    by_cases hlt : j < n
    · have hlt' : (j : Int) < (n : Int) := by omega
      have EW := Lib.hid ew
      have HQ1 : Hid (∀ q : Kept (w.heap.size + 2) ((w.alloc (.cells X 28)).alloc (.cells Y 28)), (loadVar 63 ⟨g1, o1 + j * 22, none⟩).run Tryz.prog q.val = .ok (.agg (encC L[j]!).toArray) q.val) := Lib.hid (fun q => HL1.out j hlt _ (HB.out _ (HEK.out q)))
      have HQ2 : Hid (∀ q : Kept (w.heap.size + 2) ((w.alloc (.cells X 28)).alloc (.cells Y 28)), (loadVar 63 ⟨g2, o2 + j * 22, none⟩).run Tryz.prog q.val = .ok (.agg (encC L'[j]!).toArray) q.val) := Lib.hid (fun q => HL2.out j hlt _ (HB.out _ (HEK.out q)))
      have HC1 : Hid (∀ q : Kept (w.heap.size + 2) ((w.alloc (.cells X 28)).alloc (.cells Y 28)), q.val.cell? ⟨w.heap.size, 42, none⟩ = some (.slice (some ⟨g1, o1, none⟩) n c)) := Lib.hid (fun q => (HCC.out _ (HEK.out q)).1)
      have HC2 : Hid (∀ q : Kept (w.heap.size + 2) ((w.alloc (.cells X 28)).alloc (.cells Y 28)), q.val.cell? ⟨w.heap.size + 1, 42, none⟩ = some (.slice (some ⟨g2, o2, none⟩) n c')) := Lib.hid (fun q => (HCC.out _ (HEK.out q)).2)
      have he := fun W => eqCon60 L[j]! L'[j]! W
      have HNX : Hid (eqC L[j]! L'[j]! = true → ∀ wx, E wx → ∃ z' : Nat, Value.int .i64 ((j : Int) + 1) = .int .i64 (z' : Int) ∧ z' ≤ n ∧ (∀ z, z < z' → eqC L[z]! L'[z]! = true) ∧ E wx) := Lib.hid (fun h wx hx => ⟨j + 1, by simp, by omega, fun z hz => by
        by_cases e : z = j
        · subst e; exact h
        · exact HD.out z (by omega), hx⟩)
      have HRF := Lib.hid (HF.out j hlt)
      have HEB := Lib.hid (HKE.out _ ew)
      clear HT HF HD HL1 HL2 ew
      cases hq : eqC L[j]! L'[j]! with
      | false =>
        rw [hq] at he
        have HRR : Hid (rr = false) := Lib.hid (HRF.out hq)
        clear HRF HNX hq
        generalize (encC L[j]!).toArray = X1 at *
        generalize (encC L'[j]!).toArray = Y1 at *
        go_upto_region 6 with fail
        refine wp_region_kept (w.heap.size + 2) ((w.alloc (.cells X 28)).alloc (.cells Y 28)) HEB.out (by kernel_rfl) (by kernel_rfl) ?_
        have hc1 := HC1.out
        have hc2 := HC2.out
        repeat (first
          | (go_big_quiet_want; (with_reducible refine quiet_loadV 63 (.tmp 51) rfl _ ?_ _ HQ1.out ?_); rfl; simp only [Act.put, List.setIfInBounds_toArray, List.set_cons_zero, List.set_cons_succ]; go_big_quiet_on)
          | (go_big_quiet_want; (with_reducible refine quiet_loadV 63 (.tmp 56) rfl _ ?_ _ HQ2.out ?_); rfl; simp only [Act.put, List.setIfInBounds_toArray, List.set_cons_zero, List.set_cons_succ]; go_big_quiet_on)
          | go_big_quiet_step (fail))
        refine wpQuiet_nil ?_
        rintro wk ⟨⟨_, hwk⟩, rfl⟩
        have HBW := Lib.hid (HB.out _ (HEK.out ⟨_, hwk⟩))
        go_wp2
        go_ret
        exact ⟨by rw [HRR.out]; rfl, HBW.out⟩
      | true =>
        rw [hq] at he
        have HNY := Lib.hid (HNX.out hq)
        clear HRF HNX hq
        generalize (encC L[j]!).toArray = X1 at *
        generalize (encC L'[j]!).toArray = Y1 at *
        go_upto_region 6 with fail
        refine wp_region_kept (w.heap.size + 2) ((w.alloc (.cells X 28)).alloc (.cells Y 28)) HEB.out (by kernel_rfl) (by kernel_rfl) ?_
        have hc1 := HC1.out
        have hc2 := HC2.out
        repeat (first
          | (go_big_quiet_want; (with_reducible refine quiet_loadV 63 (.tmp 51) rfl _ ?_ _ HQ1.out ?_); rfl; simp only [Act.put, List.setIfInBounds_toArray, List.set_cons_zero, List.set_cons_succ]; go_big_quiet_on)
          | (go_big_quiet_want; (with_reducible refine quiet_loadV 63 (.tmp 56) rfl _ ?_ _ HQ2.out ?_); rfl; simp only [Act.put, List.setIfInBounds_toArray, List.set_cons_zero, List.set_cons_succ]; go_big_quiet_on)
          | go_big_quiet_step (fail))
        refine wpQuiet_nil ?_
        rintro wk ⟨⟨_, hwk⟩, rfl⟩
        have HBW := Lib.hid (HNY.out _ (HEK.out ⟨_, hwk⟩))
        go_wp2
        go_roundw
        case rel => exact HBW.out
        case measure => simp [RowKit.intOf]; omega
    · have hlt' : ¬ (j : Int) < (n : Int) := by omega
      have HRT : Hid (rr = true) := Lib.hid (HT.out (fun z hz => HD.out z (by omega)))
      obtain ⟨p6, p7⟩ := HR.out _ ew
      clear HT HF HD HL1 HL2
      go_wp2_with (go_at_call 38; (with_reducible refine (H38.out _ ew).mono ?_); rintro e w2 ⟨rfl, e2⟩)
      go_ret
      exact ⟨by rw [HRT.out]; rfl, HB.out _ e2⟩
end
theorem mrsame_any (m n : Msg) (L L' : List Con) (R R' : List Ins) (w : World) (hc : ConV w m.vc L) (hr : InsV w m.vr R) (hc' : ConV w n.vc L') (hr' : InsV w n.vr R') (hL : L.length ≤ 10000) (hR : R.length ≤ 10000) : Calls Tryz.prog 18 #[.agg (encM m).toArray, .agg (encM n).toArray] w fun e w' => e = .returned (.bool (sameM m n L L' R R')) ∧ Below w.heap.size w w' := by
  obtain ⟨A, A', B, B', c, c', d, d', _, _, hA, hA', K⟩ := samK m n L L' R R' w hc hr hc' hr' hL hR
  unfold sameM
  by_cases hk : m.kind = n.kind
  · rw [show (m.kind == n.kind) = true by simpa using hk, Bool.true_and]
    rw [← hk] at K
    by_cases ht : m.txn = n.txn
    · rw [show (m.txn == n.txn) = true by simpa using ht, Bool.true_and]
      rw [← ht] at K
      cases hf : (m.frm == n.frm) with
      | false => rw [hf] at K; rw [Bool.false_and]; exact rsam3 K
      | true =>
        rw [hf] at K
        cases hd : (m.key == n.key) with
        | false => rw [hd] at K; rw [Bool.false_and, Bool.and_false]; exact rsam4 K
        | true =>
          rw [hd] at K
          rw [Bool.true_and, Bool.true_and]
          by_cases hn : L.length = L'.length
          · rcases hA with h0 | ⟨g1, o1, rfl, hg1, hr1⟩
            · have h1 : L' = [] := List.eq_nil_of_length_eq_zero (by rw [← hn, h0]; rfl)
              subst h0 h1
              rw [show sameC [] [] = true from (sameC_iff [] []).2 rfl, Bool.true_and]
              exact rsam0 K
            · rcases hA' with h1 | ⟨g2, o2, rfl, hg2, hr2⟩
              · have h0 : L = [] := List.eq_nil_of_length_eq_zero (by rw [hn, h1]; rfl)
                subst h0 h1
                rw [show sameC [] [] = true from (sameC_iff [] []).2 rfl, Bool.true_and]
                exact rsam0 K
              · rw [← hn] at K
                exact rsam6 L L' g1 o1 g2 o2 rfl hn.symm hL hg1 hr1 hg2 hr2 rfl K
          · rw [show sameC L L' = false by unfold sameC; rw [decide_eq_false hn, Bool.false_and], Bool.false_and]
            exact rsam5 hn K
    · rw [show (m.txn == n.txn) = false by simpa using ht, Bool.false_and]
      exact rsam2 ht K
  · rw [show (m.kind == n.kind) = false by simpa using hk, Bool.false_and]
    exact rsam1 hk K
end Go.Proofs.YtehgpnnfjgmiiaaGreat
end
section
namespace Go.Proofs.YtehgpnnfjgmiiaaGreat
open Go.Shelf Go.RowKit Go.Lib Go.Great
set_option maxRecDepth 100000
set_option maxHeartbeats 2000000
/-- What a good message's encoding asks of the calls. -/
structure RenK (w : World) (m : Msg) (kN : Nat) (ky ls : Bool) (V1 V2 : Value) (T : List UInt8) : Prop where
  kind : m.kind = (kN : Int)
  k9 : kN ≤ 9
  c12 : ∀ W, EncW w m W → Calls Tryz.prog 12 #[.agg (encM m).toArray] W fun e W' => e = .returned (.bool true) ∧ EncW w m W'
  c27 : ∀ W, Calls Tryz.prog 27 #[.int .i64 (kN : Int)] W fun e w' => e = .returned (.bool ky) ∧ w' = W
  c30 : ∀ W, Calls Tryz.prog 30 #[.int .i64 (kN : Int)] W fun e w' => e = .returned (.bool ls) ∧ w' = W
  v1 : m.vc = V1
  v2 : m.vr = V2
  tl : T.length ≤ 90000
end Go.Proofs.YtehgpnnfjgmiiaaGreat
end
section
namespace Go.Proofs.YtehgpnnfjgmiiaaGreat
open Go.Shelf Go.RowKit Go.Lib Go.Great
set_option maxRecDepth 100000
set_option maxHeartbeats 2000000
end Go.Proofs.YtehgpnnfjgmiiaaGreat
end
section
namespace Go.Proofs.YtehgpnnfjgmiiaaGreat
open Go.Shelf Go.RowKit Go.Lib Go.Great
set_option maxRecDepth 100000
set_option maxHeartbeats 2000000
theorem lightM_len {L : List Con} {R : List Ins} (h : lightM L R = true) : L.length ≤ 80 ∧ R.length ≤ 40 ∧ ∀ x ∈ R, x.tgt.length ≤ 300 := by
  unfold lightM lightR at h
  simp only [Bool.and_eq_true, decide_eq_true_eq, List.all_eq_true] at h
  exact ⟨h.1, h.2.2, h.2.1⟩
/-- Two messages in their boxes. -/
structure TwoK (w W2 : World) (m n : Msg) (X Y : Array Value) (L L' : List Con) (R R' : List Ins) : Prop where
  w2 : W2 = (w.alloc (.cells X 28)).alloc (.cells Y 28)
  x : X = (encM m).toArray
  y : Y = (encM n).toArray
  c1 : ConV w m.vc L
  c2 : ConV w n.vc L'
  i1 : InsV w m.vr R
  i2 : InsV w n.vr R'
theorem TwoK.b {w W2 : World} {m n : Msg} {X Y : Array Value} {L L' : List Con} {R R' : List Ins} (K : TwoK w W2 m n X Y L L' R R') : Below w.heap.size w W2 ∧ W2.heap.size = w.heap.size + 2 := by
  obtain ⟨_, _, hb⟩ := heap2 w (.cells X 28) (.cells Y 28)
  rw [K.w2]
  exact ⟨hb, by simp⟩
theorem TwoK.bel {w W2 W : World} {m n : Msg} {X Y : Array Value} {L L' : List Con} {R R' : List Ins} (K : TwoK w W2 m n X Y L L' R R') (hW : Below (w.heap.size + 2) W2 W) : Below w.heap.size w W ∧ w.heap.size + 2 ≤ W.heap.size := by
  have := hW.size
  have h := K.b
  exact ⟨h.1.trans (hW.mono (by omega)), by omega⟩
theorem TwoK.f1 {w W2 W : World} {m n : Msg} {X Y : Array Value} {L L' : List Con} {R R' : List Ins} (K : TwoK w W2 m n X Y L L' R R') (hW : Below (w.heap.size + 2) W2 W) : FldM W w.heap.size m := by
  obtain ⟨h1, _, _⟩ := heap2 w (.cells X 28) (.cells Y 28)
  rw [← K.w2, K.x] at h1
  exact fldM_below h1 hW (by omega)
theorem TwoK.f2 {w W2 W : World} {m n : Msg} {X Y : Array Value} {L L' : List Con} {R R' : List Ins} (K : TwoK w W2 m n X Y L L' R R') (hW : Below (w.heap.size + 2) W2 W) : FldM W (w.heap.size + 1) n := by
  obtain ⟨_, h2, _⟩ := heap2 w (.cells X 28) (.cells Y 28)
  rw [← K.w2, K.y] at h2
  exact fldM_below h2 hW (by omega)
end Go.Proofs.YtehgpnnfjgmiiaaGreat
end
section
namespace Go.Proofs.YtehgpnnfjgmiiaaGreat
open Go.Shelf Go.RowKit Go.Lib Go.Great
set_option maxRecDepth 100000
set_option maxHeartbeats 1000000
def bytesC (C : Cnt) : List UInt8 := bytesM C.kind C.txn C.frm C.key C.L C.R
theorem goodM_tail {k : Int} {y : List UInt8} {L : List Con} {R : List Ins} (hg : goodM k y L R = true) : (keyM k = false → y = zero20) ∧ (k = 6 → goodC (ctsC L) = true ∧ R = []) ∧ ((k = 4 ∨ k = 7) → L = [] ∧ goodR R = true) ∧ (¬ k = 6 → ¬ (k = 4 ∨ k = 7) → L = [] ∧ R = []) := by
  obtain ⟨hk1, hk2⟩ := goodM_kind hg
  unfold goodM at hg
  refine ⟨fun hk => ?_, fun hk => ?_, fun hk => ?_, fun h6 h47 => ?_⟩
  · have h15 : k = 1 ∨ k = 5 := by
      unfold keyM at hk
      simp at hk
      omega
    rw [if_pos h15] at hg
    simp at hg
    exact hg.1
  · subst hk
    simp at hg
    exact ⟨hg.1, hg.2⟩
  · rcases hk with rfl | rfl
    · simp at hg
      exact ⟨hg.1, hg.2.2⟩
    · simp at hg
      exact ⟨hg.1, hg.2.2⟩
  · by_cases h15 : k = 1 ∨ k = 5
    · rw [if_pos h15] at hg
      simp at hg
      exact ⟨hg.2.1, hg.2.2⟩
    · rw [if_neg h15, if_pos (by omega)] at hg
      simp at hg
      exact hg
/-- A good message is read from its bytes. -/
theorem enc_dec {k : Int} {t : Nat} {f y : List UInt8} {L : List Con} {R : List Ins} (hg : goodM k y L R = true) (ht : t < 4294967296) (hf : f.length = 20) (hy : y.length = 20) :
    dOk (bytesM k t f y L R) = true ∧ decC (bytesM k t f y L R) = ⟨k, t, f, y, L, R⟩ := by
  obtain ⟨hk1, hk2⟩ := goodM_kind hg
  obtain ⟨g1, g2, g3, g4⟩ := goodM_tail hg
  obtain ⟨kN, hkN⟩ : ∃ kN : Nat, kN = k.toNat := ⟨_, rfl⟩
  have hkk : k = (kN : Int) := by omega
  obtain ⟨T, hT⟩ : ∃ T, T = tailB k L R := ⟨_, rfl⟩
  obtain ⟨Y, hY⟩ : ∃ Y, Y = (if keyM k then y else []) := ⟨_, rfl⟩
  have e : bytesM k t f y L R = putB 1 1 ++ (putB kN 1 ++ (putB t 4 ++ (f ++ (Y ++ T)))) := by
    unfold bytesM hedM
    rw [if_pos hg, ← hkN, hT, ← hkk, ← hY]
    simp only [List.append_assoc]
  obtain ⟨xs, hxs⟩ : ∃ xs, xs = bytesM k t f y L R := ⟨_, rfl⟩
  rw [← hxs] at e ⊢
  have n1 := fun N (ys : List UInt8) => num_back N 1 ys (by omega) (by omega)
  have n4 := fun N (ys : List UInt8) => num_back N 4 ys (by omega) (by omega)
  simp only [show ((1 : Nat) : Int) = 1 from rfl, show ((4 : Nat) : Int) = 4 from rfl] at n1 n4
  obtain ⟨v0, s0⟩ := n1 1 (putB kN 1 ++ (putB t 4 ++ (f ++ (Y ++ T))))
  rw [← e] at v0 s0
  have hS1 : dS1 xs = ⟨putB kN 1 ++ (putB t 4 ++ (f ++ (Y ++ T))), false⟩ := s0
  obtain ⟨v1, s1⟩ := n1 kN (putB t 4 ++ (f ++ (Y ++ T)))
  rw [← hS1] at v1 s1
  have hV : nxV (dS1 xs) = kN := by
    unfold nxV
    rw [v1]
    omega
  obtain ⟨v2, s2⟩ := n4 t (f ++ (Y ++ T))
  rw [← s1] at v2 s2
  have hTx : nxT (dS1 xs) = t := by
    unfold nxT
    rw [v2]
    exact Nat.mod_eq_of_lt ht
  obtain ⟨v3, s3⟩ := take_back f (Y ++ T) hf
  rw [← s2] at v3 s3
  have hF : nxF (dS1 xs) = f := by
    unfold nxF pubV
    rw [v3, if_pos hf]
  have hS3 : nxS3 (dS1 xs) = ⟨Y ++ T, false⟩ := s3
  have hKy : dKy xs = keyM k := by unfold dKy; rw [hV, hkk]
  have h45 : nxY (dKy xs) (dS1 xs) = y ∧ nxS4 (dKy xs) (dS1 xs) = ⟨T, false⟩ := by
    rw [hKy]
    unfold nxY nxS4
    rw [hS3]
    cases hk : keyM k with
    | false =>
      rw [hk] at hY
      simp only [Bool.false_eq_true, if_false] at hY ⊢
      rw [hY]
      exact ⟨(g1 hk).symm, rfl⟩
    | true =>
      rw [hk] at hY
      simp only [if_true] at hY ⊢
      obtain ⟨v4, s4⟩ := take_back y T hy
      rw [hY]
      refine ⟨?_, s4⟩
      unfold pubV
      rw [v4, if_pos hy]
  obtain ⟨hYy, hS4⟩ := h45
  have hLRE : nxL kN ⟨T, false⟩ = L ∧ nxR kN ⟨T, false⟩ = R ∧ nxE kN ⟨T, false⟩ = ⟨[], false⟩ := by
    by_cases h6 : kN = 6
    · have h6k : k = 6 := by omega
      obtain ⟨q1, q2⟩ := g2 h6k
      have hTT : T = listC (ctsC L) ++ [] := by
        rw [hT]
        unfold tailB
        rw [if_pos h6k, if_pos q1, List.append_nil]
      obtain ⟨r1, r2⟩ := rl_list q1 []
      rw [← hTT] at r1 r2
      unfold nxL nxR nxE
      rw [if_pos h6, if_pos h6, if_neg (by omega), r1, r2, q2]
      exact ⟨rfl, rfl, rfl⟩
    · by_cases h47 : kN = 4 ∨ kN = 7
      · have h47k : k = 4 ∨ k = 7 := by omega
        obtain ⟨q1, q2⟩ := g3 h47k
        have hTT : T = byR R ++ [] := by
          rw [hT]
          unfold tailB
          rw [if_neg (by omega), if_pos h47k, List.append_nil]
        obtain ⟨r1, r2⟩ := roster_back q2 []
        rw [← hTT] at r1 r2
        unfold nxL nxR nxE
        rw [if_neg h6, if_neg h6, if_pos h47, if_pos h47, r1, r2, q1]
        exact ⟨rfl, rfl, rfl⟩
      · obtain ⟨q1, q2⟩ := g4 (by omega) (by omega)
        have hTT : T = [] := by
          rw [hT]
          unfold tailB
          rw [if_neg (by omega), if_neg (by omega)]
        unfold nxL nxR nxE
        rw [if_neg h6, if_neg h6, if_neg h47, if_neg h47, q1, q2, hTT]
        exact ⟨rfl, rfl, rfl⟩
  obtain ⟨hL, hR, hE⟩ := hLRE
  have dLe : dL xs = L := by unfold dL; rw [hV, hS4, hL]
  have dRe : dR xs = R := by unfold dR; rw [hV, hS4, hR]
  have dEe : dEnd xs = ⟨[], false⟩ := by unfold dEnd; rw [hV, hS4, hE]
  have hok : dOk xs = true := by
    unfold dOk dGd
    rw [v0, dEe, hV, hYy, dLe, dRe, ← hkk, hg]
    rfl
  refine ⟨hok, ?_⟩
  rw [decC_of, if_pos hok]
  unfold fulC
  rw [hV, hTx, hF, hYy, dLe, dRe, ← hkk]
theorem bytesM_inj {k k' : Int} {t t' : Nat} {f f' y y' : List UInt8} {L L' : List Con} {R R' : List Ins} (hg : goodM k y L R = true) (ht : t < 4294967296) (hf : f.length = 20) (hy : y.length = 20) (hg' : goodM k' y' L' R' = true) (ht' : t' < 4294967296) (hf' : f'.length = 20) (hy' : y'.length = 20)
    (h : bytesM k t f y L R = bytesM k' t' f' y' L' R') : (⟨k, t, f, y, L, R⟩ : Cnt) = ⟨k', t', f', y', L', R'⟩ := by
  rw [← (enc_dec hg ht hf hy).2, ← (enc_dec hg' ht' hf' hy').2, h]
/-- Two messages of one content are the same. -/
theorem sameM_iff (m n : Msg) (L L' : List Con) (R R' : List Ins) : sameM m n L L' R R' = true ↔ (⟨m.kind, m.txn, m.frm, m.key, L, R⟩ : Cnt) = ⟨n.kind, n.txn, n.frm, n.key, L', R'⟩ := by
  unfold sameM
  simp only [Bool.and_eq_true, beq_iff_eq, sameC_iff, sameR_iff, Cnt.mk.injEq]
theorem bytes_same {m n : Msg} {L L' : List Con} {R R' : List Ins} (hg : goodM m.kind m.key L R = true) (hg' : goodM n.kind n.key L' R' = true) : (bytesM m.kind m.txn m.frm m.key L R == bytesM n.kind n.txn n.frm n.key L' R') = sameM m n L L' R R' := by
  rw [Bool.eq_iff_iff, beq_iff_eq, sameM_iff]
  constructor
  · exact bytesM_inj hg m.ht m.hf m.hy hg' n.ht n.hf n.hy
  · intro h
    injection h with h1 h2 h3 h4 h5 h6
    rw [h1, h2, h3, h4, h5, h6]
theorem bytesM_len {k : Int} {t : Nat} {f y : List UInt8} {L : List Con} {R : List Ins} (hf : f.length = 20) (hy : y.length = 20) : (bytesM k t f y L R).length ≤ 6447 := by
  unfold bytesM
  split
  · rename_i hg
    have := tailB_len hg
    unfold hedM
    simp only [List.length_append, putB_length, hf]
    split
    · rw [hy]; omega
    · simp; omega
  · simp
end Go.Proofs.YtehgpnnfjgmiiaaGreat
end
section
namespace Go.Proofs.YtehgpnnfjgmiiaaGreat
open Go.Shelf Go.RowKit Go.Lib Go.Great
set_option maxRecDepth 100000
set_option maxHeartbeats 2000000
theorem decC_len (xs : List UInt8) : (decC xs).L.length ≤ 256 ∧ (decC xs).R.length ≤ 256 ∧ ∀ x ∈ (decC xs).R, x.tgt.length ≤ 1024 := by
  rw [decC_of]
  split
  · refine ⟨nxL_len _ _, ?_, ros_tgts _ _⟩
    show (nxR _ _).length ≤ 256
    unfold nxR
    split
    · exact rosL_len _
    · simp
  · exact ⟨by simp, by simp, by intro x hx; cases hx⟩
/-- After both have decoded. -/
structure WdK (w : World) (A : Option Addr) (c : Nat) (xs : List UInt8) (m1 m2 : Msg) (p3 p5 : Nat) (W : World) : Prop where
  be : Below w.heap.size w W
  h3 : W.heap[p3]? = some (.cells (encM m1).toArray 28 (0, 0))
  h5 : W.heap[p5]? = some (.cells (encM m2).toArray 28 (0, 0))
  i1 : IsM W m1 (decC xs)
  i2 : IsM W m2 (decC xs)
  bs : IsB (.slice A xs.length c) xs W
section
variable {w W W' : World} {A : Option Addr} {c : Nat} {xs : List UInt8} {m1 m2 : Msg} {p3 p5 : Nat}
theorem WdK.bel (K : WdK w A c xs m1 m2 p3 p5 W) (hb : Below W.heap.size W W') : WdK w A c xs m1 m2 p3 p5 W' :=
  ⟨K.be.trans (hb.mono K.be.size), (hb.block _ (Array.getElem?_eq_some_iff.1 K.h3).1).trans K.h3, (hb.block _ (Array.getElem?_eq_some_iff.1 K.h5).1).trans K.h5, K.i1.bel hb, K.i2.bel hb, K.bs.below hb⟩
theorem WdK.same (K : WdK w A c xs m1 m2 p3 p5 W) : Calls Tryz.prog 18 #[.agg (encM m1).toArray, .agg (encM m2).toArray] W fun e w' => e = .returned (.bool true) ∧ WdK w A c xs m1 m2 p3 p5 w' := by
  obtain ⟨l1, l2, _⟩ := decC_len xs
  have h := mrsame_any m1 m2 (decC xs).L (decC xs).L (decC xs).R (decC xs).R W K.i1.2.2.2.2.1 K.i1.2.2.2.2.2 K.i2.2.2.2.2.1 K.i2.2.2.2.2.2 (by omega) (by omega)
  rw [(sameM_iff m1 m2 _ _ _ _).2 (by rw [K.i1.1, K.i1.2.1, K.i1.2.2.1, K.i1.2.2.2.1, K.i2.1, K.i2.2.1, K.i2.2.2.1, K.i2.2.2.2.1])] at h
  refine h.mono ?_
  rintro e w' ⟨rfl, hb⟩
  exact ⟨rfl, K.bel hb⟩
end
end Go.Proofs.YtehgpnnfjgmiiaaGreat
end
