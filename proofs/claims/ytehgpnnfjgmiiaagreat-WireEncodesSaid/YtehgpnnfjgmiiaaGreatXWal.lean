/- Same of the reference. Conditions: at most 10,000 contacts and instances. GoodList of the reference. Conditions: at most 10,000 contacts. Contract of next of package contact. Conditions: at most 900,000 bytes. -/
import Derived.Test.YtehgpnnfjgmiiaaGreatXWak
import Derived.Test.YtehgpnnfjgmiiaaGreatXKPPPRwa
import Derived.Test.YtehgpnnfjgmiiaaGreatXOja
import Derived.Test.YtehgpnnfjgmiiaaGreatXOgb
import Derived.Test.YtehgpnnfjgmiiaaGreatXIiv
import Derived.Test.YtehgpnnfjgmiiaaGreatXWab
import Derived.Test.YtehgpnnfjgmiiaaGreatXObc
import Derived.Test.YtehgpnnfjgmiiaaGreatXOaa
import Derived.Test.YtehgpnnfjgmiiaaGreatXROcc
import Derived.Test.YtehgpnnfjgmiiaaGreatXRERefc
import Derived.Test.YtehgpnnfjgmiiaaGreatXRIip
import Derived.Test.YtehgpnnfjgmiiaaGreatXREMathb
import Derived.Test.YtehgpnnfjgmiiaaGreatXWaa
import Derived.Test.YtehgpnnfjgmiiaaGreatXNCdg
section
namespace Go.Proofs.YtehgpnnfjgmiiaaGreat
open Go.Shelf Go.RowKit Go.Lib Go.Great
set_option maxRecDepth 100000
set_option maxHeartbeats 1000000
section
variable {w : World} {X Y : Array Value} {k k' : Int} {t t' : Nat} {F F' D D' : Array Value} {bf bd : Bool} {A A' B B' : Option Addr} {n n' c c' r r' d d' : Nat} {C S : Bool} {E : World → Prop}
theorem rsam1 (hk : ¬ k = k') (K : SamK w X Y k k' t t' F F' D D' bf bd A A' B B' n n' c c' r r' d d' C S E) : Calls Tryz.prog 18 #[.agg X, .agg Y] w fun e w' => e = .returned (.bool false) ∧ Below w.heap.size w w' := by
  have bk := bneT hk
  have HB := Lib.hid K.be
  have ST := Lib.hid K.st
  have q0 := (K.k1 _ K.st).1
  have q1 := (K.k1 _ K.st).2
  have q2 := (K.t1 _ K.st).1
  have q3 := (K.t1 _ K.st).2
  have q4 := (K.c1 _ K.st).1
  have q5 := (K.c1 _ K.st).2
  have HF1 := Lib.hid (K.f1 _ K.st)
  have HF2 := Lib.hid (K.f2 _ K.st)
  have HD1 := Lib.hid (K.d1 _ K.st)
  have HD2 := Lib.hid (K.d2 _ K.st)
  have HR := Lib.hid K.r1
  have H38 := Lib.hid K.c38
  have HCC := Lib.hid K.c1
  have ef := K.ef
  have ed := K.ed
  clear K
  go_enter Tryz.func18, Tryz.ntmps18
  go_wp2_with (first
    | ((with_reducible refine wpList_loadG (o := ⟨some 20, _, _, _, _, _⟩) rfl 24 (.tmp 19) rfl _ ?_ _ HF1.out ?_); rfl)
    | ((with_reducible refine wpList_loadG (o := ⟨some 22, _, _, _, _, _⟩) rfl 24 (.tmp 21) rfl _ ?_ _ HF2.out ?_); rfl)
    | ((with_reducible refine wpList_loadG (o := ⟨some 27, _, _, _, _, _⟩) rfl 24 (.tmp 26) rfl _ ?_ _ HD1.out ?_); rfl)
    | ((with_reducible refine wpList_loadG (o := ⟨some 29, _, _, _, _, _⟩) rfl 24 (.tmp 28) rfl _ ?_ _ HD2.out ?_); rfl))
  go_ret
  exact ⟨rfl, HB.out _ ST.out⟩
theorem rsam2 (ht : ¬ t = t') (K : SamK w X Y k k t t' F F' D D' bf bd A A' B B' n n' c c' r r' d d' C S E) : Calls Tryz.prog 18 #[.agg X, .agg Y] w fun e w' => e = .returned (.bool false) ∧ Below w.heap.size w w' := by
  have bt := bneT (show ¬ (t : Int) = (t' : Int) by omega)
  have HB := Lib.hid K.be
  have ST := Lib.hid K.st
  have q0 := (K.k1 _ K.st).1
  have q1 := (K.k1 _ K.st).2
  have q2 := (K.t1 _ K.st).1
  have q3 := (K.t1 _ K.st).2
  have q4 := (K.c1 _ K.st).1
  have q5 := (K.c1 _ K.st).2
  have HF1 := Lib.hid (K.f1 _ K.st)
  have HF2 := Lib.hid (K.f2 _ K.st)
  have HD1 := Lib.hid (K.d1 _ K.st)
  have HD2 := Lib.hid (K.d2 _ K.st)
  have HR := Lib.hid K.r1
  have H38 := Lib.hid K.c38
  have HCC := Lib.hid K.c1
  have ef := K.ef
  have ed := K.ed
  clear K
  go_enter Tryz.func18, Tryz.ntmps18
  go_wp2_with (first
    | ((with_reducible refine wpList_loadG (o := ⟨some 20, _, _, _, _, _⟩) rfl 24 (.tmp 19) rfl _ ?_ _ HF1.out ?_); rfl)
    | ((with_reducible refine wpList_loadG (o := ⟨some 22, _, _, _, _, _⟩) rfl 24 (.tmp 21) rfl _ ?_ _ HF2.out ?_); rfl)
    | ((with_reducible refine wpList_loadG (o := ⟨some 27, _, _, _, _, _⟩) rfl 24 (.tmp 26) rfl _ ?_ _ HD1.out ?_); rfl)
    | ((with_reducible refine wpList_loadG (o := ⟨some 29, _, _, _, _, _⟩) rfl 24 (.tmp 28) rfl _ ?_ _ HD2.out ?_); rfl))
  go_ret
  exact ⟨rfl, HB.out _ ST.out⟩
theorem rsam3 (K : SamK w X Y k k t t F F' D D' false bd A A' B B' n n' c c' r r' d d' C S E) : Calls Tryz.prog 18 #[.agg X, .agg Y] w fun e w' => e = .returned (.bool false) ∧ Below w.heap.size w w' := by
  have HB := Lib.hid K.be
  have ST := Lib.hid K.st
  have q0 := (K.k1 _ K.st).1
  have q1 := (K.k1 _ K.st).2
  have q2 := (K.t1 _ K.st).1
  have q3 := (K.t1 _ K.st).2
  have q4 := (K.c1 _ K.st).1
  have q5 := (K.c1 _ K.st).2
  have HF1 := Lib.hid (K.f1 _ K.st)
  have HF2 := Lib.hid (K.f2 _ K.st)
  have HD1 := Lib.hid (K.d1 _ K.st)
  have HD2 := Lib.hid (K.d2 _ K.st)
  have HR := Lib.hid K.r1
  have H38 := Lib.hid K.c38
  have HCC := Lib.hid K.c1
  have ef := K.ef
  have ed := K.ed
  clear K
  go_enter Tryz.func18, Tryz.ntmps18
  go_wp2_with (first
    | ((with_reducible refine wpList_loadG (o := ⟨some 20, _, _, _, _, _⟩) rfl 24 (.tmp 19) rfl _ ?_ _ HF1.out ?_); rfl)
    | ((with_reducible refine wpList_loadG (o := ⟨some 22, _, _, _, _, _⟩) rfl 24 (.tmp 21) rfl _ ?_ _ HF2.out ?_); rfl)
    | ((with_reducible refine wpList_loadG (o := ⟨some 27, _, _, _, _, _⟩) rfl 24 (.tmp 26) rfl _ ?_ _ HD1.out ?_); rfl)
    | ((with_reducible refine wpList_loadG (o := ⟨some 29, _, _, _, _, _⟩) rfl 24 (.tmp 28) rfl _ ?_ _ HD2.out ?_); rfl))
  go_ret
  exact ⟨rfl, HB.out _ ST.out⟩
theorem rsam4 (K : SamK w X Y k k t t F F' D D' true false A A' B B' n n' c c' r r' d d' C S E) : Calls Tryz.prog 18 #[.agg X, .agg Y] w fun e w' => e = .returned (.bool false) ∧ Below w.heap.size w w' := by
  have HB := Lib.hid K.be
  have ST := Lib.hid K.st
  have q0 := (K.k1 _ K.st).1
  have q1 := (K.k1 _ K.st).2
  have q2 := (K.t1 _ K.st).1
  have q3 := (K.t1 _ K.st).2
  have q4 := (K.c1 _ K.st).1
  have q5 := (K.c1 _ K.st).2
  have HF1 := Lib.hid (K.f1 _ K.st)
  have HF2 := Lib.hid (K.f2 _ K.st)
  have HD1 := Lib.hid (K.d1 _ K.st)
  have HD2 := Lib.hid (K.d2 _ K.st)
  have HR := Lib.hid K.r1
  have H38 := Lib.hid K.c38
  have HCC := Lib.hid K.c1
  have ef := K.ef
  have ed := K.ed
  clear K
  go_enter Tryz.func18, Tryz.ntmps18
  go_wp2_with (first
    | ((with_reducible refine wpList_loadG (o := ⟨some 20, _, _, _, _, _⟩) rfl 24 (.tmp 19) rfl _ ?_ _ HF1.out ?_); rfl)
    | ((with_reducible refine wpList_loadG (o := ⟨some 22, _, _, _, _, _⟩) rfl 24 (.tmp 21) rfl _ ?_ _ HF2.out ?_); rfl)
    | ((with_reducible refine wpList_loadG (o := ⟨some 27, _, _, _, _, _⟩) rfl 24 (.tmp 26) rfl _ ?_ _ HD1.out ?_); rfl)
    | ((with_reducible refine wpList_loadG (o := ⟨some 29, _, _, _, _, _⟩) rfl 24 (.tmp 28) rfl _ ?_ _ HD2.out ?_); rfl))
  go_ret
  exact ⟨rfl, HB.out _ ST.out⟩
theorem rsam5 (hn : ¬ n = n') (K : SamK w X Y k k t t F F' D D' true true A A' B B' n n' c c' r r' d d' C S E) : Calls Tryz.prog 18 #[.agg X, .agg Y] w fun e w' => e = .returned (.bool false) ∧ Below w.heap.size w w' := by
  have bn := bneT (show ¬ (n : Int) = (n' : Int) by omega)
  have HB := Lib.hid K.be
  have ST := Lib.hid K.st
  have q0 := (K.k1 _ K.st).1
  have q1 := (K.k1 _ K.st).2
  have q2 := (K.t1 _ K.st).1
  have q3 := (K.t1 _ K.st).2
  have q4 := (K.c1 _ K.st).1
  have q5 := (K.c1 _ K.st).2
  have HF1 := Lib.hid (K.f1 _ K.st)
  have HF2 := Lib.hid (K.f2 _ K.st)
  have HD1 := Lib.hid (K.d1 _ K.st)
  have HD2 := Lib.hid (K.d2 _ K.st)
  have HR := Lib.hid K.r1
  have H38 := Lib.hid K.c38
  have HCC := Lib.hid K.c1
  have ef := K.ef
  have ed := K.ed
  clear K
  go_enter Tryz.func18, Tryz.ntmps18
  go_wp2_with (first
    | ((with_reducible refine wpList_loadG (o := ⟨some 20, _, _, _, _, _⟩) rfl 24 (.tmp 19) rfl _ ?_ _ HF1.out ?_); rfl)
    | ((with_reducible refine wpList_loadG (o := ⟨some 22, _, _, _, _, _⟩) rfl 24 (.tmp 21) rfl _ ?_ _ HF2.out ?_); rfl)
    | ((with_reducible refine wpList_loadG (o := ⟨some 27, _, _, _, _, _⟩) rfl 24 (.tmp 26) rfl _ ?_ _ HD1.out ?_); rfl)
    | ((with_reducible refine wpList_loadG (o := ⟨some 29, _, _, _, _, _⟩) rfl 24 (.tmp 28) rfl _ ?_ _ HD2.out ?_); rfl))
  go_ret
  exact ⟨rfl, HB.out _ ST.out⟩
theorem rsam0 (K : SamK w X Y k k t t F F' D D' true true A A' B B' 0 0 c c' r r' d d' C S E) : Calls Tryz.prog 18 #[.agg X, .agg Y] w fun e w' => e = .returned (.bool S) ∧ Below w.heap.size w w' := by
  have HB := Lib.hid K.be
  have ST := Lib.hid K.st
  have q0 := (K.k1 _ K.st).1
  have q1 := (K.k1 _ K.st).2
  have q2 := (K.t1 _ K.st).1
  have q3 := (K.t1 _ K.st).2
  have q4 := (K.c1 _ K.st).1
  have q5 := (K.c1 _ K.st).2
  have HF1 := Lib.hid (K.f1 _ K.st)
  have HF2 := Lib.hid (K.f2 _ K.st)
  have HD1 := Lib.hid (K.d1 _ K.st)
  have HD2 := Lib.hid (K.d2 _ K.st)
  have HR := Lib.hid K.r1
  have H38 := Lib.hid K.c38
  have HCC := Lib.hid K.c1
  have ef := K.ef
  have ed := K.ed
  clear K
  go_enter Tryz.func18, Tryz.ntmps18
  go_wp2_with (first
    | ((with_reducible refine wpList_loadG (o := ⟨some 20, _, _, _, _, _⟩) rfl 24 (.tmp 19) rfl _ ?_ _ HF1.out ?_); rfl)
    | ((with_reducible refine wpList_loadG (o := ⟨some 22, _, _, _, _, _⟩) rfl 24 (.tmp 21) rfl _ ?_ _ HF2.out ?_); rfl)
    | ((with_reducible refine wpList_loadG (o := ⟨some 27, _, _, _, _, _⟩) rfl 24 (.tmp 26) rfl _ ?_ _ HD1.out ?_); rfl)
    | ((with_reducible refine wpList_loadG (o := ⟨some 29, _, _, _, _, _⟩) rfl 24 (.tmp 28) rfl _ ?_ _ HD2.out ?_); rfl))
  go_loopg [5] 0 (fun _ s wr => s = .int .i64 0 ∧ E wr)
  case atStart => exact ⟨rfl, ST.out⟩
  case round =>
    obtain ⟨rfl, e1⟩ := hrel
    obtain ⟨p4, p5⟩ := HCC.out _ e1
    obtain ⟨p6, p7⟩ := HR.out _ e1
    go_wp2_with (go_at_call 38; (with_reducible refine (H38.out _ e1).mono ?_); rintro e w2 ⟨rfl, e2⟩)
    go_ret
    exact ⟨rfl, HB.out _ e2⟩
theorem rsam6 (L L' : List Con) (g1 o1 g2 o2 : Nat) (hL : L.length = n) (hL' : L'.length = n) (hn : n ≤ 10000) (hg1 : g1 < w.heap.size) (hr1 : w.rangeAt g1 o1 (flatE encC L)) (hg2 : g2 < w.heap.size) (hr2 : w.rangeAt g2 o2 (flatE encC L'))
    (hE : E = fun W => Below (w.heap.size + 2) ((w.alloc (.cells X 28)).alloc (.cells Y 28)) W)
    (K : SamK w X Y k k t t F F' D D' true true (some ⟨g1, o1, none⟩) (some ⟨g2, o2, none⟩) B B' n n c c' r r' d d' C S E) : Calls Tryz.prog 18 #[.agg X, .agg Y] w fun e w' => e = .returned (.bool (sameC L L' && S)) ∧ Below w.heap.size w w' := by
  have HL1 : Hid (∀ j, j < n → ∀ W, Below w.heap.size w W → (loadVar 63 ⟨g1, o1 + j * 22, none⟩).run Tryz.prog W = .ok (.agg (encC L[j]!).toArray) W) := Lib.hid (fun j hj W hW => rowC_load hr1 hg1 hW (by omega))
  have HL2 : Hid (∀ j, j < n → ∀ W, Below w.heap.size w W → (loadVar 63 ⟨g2, o2 + j * 22, none⟩).run Tryz.prog W = .ok (.agg (encC L'[j]!).toArray) W) := Lib.hid (fun j hj W hW => rowC_load hr2 hg2 hW (by omega))
  have HT : Hid ((∀ j, j < n → eqC L[j]! L'[j]! = true) → sameC L L' = true) := Lib.hid (fun h => by
    unfold sameC
    rw [Bool.and_eq_true, decide_eq_true_eq, List.all_eq_true]
    exact ⟨by omega, fun j hj => h j (by rw [List.mem_range] at hj; omega)⟩)
  have HF : Hid (∀ j, j < n → eqC L[j]! L'[j]! = false → sameC L L' = false) := Lib.hid (fun j hj h => by
    cases hs : sameC L L' with
    | false => rfl
    | true => rw [(sameC_iff L L').1 hs, eqCc_self] at h; cases h)
  generalize sameC L L' = rr at *
  have HEK : Hid (∀ q : Kept (w.heap.size + 2) ((w.alloc (.cells X 28)).alloc (.cells Y 28)), E q.val) := Lib.hid (fun q => by rw [hE]; exact q.property)
  have HKE : Hid (∀ W, E W → Below (w.heap.size + 2) ((w.alloc (.cells X 28)).alloc (.cells Y 28)) W) := Lib.hid (fun W h => by rw [hE] at h; exact h)
  clear hr1 hr2 hE hg1 hg2
  have HB := Lib.hid K.be
  have ST := Lib.hid K.st
  have q0 := (K.k1 _ K.st).1
  have q1 := (K.k1 _ K.st).2
  have q2 := (K.t1 _ K.st).1
  have q3 := (K.t1 _ K.st).2
  have q4 := (K.c1 _ K.st).1
  have q5 := (K.c1 _ K.st).2
  have HF1 := Lib.hid (K.f1 _ K.st)
  have HF2 := Lib.hid (K.f2 _ K.st)
  have HD1 := Lib.hid (K.d1 _ K.st)
  have HD2 := Lib.hid (K.d2 _ K.st)
  have HR := Lib.hid K.r1
  have H38 := Lib.hid K.c38
  have HCC := Lib.hid K.c1
  have ef := K.ef
  have ed := K.ed
  clear K
  go_enter Tryz.func18, Tryz.ntmps18
  go_wp2_with (first
    | ((with_reducible refine wpList_loadG (o := ⟨some 20, _, _, _, _, _⟩) rfl 24 (.tmp 19) rfl _ ?_ _ HF1.out ?_); rfl)
    | ((with_reducible refine wpList_loadG (o := ⟨some 22, _, _, _, _, _⟩) rfl 24 (.tmp 21) rfl _ ?_ _ HF2.out ?_); rfl)
    | ((with_reducible refine wpList_loadG (o := ⟨some 27, _, _, _, _, _⟩) rfl 24 (.tmp 26) rfl _ ?_ _ HD1.out ?_); rfl)
    | ((with_reducible refine wpList_loadG (o := ⟨some 29, _, _, _, _, _⟩) rfl 24 (.tmp 28) rfl _ ?_ _ HD2.out ?_); rfl))
  go_loopw [5] (fun i wr => ∃ j : Nat, i = .int .i64 (j : Int) ∧ j ≤ n ∧ (∀ z, z < j → eqC L[z]! L'[z]! = true) ∧ E wr) (fun i _ => n - (RowKit.intOf i).toNat)
  case atStart => exact ⟨0, rfl, by omega, fun z hz => by omega, ST.out⟩
  case round =>
    obtain ⟨j, rfl, hj, hF, ew⟩ := hrel
    have HD := Lib.hid hF
    obtain ⟨p4, p5⟩ := HCC.out _ ew
    clear hF q0 q1 q2 q3 q4 q5 HF1 HF2 HD1 HD2 ef ed
    by_cases hlt : j < n
    · have hlt' : (j : Int) < (n : Int) := by omega
      have EW := Lib.hid ew
      have HQ1 : Hid (∀ q : Kept (w.heap.size + 2) ((w.alloc (.cells X 28)).alloc (.cells Y 28)), (loadVar 63 ⟨g1, o1 + j * 22, none⟩).run Tryz.prog q.val = .ok (.agg (encC L[j]!).toArray) q.val) := Lib.hid (fun q => HL1.out j hlt _ (HB.out _ (HEK.out q)))
      have HQ2 : Hid (∀ q : Kept (w.heap.size + 2) ((w.alloc (.cells X 28)).alloc (.cells Y 28)), (loadVar 63 ⟨g2, o2 + j * 22, none⟩).run Tryz.prog q.val = .ok (.agg (encC L'[j]!).toArray) q.val) := Lib.hid (fun q => HL2.out j hlt _ (HB.out _ (HEK.out q)))
      have HC1 : Hid (∀ q : Kept (w.heap.size + 2) ((w.alloc (.cells X 28)).alloc (.cells Y 28)), q.val.cell? ⟨w.heap.size, 42, none⟩ = some (.slice (some ⟨g1, o1, none⟩) n c)) := Lib.hid (fun q => (HCC.out _ (HEK.out q)).1)
      have HC2 : Hid (∀ q : Kept (w.heap.size + 2) ((w.alloc (.cells X 28)).alloc (.cells Y 28)), q.val.cell? ⟨w.heap.size + 1, 42, none⟩ = some (.slice (some ⟨g2, o2, none⟩) n c')) := Lib.hid (fun q => (HCC.out _ (HEK.out q)).2)
      have he := fun W => eqCon60 L[j]! L'[j]! W
      have HNX : Hid (eqC L[j]! L'[j]! = true → ∀ wx, E wx → ∃ z' : Nat, Value.int .i64 ((j : Int) + 1) = .int .i64 (z' : Int) ∧ z' ≤ n ∧ (∀ z, z < z' → eqC L[z]! L'[z]! = true) ∧ E wx) := Lib.hid (fun h wx hx => ⟨j + 1, by simp, by omega, fun z hz => by
        by_cases e : z = j
        · subst e; exact h
        · exact HD.out z (by omega), hx⟩)
      have HRF := Lib.hid (HF.out j hlt)
      have HEB := Lib.hid (HKE.out _ ew)
      clear HT HF HD HL1 HL2 ew
      cases hq : eqC L[j]! L'[j]! with
      | false =>
        rw [hq] at he
        have HRR : Hid (rr = false) := Lib.hid (HRF.out hq)
        clear HRF HNX hq
        generalize (encC L[j]!).toArray = X1 at *
        generalize (encC L'[j]!).toArray = Y1 at *
        go_upto_region 6 with fail
        refine wp_region_kept (w.heap.size + 2) ((w.alloc (.cells X 28)).alloc (.cells Y 28)) HEB.out (by kernel_rfl) (by kernel_rfl) ?_
        have hc1 := HC1.out
        have hc2 := HC2.out
        repeat (first
          | (go_big_quiet_want; (with_reducible refine quiet_loadV 63 (.tmp 51) rfl _ ?_ _ HQ1.out ?_); rfl; simp only [Act.put, List.setIfInBounds_toArray, List.set_cons_zero, List.set_cons_succ]; go_big_quiet_on)
          | (go_big_quiet_want; (with_reducible refine quiet_loadV 63 (.tmp 56) rfl _ ?_ _ HQ2.out ?_); rfl; simp only [Act.put, List.setIfInBounds_toArray, List.set_cons_zero, List.set_cons_succ]; go_big_quiet_on)
          | go_big_quiet_step (fail))
        refine wpQuiet_nil ?_
        rintro wk ⟨⟨_, hwk⟩, rfl⟩
        have HBW := Lib.hid (HB.out _ (HEK.out ⟨_, hwk⟩))
        go_wp2
        go_ret
        exact ⟨by rw [HRR.out]; rfl, HBW.out⟩
      | true =>
        rw [hq] at he
        have HNY := Lib.hid (HNX.out hq)
        clear HRF HNX hq
        generalize (encC L[j]!).toArray = X1 at *
        generalize (encC L'[j]!).toArray = Y1 at *
        go_upto_region 6 with fail
        refine wp_region_kept (w.heap.size + 2) ((w.alloc (.cells X 28)).alloc (.cells Y 28)) HEB.out (by kernel_rfl) (by kernel_rfl) ?_
        have hc1 := HC1.out
        have hc2 := HC2.out
        repeat (first
          | (go_big_quiet_want; (with_reducible refine quiet_loadV 63 (.tmp 51) rfl _ ?_ _ HQ1.out ?_); rfl; simp only [Act.put, List.setIfInBounds_toArray, List.set_cons_zero, List.set_cons_succ]; go_big_quiet_on)
          | (go_big_quiet_want; (with_reducible refine quiet_loadV 63 (.tmp 56) rfl _ ?_ _ HQ2.out ?_); rfl; simp only [Act.put, List.setIfInBounds_toArray, List.set_cons_zero, List.set_cons_succ]; go_big_quiet_on)
          | go_big_quiet_step (fail))
        refine wpQuiet_nil ?_
        rintro wk ⟨⟨_, hwk⟩, rfl⟩
        have HBW := Lib.hid (HNY.out _ (HEK.out ⟨_, hwk⟩))
        go_wp2
        go_roundw
        case rel => exact HBW.out
        case measure => simp [RowKit.intOf]; omega
    · have hlt' : ¬ (j : Int) < (n : Int) := by omega
      have HRT : Hid (rr = true) := Lib.hid (HT.out (fun z hz => HD.out z (by omega)))
      obtain ⟨p6, p7⟩ := HR.out _ ew
      clear HT HF HD HL1 HL2
      go_wp2_with (go_at_call 38; (with_reducible refine (H38.out _ ew).mono ?_); rintro e w2 ⟨rfl, e2⟩)
      go_ret
      exact ⟨by rw [HRT.out]; rfl, HB.out _ e2⟩
end
theorem mrsame_any (m n : Msg) (L L' : List Con) (R R' : List Ins) (w : World) (hc : ConV w m.vc L) (hr : InsV w m.vr R) (hc' : ConV w n.vc L') (hr' : InsV w n.vr R') (hL : L.length ≤ 10000) (hR : R.length ≤ 10000) : Calls Tryz.prog 18 #[.agg (encM m).toArray, .agg (encM n).toArray] w fun e w' => e = .returned (.bool (sameM m n L L' R R')) ∧ Below w.heap.size w w' := by
  obtain ⟨A, A', B, B', c, c', d, d', _, _, hA, hA', K⟩ := samK m n L L' R R' w hc hr hc' hr' hL hR
  unfold sameM
  by_cases hk : m.kind = n.kind
  · rw [show (m.kind == n.kind) = true by simpa using hk, Bool.true_and]
    rw [← hk] at K
    by_cases ht : m.txn = n.txn
    · rw [show (m.txn == n.txn) = true by simpa using ht, Bool.true_and]
      rw [← ht] at K
      cases hf : (m.frm == n.frm) with
      | false => rw [hf] at K; rw [Bool.false_and]; exact rsam3 K
      | true =>
        rw [hf] at K
        cases hd : (m.key == n.key) with
        | false => rw [hd] at K; rw [Bool.false_and, Bool.and_false]; exact rsam4 K
        | true =>
          rw [hd] at K
          rw [Bool.true_and, Bool.true_and]
          by_cases hn : L.length = L'.length
          · rcases hA with h0 | ⟨g1, o1, rfl, hg1, hr1⟩
            · have h1 : L' = [] := List.eq_nil_of_length_eq_zero (by rw [← hn, h0]; rfl)
              subst h0 h1
              rw [show sameC [] [] = true from (sameC_iff [] []).2 rfl, Bool.true_and]
              exact rsam0 K
            · rcases hA' with h1 | ⟨g2, o2, rfl, hg2, hr2⟩
              · have h0 : L = [] := List.eq_nil_of_length_eq_zero (by rw [hn, h1]; rfl)
                subst h0 h1
                rw [show sameC [] [] = true from (sameC_iff [] []).2 rfl, Bool.true_and]
                exact rsam0 K
              · rw [← hn] at K
                exact rsam6 L L' g1 o1 g2 o2 rfl hn.symm hL hg1 hr1 hg2 hr2 rfl K
          · rw [show sameC L L' = false by unfold sameC; rw [decide_eq_false hn, Bool.false_and], Bool.false_and]
            exact rsam5 hn K
    · rw [show (m.txn == n.txn) = false by simpa using ht, Bool.false_and]
      exact rsam2 ht K
  · rw [show (m.kind == n.kind) = false by simpa using hk, Bool.false_and]
    exact rsam1 hk K
end Go.Proofs.YtehgpnnfjgmiiaaGreat
end
section
namespace Go.Proofs.YtehgpnnfjgmiiaaGreat
open Go.Shelf Go.RowKit Go.Lib Go.Sort Go.Great
set_option maxRecDepth 100000
set_option maxHeartbeats 1000000
theorem idxP_own (L : List Con) (q : Nat) (hq : q < L.length) : idxP (isC (idC L[q])) L = (q : Int) ↔ findC (ctsC L) (L[q].1.1) = some q := by
  rw [idxP_findC]
  show (match findC (ctsC L) (L[q].1.1) with | some k => (k : Int) | none => -1) = (q : Int) ↔ _
  cases h : findC (ctsC L) (L[q].1.1) with
  | none =>
    simp only [reduceCtorEq, iff_false] <;> omega
  | some k =>
    simp only [Option.some.injEq]
    omega
theorem goodC_yes {L : List Con} (h : ∀ q (hq : q < L.length), ctGood L[q].1 = true ∧ idxP (isC (idC L[q])) L = (q : Int)) : goodC (ctsC L) = decide (L.length ≤ 64) := by
  have h1 : (ctsC L).all ctGood = true := by
    unfold ctsC
    rw [List.all_map, List.all_eq_true]
    intro x hx
    obtain ⟨j, hj, rfl⟩ := List.getElem_of_mem hx
    exact (h j hj).1
  have h2 : ((ctsC L).map (·.1)).Nodup := by
    rw [← find_nodup]
    intro i hi
    have hi' : i < L.length := by simpa [ctsC] using hi
    have := (idxP_own L i hi').1 (h i hi').2
    simpa [ctsC] using this
  unfold goodC
  rw [h1, decide_eq_true h2, Bool.true_and, Bool.true_and]
  simp [ctsC]
theorem goodC_no {L : List Con} (q : Nat) (hq : q < L.length) (h : ¬ (ctGood L[q].1 = true ∧ idxP (isC (idC L[q])) L = (q : Int))) : goodC (ctsC L) = false := by
  cases hg : goodC (ctsC L) with
  | false => rfl
  | true =>
    refine absurd ⟨goodC_all hg _ (List.mem_map.2 ⟨L[q], List.getElem_mem hq, rfl⟩), (idxP_own L q hq).2 ?_⟩ h
    have hn : ((ctsC L).map (·.1)).Nodup := by
      unfold goodC at hg
      simp only [Bool.and_eq_true, decide_eq_true_eq] at hg
      exact hg.1.2
    have := (find_nodup (ctsC L)).2 hn q (by simpa [ctsC] using hq)
    simpa [ctsC] using this
def GlRel (W0 : World) (L : List Con) (i : Value) (wr : World) : Prop := ∃ j : Nat, j ≤ L.length ∧ i = .int .i64 (j : Int) ∧ (∀ q (hq : q < L.length), q < j → ctGood L[q].1 = true ∧ idxP (isC (idC L[q])) L = (q : Int)) ∧ Below W0.heap.size W0 wr
theorem rgoodlist_any (A : Option Addr) (c : Nat) (L : List Con) (w : World) (hL : L.length ≤ 10000) (hA : CAt w w.heap.size A L) :
    Calls Tryz.prog 34 #[.slice A L.length c] w fun e w' => e = .returned (.bool (goodC (ctsC L))) ∧ Below w.heap.size w w' := by
  have HA := Lib.hid hA
  have R0 : Hid (GlRel w L (.int .i64 0) w) := Lib.hid ⟨0, by omega, rfl, fun q hq h => by omega, Below.refl _ _⟩
  obtain ⟨n, hn⟩ : ∃ n, n = L.length := ⟨_, rfl⟩
  rw [← hn] at hL ⊢
  have HN := Lib.hid hn
  obtain ⟨D, hD⟩ : ∃ D, D = goodC (ctsC L) := ⟨_, rfl⟩
  rw [← hD]
  have HD := Lib.hid hD
  clear hA hn hD
  go_enter Tryz.func34, Tryz.ntmps34
  go_upto_region 2 with fail
  go_loopw [3] (GlRel w L) (fun i _ => n - (RowKit.intOf i).toNat)
  case atStart => exact R0.out
  case round =>
    obtain ⟨j, hj, rfl, hq, hb⟩ := hrel
    clear R0
    have HQ := Lib.hid hq
    have HB := Lib.hid hb
    by_cases hlt : j < n
    · have hjL : j < L.length := by have := HN.out; omega
      obtain ⟨x, hx⟩ : ∃ x, L[j]'hjL = x := ⟨_, rfl⟩
      have hF : ∀ W, Below wr.heap.size wr W → Calls Tryz.prog 60 #[.slice A n c, .agg (encID (idC x)).toArray] W fun e w' => e = .returned (.int .i64 (idxP (isC (idC x)) L)) ∧ Below w.heap.size w w' := fun W hW => by
        have h1 := hb.trans (hW.mono hb.size)
        have := rfind_any A c L (idC x) W (by rw [← HN.out]; exact hL) ((HA.out.below h1).more h1.size)
        rw [← HN.out] at this
        refine this.mono ?_
        rintro e w' ⟨rfl, k⟩
        exact ⟨rfl, h1.trans (k.mono h1.size)⟩
      have HF := Lib.hid hF
      obtain ⟨g, off, rfl, hg, hr⟩ := (HA.out.below hb).some_ (by omega)
      have hgr : g < wr.heap.size := Nat.lt_of_lt_of_le hg hb.size
      have hre := range_elem hr j hjL
      rw [hx] at hre
      have HLY := Lib.hid (load73 hre)
      have HLI : Hid (∀ W, Below wr.heap.size wr W → (loadVar 87 ⟨g, off + j * 22, none⟩).run Tryz.prog W = .ok (.agg (encID (idC x)).toArray) W) := Lib.hid (fun W hW => range_load42 (range_keep (range_idC hre) (hW.block g hgr)))
      have HG := Lib.hid (rcgood_any x wr)
      have HJ := Lib.hid hjL
      have HIX : Hid (L[j]'hjL = x) := Lib.hid hx
      have HNO : Hid (¬ (ctGood x.1 = true ∧ idxP (isC (idC x)) L = (j : Int)) → goodC (ctsC L) = false) := Lib.hid (fun h => goodC_no j hjL (fun k => h ⟨(congrArg (fun z : Con => ctGood z.1) hx).symm.trans k.1, (congrArg (fun z : Con => idxP (isC (idC z)) L) hx).symm.trans k.2⟩))
      by_cases hgd : ctGood x.1 = true
      · rw [hgd] at HG
        by_cases hix : idxP (isC (idC x)) L = (j : Int)
        · rw [hix] at HF
          have HS : Hid (∀ wk, Below w.heap.size w wk → GlRel w L (.int .i64 ((j : Int) + 1)) wk) := Lib.hid (fun wk hk => ⟨j + 1, by have := HN.out; omega, by go_num, fun q hq h => by
            by_cases e : q = j
            · subst e; exact ⟨(congrArg (fun z : Con => ctGood z.1) HIX.out).trans hgd, (congrArg (fun z : Con => idxP (isC (idC z)) L) HIX.out).trans hix⟩
            · exact HQ.out q hq (by omega), hk⟩)
          clear hr hg hgr hb hq hgd hix hF hx hre HNO
          generalize (encC x).toArray = X at HLY HG
          generalize (encID (idC x)).toArray = Y at HLI HF
          go_wp2_with (first
            | ((with_reducible refine wpList_loadV (op := ⟨some 13, _, _, _, _, _⟩) rfl 90 (.tmp 12) rfl _ ?_ _ HLY.out ?_); rfl)
            | (go_at_call 59; (with_reducible refine HG.out.mono ?_); rintro e1 w1 ⟨rfl, hb1⟩)
            | ((with_reducible refine wpList_loadGN (op := ⟨some 22, _, _, _, _, _⟩) ?_ 87 (.tmp 21) rfl _ ?_ _ (HLI.out _ hb1) ?_); rfl; rfl)
            | (go_at_call 60; (with_reducible refine (HF.out _ hb1).mono ?_); rintro e2 w2 ⟨rfl, hb2⟩))
          go_roundw
          case rel => exact HS.out _ hb2
          case measure => simp [RowKit.intOf]; omega
        · have HP : Hid (D = false) := Lib.hid (by rw [HD.out]; exact HNO.out (fun h => hix h.2))
          obtain ⟨ix, hix2⟩ : ∃ ix, ix = idxP (isC (idC x)) L := ⟨_, rfl⟩
          rw [← hix2] at HF hix
          clear hr hg hgr hb hq hgd hF hix2 hx hre HNO
          have hne : (ix == (j : Int)) = false := by simpa using hix
          generalize (encC x).toArray = X at HLY HG
          generalize (encID (idC x)).toArray = Y at HLI HF
          go_wp2_with (first
            | ((with_reducible refine wpList_loadV (op := ⟨some 13, _, _, _, _, _⟩) rfl 90 (.tmp 12) rfl _ ?_ _ HLY.out ?_); rfl)
            | (go_at_call 59; (with_reducible refine HG.out.mono ?_); rintro e1 w1 ⟨rfl, hb1⟩)
            | ((with_reducible refine wpList_loadGN (op := ⟨some 22, _, _, _, _, _⟩) ?_ 87 (.tmp 21) rfl _ ?_ _ (HLI.out _ hb1) ?_); rfl; rfl)
            | (go_at_call 60; (with_reducible refine (HF.out _ hb1).mono ?_); rintro e2 w2 ⟨rfl, hb2⟩))
          go_ret
          exact ⟨by rw [HP.out] <;> rfl, hb2⟩
      · have hgd' : ctGood x.1 = false := by cases h : ctGood x.1 with | true => exact absurd h hgd | false => rfl
        rw [hgd'] at HG
        have HP : Hid (D = false) := Lib.hid (by rw [HD.out]; exact HNO.out (fun h => hgd h.1))
        clear hr hg hgr hb hq hgd hgd' HF hF HLI hx hre HNO
        generalize (encC x).toArray = X at HLY HG
        go_wp2_with (first
          | ((with_reducible refine wpList_loadV (op := ⟨some 13, _, _, _, _, _⟩) rfl 90 (.tmp 12) rfl _ ?_ _ HLY.out ?_); rfl)
          | (go_at_call 59; (with_reducible refine HG.out.mono ?_); rintro e1 w1 ⟨rfl, hb1⟩))
        go_ret
        exact ⟨by rw [HP.out] <;> rfl, HB.out.trans (hb1.mono HB.out.size)⟩
    · have HP : Hid (D = decide (n ≤ 64)) := Lib.hid (by
        rw [HD.out, HN.out]
        exact goodC_yes (fun q hq => HQ.out q hq (by have := HN.out; omega)))
      clear hb hq HQ
      by_cases h64 : n ≤ 64
      · rw [decide_eq_true h64] at HP
        have h64' : (n : Int) ≤ 64 := by omega
        go_wp2
        go_ret
        exact ⟨by rw [HP.out] <;> rfl, HB.out⟩
      · rw [decide_eq_false h64] at HP
        have h64' : ¬ (n : Int) ≤ 64 := by omega
        go_wp2
        go_ret
        exact ⟨by rw [HP.out] <;> rfl, HB.out⟩
end Go.Proofs.YtehgpnnfjgmiiaaGreat
end
section
namespace Go.Proofs.YtehgpnnfjgmiiaaGreat
open Go.Shelf Go.RowKit Go.Lib Go.Sort Go.Great
set_option maxRecDepth 100000
set_option maxHeartbeats 1000000
/-- What next tells. -/
def nxOk (s : St) : Prop := (takeV s 20).length = 20 ∧ (takeV (takeS s 20) 6).length = 6 ∧ getN ((takeV (takeS s 20) 6).take 4) ≠ 0 ∧ getN (((takeV (takeS s 20) 6).drop 4).take 2) ≠ 0
instance (s : St) : Decidable (nxOk s) := by unfold nxOk; exact inferInstance
def nxC (s : St) : Con := if h : nxOk s then ⟨(takeV s 20, getN ((takeV (takeS s 20) 6).take 4), getN (((takeV (takeS s 20) 6).drop 4).take 2)), ⟨h.1, getN_lt' _ 4 (by rw [List.length_take]; omega), getN_lt' _ 2 (by rw [List.length_take]; omega)⟩⟩ else default
def nxS (s : St) : St := takeS (takeS s 20) 6
theorem takeV_len (s : St) (n : Nat) : (takeV s n).length = n ∨ takeV s n = [] := by
  unfold takeV
  split
  · rename_i h
    left
    have := h.2.2
    rw [List.length_take]
    simp only [Int.toNat_natCast]
    omega
  · exact .inr rfl
end Go.Proofs.YtehgpnnfjgmiiaaGreat
end
