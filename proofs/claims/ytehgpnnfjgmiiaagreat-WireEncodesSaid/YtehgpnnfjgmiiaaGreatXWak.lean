/- Same of the program, Reply. Conditions: at most 10,000 contacts and instances. -/
import Derived.Test.YtehgpnnfjgmiiaaGreatXWaa
import Derived.Test.YtehgpnnfjgmiiaaGreatXWab
import Derived.Test.YtehgpnnfjgmiiaaGreatXOgb
namespace Go.Proofs.YtehgpnnfjgmiiaaGreat
open Go.Shelf Go.RowKit Go.Lib Go.Great
set_option maxRecDepth 100000
set_option maxHeartbeats 1000000
def sameM (m n : Msg) (L L' : List Con) (R R' : List Ins) : Bool := (m.kind == n.kind) && ((m.txn == n.txn) && ((m.frm == n.frm) && ((m.key == n.key) && (sameC L L' && sameR R R'))))
/-- Two boxes with messages, and what the two lists answer. -/
structure SamK (w : World) (X Y : Array Value) (k k' : Int) (t t' : Nat) (F F' D D' : Array Value) (bf bd : Bool) (A A' B B' : Option Addr) (n n' c c' r r' d d' : Nat) (C S : Bool) (E : World → Prop) : Prop where
  k1 : ∀ W, E W → W.cell? ⟨w.heap.size, 0, none⟩ = some (.int .i64 k) ∧ W.cell? ⟨w.heap.size + 1, 0, none⟩ = some (.int .i64 k')
  t1 : ∀ W, E W → W.cell? ⟨w.heap.size, 1, none⟩ = some (.int .u32 (t : Int)) ∧ W.cell? ⟨w.heap.size + 1, 1, none⟩ = some (.int .u32 (t' : Int))
  f1 : ∀ W, E W → (loadVar 24 ⟨w.heap.size, 2, none⟩).run Tryz.prog W = .ok (.agg F) W
  f2 : ∀ W, E W → (loadVar 24 ⟨w.heap.size + 1, 2, none⟩).run Tryz.prog W = .ok (.agg F') W
  d1 : ∀ W, E W → (loadVar 24 ⟨w.heap.size, 22, none⟩).run Tryz.prog W = .ok (.agg D) W
  d2 : ∀ W, E W → (loadVar 24 ⟨w.heap.size + 1, 22, none⟩).run Tryz.prog W = .ok (.agg D') W
  c1 : ∀ W, E W → W.cell? ⟨w.heap.size, 42, none⟩ = some (.slice A n c) ∧ W.cell? ⟨w.heap.size + 1, 42, none⟩ = some (.slice A' n' c')
  r1 : ∀ W, E W → W.cell? ⟨w.heap.size, 43, none⟩ = some (.slice B r d) ∧ W.cell? ⟨w.heap.size + 1, 43, none⟩ = some (.slice B' r' d')
  ef : ∀ W, (Op.equalIn 10000 24 (.agg F) (.agg F')).run Tryz.prog W = .ok bf W
  ed : ∀ W, (Op.equalIn 10000 24 (.agg D) (.agg D')).run Tryz.prog W = .ok bd W
  c36 : ∀ W, E W → Calls Tryz.prog 36 #[.slice A n c, .slice A' n' c'] W fun e w' => e = .returned (.bool C) ∧ E w'
  c37 : ∀ W, E W → Calls Tryz.prog 37 #[.slice B r d, .slice B' r' d'] W fun e w' => e = .returned (.bool S) ∧ E w'
  c38 : ∀ W, E W → Calls Tryz.prog 38 #[.slice B r d, .slice B' r' d'] W fun e w' => e = .returned (.bool S) ∧ E w'
  st : E ((w.alloc (.cells X 28)).alloc (.cells Y 28))
  be : ∀ W, E W → Below w.heap.size w W
section
variable {w : World} {X Y : Array Value} {k k' : Int} {t t' : Nat} {F F' D D' : Array Value} {bf bd : Bool} {A A' B B' : Option Addr} {n n' c c' r r' d d' : Nat} {C S : Bool} {E : World → Prop}
theorem sam1 (hk : ¬ k = k') (K : SamK w X Y k k' t t' F F' D D' bf bd A A' B B' n n' c c' r r' d d' C S E) : Calls Tryz.prog 17 #[.agg X, .agg Y] w fun e w' => e = .returned (.bool false) ∧ Below w.heap.size w w' := by
  have bk := beqF hk
  have HB := Lib.hid K.be
  have ST := Lib.hid K.st
  have q0 := (K.k1 _ K.st).1
  have q1 := (K.k1 _ K.st).2
  have q2 := (K.t1 _ K.st).1
  have q3 := (K.t1 _ K.st).2
  have q4 := (K.c1 _ K.st).1
  have q5 := (K.c1 _ K.st).2
  have HF1 := Lib.hid (K.f1 _ K.st)
  have HF2 := Lib.hid (K.f2 _ K.st)
  have HD1 := Lib.hid (K.d1 _ K.st)
  have HD2 := Lib.hid (K.d2 _ K.st)
  have HR := Lib.hid K.r1
  have H36 := Lib.hid K.c36
  have H37 := Lib.hid K.c37
  have ef := K.ef
  have ed := K.ed
  clear K
  go_enter Tryz.func17, Tryz.ntmps17
  go_wp2_with (first
    | ((with_reducible refine wpList_loadG (o := ⟨some 19, _, _, _, _, _⟩) rfl 24 (.tmp 18) rfl _ ?_ _ HF1.out ?_); rfl)
    | ((with_reducible refine wpList_loadG (o := ⟨some 21, _, _, _, _, _⟩) rfl 24 (.tmp 20) rfl _ ?_ _ HF2.out ?_); rfl)
    | ((with_reducible refine wpList_loadG (o := ⟨some 26, _, _, _, _, _⟩) rfl 24 (.tmp 25) rfl _ ?_ _ HD1.out ?_); rfl)
    | ((with_reducible refine wpList_loadG (o := ⟨some 28, _, _, _, _, _⟩) rfl 24 (.tmp 27) rfl _ ?_ _ HD2.out ?_); rfl)
    | (go_at_call 36; (with_reducible refine (H36.out _ ST.out).mono ?_); rintro e w1 ⟨rfl, e1⟩; obtain ⟨q6, q7⟩ := HR.out _ e1)
    | (go_at_call 37; (with_reducible refine (H37.out _ e1).mono ?_); rintro e w2 ⟨rfl, e2⟩))
  go_ret
  exact ⟨rfl, HB.out _ ST.out⟩
theorem sam2 (ht : ¬ t = t') (K : SamK w X Y k k t t' F F' D D' bf bd A A' B B' n n' c c' r r' d d' C S E) : Calls Tryz.prog 17 #[.agg X, .agg Y] w fun e w' => e = .returned (.bool false) ∧ Below w.heap.size w w' := by
  have bt := beqF (show ¬ (t : Int) = (t' : Int) by omega)
  have HB := Lib.hid K.be
  have ST := Lib.hid K.st
  have q0 := (K.k1 _ K.st).1
  have q1 := (K.k1 _ K.st).2
  have q2 := (K.t1 _ K.st).1
  have q3 := (K.t1 _ K.st).2
  have q4 := (K.c1 _ K.st).1
  have q5 := (K.c1 _ K.st).2
  have HF1 := Lib.hid (K.f1 _ K.st)
  have HF2 := Lib.hid (K.f2 _ K.st)
  have HD1 := Lib.hid (K.d1 _ K.st)
  have HD2 := Lib.hid (K.d2 _ K.st)
  have HR := Lib.hid K.r1
  have H36 := Lib.hid K.c36
  have H37 := Lib.hid K.c37
  have ef := K.ef
  have ed := K.ed
  clear K
  go_enter Tryz.func17, Tryz.ntmps17
  go_wp2_with (first
    | ((with_reducible refine wpList_loadG (o := ⟨some 19, _, _, _, _, _⟩) rfl 24 (.tmp 18) rfl _ ?_ _ HF1.out ?_); rfl)
    | ((with_reducible refine wpList_loadG (o := ⟨some 21, _, _, _, _, _⟩) rfl 24 (.tmp 20) rfl _ ?_ _ HF2.out ?_); rfl)
    | ((with_reducible refine wpList_loadG (o := ⟨some 26, _, _, _, _, _⟩) rfl 24 (.tmp 25) rfl _ ?_ _ HD1.out ?_); rfl)
    | ((with_reducible refine wpList_loadG (o := ⟨some 28, _, _, _, _, _⟩) rfl 24 (.tmp 27) rfl _ ?_ _ HD2.out ?_); rfl)
    | (go_at_call 36; (with_reducible refine (H36.out _ ST.out).mono ?_); rintro e w1 ⟨rfl, e1⟩; obtain ⟨q6, q7⟩ := HR.out _ e1)
    | (go_at_call 37; (with_reducible refine (H37.out _ e1).mono ?_); rintro e w2 ⟨rfl, e2⟩))
  go_ret
  exact ⟨rfl, HB.out _ ST.out⟩
theorem sam3 (K : SamK w X Y k k t t F F' D D' false bd A A' B B' n n' c c' r r' d d' C S E) : Calls Tryz.prog 17 #[.agg X, .agg Y] w fun e w' => e = .returned (.bool false) ∧ Below w.heap.size w w' := by
  have HB := Lib.hid K.be
  have ST := Lib.hid K.st
  have q0 := (K.k1 _ K.st).1
  have q1 := (K.k1 _ K.st).2
  have q2 := (K.t1 _ K.st).1
  have q3 := (K.t1 _ K.st).2
  have q4 := (K.c1 _ K.st).1
  have q5 := (K.c1 _ K.st).2
  have HF1 := Lib.hid (K.f1 _ K.st)
  have HF2 := Lib.hid (K.f2 _ K.st)
  have HD1 := Lib.hid (K.d1 _ K.st)
  have HD2 := Lib.hid (K.d2 _ K.st)
  have HR := Lib.hid K.r1
  have H36 := Lib.hid K.c36
  have H37 := Lib.hid K.c37
  have ef := K.ef
  have ed := K.ed
  clear K
  go_enter Tryz.func17, Tryz.ntmps17
  go_wp2_with (first
    | ((with_reducible refine wpList_loadG (o := ⟨some 19, _, _, _, _, _⟩) rfl 24 (.tmp 18) rfl _ ?_ _ HF1.out ?_); rfl)
    | ((with_reducible refine wpList_loadG (o := ⟨some 21, _, _, _, _, _⟩) rfl 24 (.tmp 20) rfl _ ?_ _ HF2.out ?_); rfl)
    | ((with_reducible refine wpList_loadG (o := ⟨some 26, _, _, _, _, _⟩) rfl 24 (.tmp 25) rfl _ ?_ _ HD1.out ?_); rfl)
    | ((with_reducible refine wpList_loadG (o := ⟨some 28, _, _, _, _, _⟩) rfl 24 (.tmp 27) rfl _ ?_ _ HD2.out ?_); rfl)
    | (go_at_call 36; (with_reducible refine (H36.out _ ST.out).mono ?_); rintro e w1 ⟨rfl, e1⟩; obtain ⟨q6, q7⟩ := HR.out _ e1)
    | (go_at_call 37; (with_reducible refine (H37.out _ e1).mono ?_); rintro e w2 ⟨rfl, e2⟩))
  go_ret
  exact ⟨rfl, HB.out _ ST.out⟩
theorem sam4 (K : SamK w X Y k k t t F F' D D' true false A A' B B' n n' c c' r r' d d' C S E) : Calls Tryz.prog 17 #[.agg X, .agg Y] w fun e w' => e = .returned (.bool false) ∧ Below w.heap.size w w' := by
  have HB := Lib.hid K.be
  have ST := Lib.hid K.st
  have q0 := (K.k1 _ K.st).1
  have q1 := (K.k1 _ K.st).2
  have q2 := (K.t1 _ K.st).1
  have q3 := (K.t1 _ K.st).2
  have q4 := (K.c1 _ K.st).1
  have q5 := (K.c1 _ K.st).2
  have HF1 := Lib.hid (K.f1 _ K.st)
  have HF2 := Lib.hid (K.f2 _ K.st)
  have HD1 := Lib.hid (K.d1 _ K.st)
  have HD2 := Lib.hid (K.d2 _ K.st)
  have HR := Lib.hid K.r1
  have H36 := Lib.hid K.c36
  have H37 := Lib.hid K.c37
  have ef := K.ef
  have ed := K.ed
  clear K
  go_enter Tryz.func17, Tryz.ntmps17
  go_wp2_with (first
    | ((with_reducible refine wpList_loadG (o := ⟨some 19, _, _, _, _, _⟩) rfl 24 (.tmp 18) rfl _ ?_ _ HF1.out ?_); rfl)
    | ((with_reducible refine wpList_loadG (o := ⟨some 21, _, _, _, _, _⟩) rfl 24 (.tmp 20) rfl _ ?_ _ HF2.out ?_); rfl)
    | ((with_reducible refine wpList_loadG (o := ⟨some 26, _, _, _, _, _⟩) rfl 24 (.tmp 25) rfl _ ?_ _ HD1.out ?_); rfl)
    | ((with_reducible refine wpList_loadG (o := ⟨some 28, _, _, _, _, _⟩) rfl 24 (.tmp 27) rfl _ ?_ _ HD2.out ?_); rfl)
    | (go_at_call 36; (with_reducible refine (H36.out _ ST.out).mono ?_); rintro e w1 ⟨rfl, e1⟩; obtain ⟨q6, q7⟩ := HR.out _ e1)
    | (go_at_call 37; (with_reducible refine (H37.out _ e1).mono ?_); rintro e w2 ⟨rfl, e2⟩))
  go_ret
  exact ⟨rfl, HB.out _ ST.out⟩
theorem sam5 (K : SamK w X Y k k t t F F' D D' true true A A' B B' n n' c c' r r' d d' false S E) : Calls Tryz.prog 17 #[.agg X, .agg Y] w fun e w' => e = .returned (.bool false) ∧ Below w.heap.size w w' := by
  have HB := Lib.hid K.be
  have ST := Lib.hid K.st
  have q0 := (K.k1 _ K.st).1
  have q1 := (K.k1 _ K.st).2
  have q2 := (K.t1 _ K.st).1
  have q3 := (K.t1 _ K.st).2
  have q4 := (K.c1 _ K.st).1
  have q5 := (K.c1 _ K.st).2
  have HF1 := Lib.hid (K.f1 _ K.st)
  have HF2 := Lib.hid (K.f2 _ K.st)
  have HD1 := Lib.hid (K.d1 _ K.st)
  have HD2 := Lib.hid (K.d2 _ K.st)
  have HR := Lib.hid K.r1
  have H36 := Lib.hid K.c36
  have H37 := Lib.hid K.c37
  have ef := K.ef
  have ed := K.ed
  clear K
  go_enter Tryz.func17, Tryz.ntmps17
  go_wp2_with (first
    | ((with_reducible refine wpList_loadG (o := ⟨some 19, _, _, _, _, _⟩) rfl 24 (.tmp 18) rfl _ ?_ _ HF1.out ?_); rfl)
    | ((with_reducible refine wpList_loadG (o := ⟨some 21, _, _, _, _, _⟩) rfl 24 (.tmp 20) rfl _ ?_ _ HF2.out ?_); rfl)
    | ((with_reducible refine wpList_loadG (o := ⟨some 26, _, _, _, _, _⟩) rfl 24 (.tmp 25) rfl _ ?_ _ HD1.out ?_); rfl)
    | ((with_reducible refine wpList_loadG (o := ⟨some 28, _, _, _, _, _⟩) rfl 24 (.tmp 27) rfl _ ?_ _ HD2.out ?_); rfl)
    | (go_at_call 36; (with_reducible refine (H36.out _ ST.out).mono ?_); rintro e w1 ⟨rfl, e1⟩; obtain ⟨q6, q7⟩ := HR.out _ e1)
    | (go_at_call 37; (with_reducible refine (H37.out _ e1).mono ?_); rintro e w2 ⟨rfl, e2⟩))
  go_ret
  exact ⟨rfl, HB.out _ e1⟩
theorem sam6 (K : SamK w X Y k k t t F F' D D' true true A A' B B' n n' c c' r r' d d' true S E) : Calls Tryz.prog 17 #[.agg X, .agg Y] w fun e w' => e = .returned (.bool S) ∧ Below w.heap.size w w' := by
  have HB := Lib.hid K.be
  have ST := Lib.hid K.st
  have q0 := (K.k1 _ K.st).1
  have q1 := (K.k1 _ K.st).2
  have q2 := (K.t1 _ K.st).1
  have q3 := (K.t1 _ K.st).2
  have q4 := (K.c1 _ K.st).1
  have q5 := (K.c1 _ K.st).2
  have HF1 := Lib.hid (K.f1 _ K.st)
  have HF2 := Lib.hid (K.f2 _ K.st)
  have HD1 := Lib.hid (K.d1 _ K.st)
  have HD2 := Lib.hid (K.d2 _ K.st)
  have HR := Lib.hid K.r1
  have H36 := Lib.hid K.c36
  have H37 := Lib.hid K.c37
  have ef := K.ef
  have ed := K.ed
  clear K
  go_enter Tryz.func17, Tryz.ntmps17
  go_wp2_with (first
    | ((with_reducible refine wpList_loadG (o := ⟨some 19, _, _, _, _, _⟩) rfl 24 (.tmp 18) rfl _ ?_ _ HF1.out ?_); rfl)
    | ((with_reducible refine wpList_loadG (o := ⟨some 21, _, _, _, _, _⟩) rfl 24 (.tmp 20) rfl _ ?_ _ HF2.out ?_); rfl)
    | ((with_reducible refine wpList_loadG (o := ⟨some 26, _, _, _, _, _⟩) rfl 24 (.tmp 25) rfl _ ?_ _ HD1.out ?_); rfl)
    | ((with_reducible refine wpList_loadG (o := ⟨some 28, _, _, _, _, _⟩) rfl 24 (.tmp 27) rfl _ ?_ _ HD2.out ?_); rfl)
    | (go_at_call 36; (with_reducible refine (H36.out _ ST.out).mono ?_); rintro e w1 ⟨rfl, e1⟩; obtain ⟨q6, q7⟩ := HR.out _ e1)
    | (go_at_call 37; (with_reducible refine (H37.out _ e1).mono ?_); rintro e w2 ⟨rfl, e2⟩))
  go_ret
  exact ⟨rfl, HB.out _ e2⟩
theorem sam_case (K : SamK w X Y k k' t t' F F' D D' bf bd A A' B B' n n' c c' r r' d d' C S E) : Calls Tryz.prog 17 #[.agg X, .agg Y] w fun e w' => e = .returned (.bool ((k == k') && ((t == t') && (bf && (bd && (C && S)))))) ∧ Below w.heap.size w w' := by
  by_cases hk : k = k'
  · subst hk
    by_cases ht : t = t'
    · subst ht
      simp only [beq_self_eq_true, Bool.true_and]
      cases bf with
      | false => exact sam3 K
      | true =>
        cases bd with
        | false => exact sam4 K
        | true =>
          cases C with
          | false => exact sam5 K
          | true =>
            simp only [Bool.true_and]
            exact sam6 K
    · rw [show (t == t') = false by simpa using ht, Bool.false_and, Bool.and_false]
      exact sam2 ht K
  · rw [show (k == k') = false by simpa using hk, Bool.false_and]
    exact sam1 hk K
end
/-- The class of worlds behind two boxes. -/
def TwoE (w : World) (m n : Msg) (W : World) : Prop := Below (w.heap.size + 2) ((w.alloc (.cells (encM m).toArray 28)).alloc (.cells (encM n).toArray 28)) W
theorem samK (m n : Msg) (L L' : List Con) (R R' : List Ins) (w : World) (hc : ConV w m.vc L) (hr : InsV w m.vr R) (hc' : ConV w n.vc L') (hr' : InsV w n.vr R') (hL : L.length ≤ 10000) (hR : R.length ≤ 10000) :
    ∃ A A' B B' c c' d d', m.vc = .slice A L.length c ∧ n.vc = .slice A' L'.length c' ∧ CAt w w.heap.size A L ∧ CAt w w.heap.size A' L' ∧ SamK w (encM m).toArray (encM n).toArray m.kind n.kind m.txn n.txn (bcells m.frm).toArray (bcells n.frm).toArray (bcells m.key).toArray (bcells n.key).toArray (m.frm == n.frm) (m.key == n.key) A A' B B' L.length L'.length c c' R.length R'.length d d' (sameC L L') (sameR R R') (TwoE w m n) := by
  obtain ⟨A, c, hv, hA, _⟩ := id hc
  obtain ⟨A', c', hv', hA', _⟩ := id hc'
  obtain ⟨B, d, hu, hB⟩ := id hr
  obtain ⟨B', d', hu', hB'⟩ := id hr'
  obtain ⟨h1, h2, hb⟩ := heap2 w (.cells (encM m).toArray 28) (.cells (encM n).toArray 28)
  have sz : ((w.alloc (.cells (encM m).toArray 28)).alloc (.cells (encM n).toArray 28)).heap.size = w.heap.size + 2 := by simp
  have hbe : ∀ W, TwoE w m n W → Below w.heap.size w W := fun W hW => hb.trans (hW.mono (by omega))
  have hsz : ∀ W, TwoE w m n W → w.heap.size + 2 ≤ W.heap.size := fun W hW => by have := hW.size; omega
  have f1 : ∀ W, TwoE w m n W → FldM W w.heap.size m := fun W hW => fldM_below h1 hW (by omega)
  have f2 : ∀ W, TwoE w m n W → FldM W (w.heap.size + 1) n := fun W hW => fldM_below h2 hW (by omega)
  refine ⟨A, A', B, B', c, c', d, d', hv, hv', hA, hA', fun W e => ⟨(f1 W e).kind, (f2 W e).kind⟩, fun W e => ⟨(f1 W e).txn, (f2 W e).txn⟩, fun W e => (f1 W e).frm, fun W e => (f2 W e).frm, fun W e => (f1 W e).key, fun W e => (f2 W e).key, fun W e => ⟨by rw [← hv]; exact (f1 W e).con, by rw [← hv']; exact (f2 W e).con⟩, fun W e => ⟨by rw [← hu]; exact (f1 W e).ros, by rw [← hu']; exact (f2 W e).ros⟩, fun W => eq23 _ _ m.hf n.hf W 9998, fun W => eq23 _ _ m.hy n.hy W 9998, ?_, ?_, ?_, Below.refl _ _, hbe⟩
  · intro W hW
    refine (ceq_any A A' c c' L L' W hL ((hA.below (hbe W hW)).more (hbe W hW).size) ((hA'.below (hbe W hW)).more (hbe W hW).size)).mono ?_
    rintro e w' ⟨rfl, h⟩
    exact ⟨rfl, hW.trans (h.mono (hsz W hW))⟩
  · intro W hW
    refine (same_any B B' d d' R R' W hR ((hB.below (hbe W hW)).more (hbe W hW).size) ((hB'.below (hbe W hW)).more (hbe W hW).size)).mono ?_
    rintro e w' ⟨rfl, h⟩
    exact ⟨rfl, hW.trans (h.mono (hsz W hW))⟩
  · intro W hW
    refine (rsame_any B B' d d' R R' W hR ((hB.below (hbe W hW)).more (hbe W hW).size) ((hB'.below (hbe W hW)).more (hbe W hW).size)).mono ?_
    rintro e w' ⟨rfl, h⟩
    exact ⟨rfl, hW.trans (h.mono (hsz W hW))⟩
theorem msame_any (m n : Msg) (L L' : List Con) (R R' : List Ins) (w : World) (hc : ConV w m.vc L) (hr : InsV w m.vr R) (hc' : ConV w n.vc L') (hr' : InsV w n.vr R') (hL : L.length ≤ 10000) (hR : R.length ≤ 10000) : Calls Tryz.prog 17 #[.agg (encM m).toArray, .agg (encM n).toArray] w fun e w' => e = .returned (.bool (sameM m n L L' R R')) ∧ Below w.heap.size w w' := by
  obtain ⟨A, A', B, B', c, c', d, d', _, _, _, _, K⟩ := samK m n L L' R R' w hc hr hc' hr' hL hR
  exact sam_case K
end Go.Proofs.YtehgpnnfjgmiiaaGreat
