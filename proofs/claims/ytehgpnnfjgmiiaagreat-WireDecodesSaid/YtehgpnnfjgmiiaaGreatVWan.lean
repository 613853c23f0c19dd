/- Reply of the program. No condition. Same of the program, Reply. Conditions: at most 10,000 contacts and instances. Same of the reference. Conditions: at most 10,000 contacts and instances. Encode of the reference. Conditions: at most 10,000 contacts and instances, targets of at most 100,000 bytes. Encode of the reference, whole. Conditions: at most 10,000 contacts and instances, targets of at most 100,000 bytes. The walk of WireEncodes. Conditions: what Light says. -/
import Derived.Test.YtehgpnnfjgmiiaaGreatVWaa
import Derived.Test.YtehgpnnfjgmiiaaGreatVIie
import Derived.Test.YtehgpnnfjgmiiaaGreatVNCra
import Derived.Test.YtehgpnnfjgmiiaaGreatVWaq
import Derived.Test.YtehgpnnfjgmiiaaGreatVObc
import Derived.Test.YtehgpnnfjgmiiaaGreatVObd
import Derived.Test.YtehgpnnfjgmiiaaGreatVIia
import Derived.Test.YtehgpnnfjgmiiaaGreatVWah
import Derived.Test.YtehgpnnfjgmiiaaGreatVWaf
import Derived.Test.YtehgpnnfjgmiiaaGreatVWau
import Derived.Test.YtehgpnnfjgmiiaaGreatVOja
section
namespace Go.Proofs.YtehgpnnfjgmiiaaGreat
open Go.Shelf Go.RowKit Go.Lib Go.Great
set_option maxRecDepth 100000
set_option maxHeartbeats 1000000
/-- The message that answers another one. -/
def replyM (m : Msg) (k : Int) (hk : -9223372036854775808 ≤ k ∧ k ≤ 9223372036854775807) (f : List UInt8) (hf : f.length = 20) : Msg := ⟨k, m.txn, f, m.key, .slice none 0 0, .slice none 0 0, hk, m.ht, hf, m.hy, rfl, rfl⟩
end Go.Proofs.YtehgpnnfjgmiiaaGreat
end
section
namespace Go.Proofs.YtehgpnnfjgmiiaaGreat
open Go.Shelf Go.RowKit Go.Lib Go.Great
set_option maxRecDepth 100000
set_option maxHeartbeats 1000000
def sameM (m n : Msg) (L L' : List Con) (R R' : List Ins) : Bool := (m.kind == n.kind) && ((m.txn == n.txn) && ((m.frm == n.frm) && ((m.key == n.key) && (sameC L L' && sameR R R'))))
/-- Two boxes with messages, and what the two lists answer. -/
structure SamK (w : World) (X Y : Array Value) (k k' : Int) (t t' : Nat) (F F' D D' : Array Value) (bf bd : Bool) (A A' B B' : Option Addr) (n n' c c' r r' d d' : Nat) (C S : Bool) (E : World → Prop) : Prop where
  k1 : ∀ W, E W → W.cell? ⟨w.heap.size, 0, none⟩ = some (.int .i64 k) ∧ W.cell? ⟨w.heap.size + 1, 0, none⟩ = some (.int .i64 k')
  t1 : ∀ W, E W → W.cell? ⟨w.heap.size, 1, none⟩ = some (.int .u32 (t : Int)) ∧ W.cell? ⟨w.heap.size + 1, 1, none⟩ = some (.int .u32 (t' : Int))
  f1 : ∀ W, E W → (loadVar 24 ⟨w.heap.size, 2, none⟩).run Tryz.prog W = .ok (.agg F) W
  f2 : ∀ W, E W → (loadVar 24 ⟨w.heap.size + 1, 2, none⟩).run Tryz.prog W = .ok (.agg F') W
  d1 : ∀ W, E W → (loadVar 24 ⟨w.heap.size, 22, none⟩).run Tryz.prog W = .ok (.agg D) W
  d2 : ∀ W, E W → (loadVar 24 ⟨w.heap.size + 1, 22, none⟩).run Tryz.prog W = .ok (.agg D') W
  c1 : ∀ W, E W → W.cell? ⟨w.heap.size, 42, none⟩ = some (.slice A n c) ∧ W.cell? ⟨w.heap.size + 1, 42, none⟩ = some (.slice A' n' c')
  r1 : ∀ W, E W → W.cell? ⟨w.heap.size, 43, none⟩ = some (.slice B r d) ∧ W.cell? ⟨w.heap.size + 1, 43, none⟩ = some (.slice B' r' d')
  ef : ∀ W, (Op.equalIn 10000 24 (.agg F) (.agg F')).run Tryz.prog W = .ok bf W
  ed : ∀ W, (Op.equalIn 10000 24 (.agg D) (.agg D')).run Tryz.prog W = .ok bd W
  c36 : ∀ W, E W → Calls Tryz.prog 36 #[.slice A n c, .slice A' n' c'] W fun e w' => e = .returned (.bool C) ∧ E w'
  c37 : ∀ W, E W → Calls Tryz.prog 37 #[.slice B r d, .slice B' r' d'] W fun e w' => e = .returned (.bool S) ∧ E w'
  c38 : ∀ W, E W → Calls Tryz.prog 38 #[.slice B r d, .slice B' r' d'] W fun e w' => e = .returned (.bool S) ∧ E w'
  st : E ((w.alloc (.cells X 28)).alloc (.cells Y 28))
  be : ∀ W, E W → Below w.heap.size w W
section
variable {w : World} {X Y : Array Value} {k k' : Int} {t t' : Nat} {F F' D D' : Array Value} {bf bd : Bool} {A A' B B' : Option Addr} {n n' c c' r r' d d' : Nat} {C S : Bool} {E : World → Prop}
end
/-- The class of worlds behind two boxes. -/
def TwoE (w : World) (m n : Msg) (W : World) : Prop := Below (w.heap.size + 2) ((w.alloc (.cells (encM m).toArray 28)).alloc (.cells (encM n).toArray 28)) W
theorem samK (m n : Msg) (L L' : List Con) (R R' : List Ins) (w : World) (hc : ConV w m.vc L) (hr : InsV w m.vr R) (hc' : ConV w n.vc L') (hr' : InsV w n.vr R') (hL : L.length ≤ 10000) (hR : R.length ≤ 10000) :
    ∃ A A' B B' c c' d d', m.vc = .slice A L.length c ∧ n.vc = .slice A' L'.length c' ∧ CAt w w.heap.size A L ∧ CAt w w.heap.size A' L' ∧ SamK w (encM m).toArray (encM n).toArray m.kind n.kind m.txn n.txn (bcells m.frm).toArray (bcells n.frm).toArray (bcells m.key).toArray (bcells n.key).toArray (m.frm == n.frm) (m.key == n.key) A A' B B' L.length L'.length c c' R.length R'.length d d' (sameC L L') (sameR R R') (TwoE w m n) := by
  obtain ⟨A, c, hv, hA, _⟩ := id hc
  obtain ⟨A', c', hv', hA', _⟩ := id hc'
  obtain ⟨B, d, hu, hB⟩ := id hr
  obtain ⟨B', d', hu', hB'⟩ := id hr'
  obtain ⟨h1, h2, hb⟩ := heap2 w (.cells (encM m).toArray 28) (.cells (encM n).toArray 28)
  have sz : ((w.alloc (.cells (encM m).toArray 28)).alloc (.cells (encM n).toArray 28)).heap.size = w.heap.size + 2 := by simp
  have hbe : ∀ W, TwoE w m n W → Below w.heap.size w W := fun W hW => hb.trans (hW.mono (by omega))
  have hsz : ∀ W, TwoE w m n W → w.heap.size + 2 ≤ W.heap.size := fun W hW => by have := hW.size; omega
  have f1 : ∀ W, TwoE w m n W → FldM W w.heap.size m := fun W hW => fldM_below h1 hW (by omega)
  have f2 : ∀ W, TwoE w m n W → FldM W (w.heap.size + 1) n := fun W hW => fldM_below h2 hW (by omega)
  refine ⟨A, A', B, B', c, c', d, d', hv, hv', hA, hA', fun W e => ⟨(f1 W e).kind, (f2 W e).kind⟩, fun W e => ⟨(f1 W e).txn, (f2 W e).txn⟩, fun W e => (f1 W e).frm, fun W e => (f2 W e).frm, fun W e => (f1 W e).key, fun W e => (f2 W e).key, fun W e => ⟨by rw [← hv]; exact (f1 W e).con, by rw [← hv']; exact (f2 W e).con⟩, fun W e => ⟨by rw [← hu]; exact (f1 W e).ros, by rw [← hu']; exact (f2 W e).ros⟩, fun W => eq23 _ _ m.hf n.hf W 9998, fun W => eq23 _ _ m.hy n.hy W 9998, ?_, ?_, ?_, Below.refl _ _, hbe⟩
  · intro W hW
    refine (ceq_any A A' c c' L L' W hL ((hA.below (hbe W hW)).more (hbe W hW).size) ((hA'.below (hbe W hW)).more (hbe W hW).size)).mono ?_
    rintro e w' ⟨rfl, h⟩
    exact ⟨rfl, hW.trans (h.mono (hsz W hW))⟩
  · intro W hW
    refine (same_any B B' d d' R R' W hR ((hB.below (hbe W hW)).more (hbe W hW).size) ((hB'.below (hbe W hW)).more (hbe W hW).size)).mono ?_
    rintro e w' ⟨rfl, h⟩
    exact ⟨rfl, hW.trans (h.mono (hsz W hW))⟩
  · intro W hW
    refine (rsame_any B B' d d' R R' W hR ((hB.below (hbe W hW)).more (hbe W hW).size) ((hB'.below (hbe W hW)).more (hbe W hW).size)).mono ?_
    rintro e w' ⟨rfl, h⟩
    exact ⟨rfl, hW.trans (h.mono (hsz W hW))⟩
end Go.Proofs.YtehgpnnfjgmiiaaGreat
end
section
namespace Go.Proofs.YtehgpnnfjgmiiaaGreat
open Go.Shelf Go.RowKit Go.Lib Go.Great
set_option maxRecDepth 100000
set_option maxHeartbeats 1000000
section
variable {w : World} {X Y : Array Value} {k k' : Int} {t t' : Nat} {F F' D D' : Array Value} {bf bd : Bool} {A A' B B' : Option Addr} {n n' c c' r r' d d' : Nat} {C S : Bool} {E : World → Prop}
theorem rsam1 (hk : ¬ k = k') (K : SamK w X Y k k' t t' F F' D D' bf bd A A' B B' n n' c c' r r' d d' C S E) : Calls Tryz.prog 18 #[.agg X, .agg Y] w fun e w' => e = .returned (.bool false) ∧ Below w.heap.size w w' := by
  have bk := bneT hk
  have HB := Lib.hid K.be
  have ST := Lib.hid K.st
  have q0 := (K.k1 _ K.st).1
  have q1 := (K.k1 _ K.st).2
  have q2 := (K.t1 _ K.st).1
  have q3 := (K.t1 _ K.st).2
  have q4 := (K.c1 _ K.st).1
  have q5 := (K.c1 _ K.st).2
  have HF1 := Lib.hid (K.f1 _ K.st)
  have HF2 := Lib.hid (K.f2 _ K.st)
  have HD1 := Lib.hid (K.d1 _ K.st)
  have HD2 := Lib.hid (K.d2 _ K.st)
  have HR := Lib.hid K.r1
  have H38 := Lib.hid K.c38
  have HCC := Lib.hid K.c1
  have ef := K.ef
  have ed := K.ed
  clear K
  go_enter Tryz.func18, Tryz.ntmps18
  go_wp2_with (first
    | ((with_reducible refine wpList_loadG (o := ⟨some 20, _, _, _, _, _⟩) rfl 24 (.tmp 19) rfl _ ?_ _ HF1.out ?_); rfl)
    | ((with_reducible refine wpList_loadG (o := ⟨some 22, _, _, _, _, _⟩) rfl 24 (.tmp 21) rfl _ ?_ _ HF2.out ?_); rfl)
    | ((with_reducible refine wpList_loadG (o := ⟨some 27, _, _, _, _, _⟩) rfl 24 (.tmp 26) rfl _ ?_ _ HD1.out ?_); rfl)
    | ((with_reducible refine wpList_loadG (o := ⟨some 29, _, _, _, _, _⟩) rfl 24 (.tmp 28) rfl _ ?_ _ HD2.out ?_); rfl))
  go_ret
  exact ⟨rfl, HB.out _ ST.out⟩
theorem rsam2 (ht : ¬ t = t') (K : SamK w X Y k k t t' F F' D D' bf bd A A' B B' n n' c c' r r' d d' C S E) : Calls Tryz.prog 18 #[.agg X, .agg Y] w fun e w' => e = .returned (.bool false) ∧ Below w.heap.size w w' := by
  have bt := bneT (show ¬ (t : Int) = (t' : Int) by omega)
  have HB := Lib.hid K.be
  have ST := Lib.hid K.st
  have q0 := (K.k1 _ K.st).1
  have q1 := (K.k1 _ K.st).2
  have q2 := (K.t1 _ K.st).1
  have q3 := (K.t1 _ K.st).2
  have q4 := (K.c1 _ K.st).1
  have q5 := (K.c1 _ K.st).2
  have HF1 := Lib.hid (K.f1 _ K.st)
  have HF2 := Lib.hid (K.f2 _ K.st)
  have HD1 := Lib.hid (K.d1 _ K.st)
  have HD2 := Lib.hid (K.d2 _ K.st)
  have HR := Lib.hid K.r1
  have H38 := Lib.hid K.c38
  have HCC := Lib.hid K.c1
  have ef := K.ef
  have ed := K.ed
  clear K
  go_enter Tryz.func18, Tryz.ntmps18
  go_wp2_with (first
    | ((with_reducible refine wpList_loadG (o := ⟨some 20, _, _, _, _, _⟩) rfl 24 (.tmp 19) rfl _ ?_ _ HF1.out ?_); rfl)
    | ((with_reducible refine wpList_loadG (o := ⟨some 22, _, _, _, _, _⟩) rfl 24 (.tmp 21) rfl _ ?_ _ HF2.out ?_); rfl)
    | ((with_reducible refine wpList_loadG (o := ⟨some 27, _, _, _, _, _⟩) rfl 24 (.tmp 26) rfl _ ?_ _ HD1.out ?_); rfl)
    | ((with_reducible refine wpList_loadG (o := ⟨some 29, _, _, _, _, _⟩) rfl 24 (.tmp 28) rfl _ ?_ _ HD2.out ?_); rfl))
  go_ret
  exact ⟨rfl, HB.out _ ST.out⟩
theorem rsam3 (K : SamK w X Y k k t t F F' D D' false bd A A' B B' n n' c c' r r' d d' C S E) : Calls Tryz.prog 18 #[.agg X, .agg Y] w fun e w' => e = .returned (.bool false) ∧ Below w.heap.size w w' := by
  have HB := Lib.hid K.be
  have ST := Lib.hid K.st
  have q0 := (K.k1 _ K.st).1
  have q1 := (K.k1 _ K.st).2
  have q2 := (K.t1 _ K.st).1
  have q3 := (K.t1 _ K.st).2
  have q4 := (K.c1 _ K.st).1
  have q5 := (K.c1 _ K.st).2
  have HF1 := Lib.hid (K.f1 _ K.st)
  have HF2 := Lib.hid (K.f2 _ K.st)
  have HD1 := Lib.hid (K.d1 _ K.st)
  have HD2 := Lib.hid (K.d2 _ K.st)
  have HR := Lib.hid K.r1
  have H38 := Lib.hid K.c38
  have HCC := Lib.hid K.c1
  have ef := K.ef
  have ed := K.ed
  clear K
  go_enter Tryz.func18, Tryz.ntmps18
  go_wp2_with (first
    | ((with_reducible refine wpList_loadG (o := ⟨some 20, _, _, _, _, _⟩) rfl 24 (.tmp 19) rfl _ ?_ _ HF1.out ?_); rfl)
    | ((with_reducible refine wpList_loadG (o := ⟨some 22, _, _, _, _, _⟩) rfl 24 (.tmp 21) rfl _ ?_ _ HF2.out ?_); rfl)
    | ((with_reducible refine wpList_loadG (o := ⟨some 27, _, _, _, _, _⟩) rfl 24 (.tmp 26) rfl _ ?_ _ HD1.out ?_); rfl)
    | ((with_reducible refine wpList_loadG (o := ⟨some 29, _, _, _, _, _⟩) rfl 24 (.tmp 28) rfl _ ?_ _ HD2.out ?_); rfl))
  go_ret
  exact ⟨rfl, HB.out _ ST.out⟩
theorem rsam4 (K : SamK w X Y k k t t F F' D D' true false A A' B B' n n' c c' r r' d d' C S E) : Calls Tryz.prog 18 #[.agg X, .agg Y] w fun e w' => e = .returned (.bool false) ∧ Below w.heap.size w w' := by
  have HB := Lib.hid K.be
  have ST := Lib.hid K.st
  have q0 := (K.k1 _ K.st).1
  have q1 := (K.k1 _ K.st).2
  have q2 := (K.t1 _ K.st).1
  have q3 := (K.t1 _ K.st).2
  have q4 := (K.c1 _ K.st).1
  have q5 := (K.c1 _ K.st).2
  have HF1 := Lib.hid (K.f1 _ K.st)
  have HF2 := Lib.hid (K.f2 _ K.st)
  have HD1 := Lib.hid (K.d1 _ K.st)
  have HD2 := Lib.hid (K.d2 _ K.st)
  have HR := Lib.hid K.r1
  have H38 := Lib.hid K.c38
  have HCC := Lib.hid K.c1
  have ef := K.ef
  have ed := K.ed
  clear K
  go_enter Tryz.func18, Tryz.ntmps18
  go_wp2_with (first
    | ((with_reducible refine wpList_loadG (o := ⟨some 20, _, _, _, _, _⟩) rfl 24 (.tmp 19) rfl _ ?_ _ HF1.out ?_); rfl)
    | ((with_reducible refine wpList_loadG (o := ⟨some 22, _, _, _, _, _⟩) rfl 24 (.tmp 21) rfl _ ?_ _ HF2.out ?_); rfl)
    | ((with_reducible refine wpList_loadG (o := ⟨some 27, _, _, _, _, _⟩) rfl 24 (.tmp 26) rfl _ ?_ _ HD1.out ?_); rfl)
    | ((with_reducible refine wpList_loadG (o := ⟨some 29, _, _, _, _, _⟩) rfl 24 (.tmp 28) rfl _ ?_ _ HD2.out ?_); rfl))
  go_ret
  exact ⟨rfl, HB.out _ ST.out⟩
theorem rsam5 (hn : ¬ n = n') (K : SamK w X Y k k t t F F' D D' true true A A' B B' n n' c c' r r' d d' C S E) : Calls Tryz.prog 18 #[.agg X, .agg Y] w fun e w' => e = .returned (.bool false) ∧ Below w.heap.size w w' := by
  have bn := bneT (show ¬ (n : Int) = (n' : Int) by omega)
  have HB := Lib.hid K.be
  have ST := Lib.hid K.st
  have q0 := (K.k1 _ K.st).1
  have q1 := (K.k1 _ K.st).2
  have q2 := (K.t1 _ K.st).1
  have q3 := (K.t1 _ K.st).2
  have q4 := (K.c1 _ K.st).1
  have q5 := (K.c1 _ K.st).2
  have HF1 := Lib.hid (K.f1 _ K.st)
  have HF2 := Lib.hid (K.f2 _ K.st)
  have HD1 := Lib.hid (K.d1 _ K.st)
  have HD2 := Lib.hid (K.d2 _ K.st)
  have HR := Lib.hid K.r1
  have H38 := Lib.hid K.c38
  have HCC := Lib.hid K.c1
  have ef := K.ef
  have ed := K.ed
  clear K
  go_enter Tryz.func18, Tryz.ntmps18
  go_wp2_with (first
    | ((with_reducible refine wpList_loadG (o := ⟨some 20, _, _, _, _, _⟩) rfl 24 (.tmp 19) rfl _ ?_ _ HF1.out ?_); rfl)
    | ((with_reducible refine wpList_loadG (o := ⟨some 22, _, _, _, _, _⟩) rfl 24 (.tmp 21) rfl _ ?_ _ HF2.out ?_); rfl)
    | ((with_reducible refine wpList_loadG (o := ⟨some 27, _, _, _, _, _⟩) rfl 24 (.tmp 26) rfl _ ?_ _ HD1.out ?_); rfl)
    | ((with_reducible refine wpList_loadG (o := ⟨some 29, _, _, _, _, _⟩) rfl 24 (.tmp 28) rfl _ ?_ _ HD2.out ?_); rfl))
  go_ret
  exact ⟨rfl, HB.out _ ST.out⟩
theorem rsam0 (K : SamK w X Y k k t t F F' D D' true true A A' B B' 0 0 c c' r r' d d' C S E) : Calls Tryz.prog 18 #[.agg X, .agg Y] w fun e w' => e = .returned (.bool S) ∧ Below w.heap.size w w' := by
  have HB := Lib.hid K.be
  have ST := Lib.hid K.st
  have q0 := (K.k1 _ K.st).1
  have q1 := (K.k1 _ K.st).2
  have q2 := (K.t1 _ K.st).1
  have q3 := (K.t1 _ K.st).2
  have q4 := (K.c1 _ K.st).1
  have q5 := (K.c1 _ K.st).2
  have HF1 := Lib.hid (K.f1 _ K.st)
  have HF2 := Lib.hid (K.f2 _ K.st)
  have HD1 := Lib.hid (K.d1 _ K.st)
  have HD2 := Lib.hid (K.d2 _ K.st)
  have HR := Lib.hid K.r1
  have H38 := Lib.hid K.c38
  have HCC := Lib.hid K.c1
  have ef := K.ef
  have ed := K.ed
  clear K
  go_enter Tryz.func18, Tryz.ntmps18
  go_wp2_with (first
    | ((with_reducible refine wpList_loadG (o := ⟨some 20, _, _, _, _, _⟩) rfl 24 (.tmp 19) rfl _ ?_ _ HF1.out ?_); rfl)
    | ((with_reducible refine wpList_loadG (o := ⟨some 22, _, _, _, _, _⟩) rfl 24 (.tmp 21) rfl _ ?_ _ HF2.out ?_); rfl)
    | ((with_reducible refine wpList_loadG (o := ⟨some 27, _, _, _, _, _⟩) rfl 24 (.tmp 26) rfl _ ?_ _ HD1.out ?_); rfl)
    | ((with_reducible refine wpList_loadG (o := ⟨some 29, _, _, _, _, _⟩) rfl 24 (.tmp 28) rfl _ ?_ _ HD2.out ?_); rfl))
  go_loopg [5] 0 (fun _ s wr => s = .int .i64 0 ∧ E wr)
  case atStart => exact ⟨rfl, ST.out⟩
  case round =>
    obtain ⟨rfl, e1⟩ := hrel
    obtain ⟨p4, p5⟩ := HCC.out _ e1
    obtain ⟨p6, p7⟩ := HR.out _ e1
    go_wp2_with (go_at_call 38; (with_reducible refine (H38.out _ e1).mono ?_); rintro e w2 ⟨rfl, e2⟩)
    go_ret
    exact ⟨rfl, HB.out _ e2⟩
theorem rsam6 (L L' : List Con) (g1 o1 g2 o2 : Nat) (hL : L.length = n) (hL' : L'.length = n) (hn : n ≤ 10000) (hg1 : g1 < w.heap.size) (hr1 : w.rangeAt g1 o1 (flatE encC L)) (hg2 : g2 < w.heap.size) (hr2 : w.rangeAt g2 o2 (flatE encC L'))
    (hE : E = fun W => Below (w.heap.size + 2) ((w.alloc (.cells X 28)).alloc (.cells Y 28)) W)
    (K : SamK w X Y k k t t F F' D D' true true (some ⟨g1, o1, none⟩) (some ⟨g2, o2, none⟩) B B' n n c c' r r' d d' C S E) : Calls Tryz.prog 18 #[.agg X, .agg Y] w fun e w' => e = .returned (.bool (sameC L L' && S)) ∧ Below w.heap.size w w' := by
  have HL1 : Hid (∀ j, j < n → ∀ W, Below w.heap.size w W → (loadVar 63 ⟨g1, o1 + j * 22, none⟩).run Tryz.prog W = .ok (.agg (encC L[j]!).toArray) W) := Lib.hid (fun j hj W hW => rowC_load hr1 hg1 hW (by omega))
  have HL2 : Hid (∀ j, j < n → ∀ W, Below w.heap.size w W → (loadVar 63 ⟨g2, o2 + j * 22, none⟩).run Tryz.prog W = .ok (.agg (encC L'[j]!).toArray) W) := Lib.hid (fun j hj W hW => rowC_load hr2 hg2 hW (by omega))
  have HT : Hid ((∀ j, j < n → eqC L[j]! L'[j]! = true) → sameC L L' = true) := Lib.hid (fun h => by
    unfold sameC
    rw [Bool.and_eq_true, decide_eq_true_eq, List.all_eq_true]
    exact ⟨by omega, fun j hj => h j (by rw [List.mem_range] at hj; omega)⟩)
  have HF : Hid (∀ j, j < n → eqC L[j]! L'[j]! = false → sameC L L' = false) := Lib.hid (fun j hj h => by
    cases hs : sameC L L' with
    | false => rfl
    | true => rw [(sameC_iff L L').1 hs, eqCc_self] at h; cases h)
  generalize sameC L L' = rr at *
  have HEK : Hid (∀ q : Kept (w.heap.size + 2) ((w.alloc (.cells X 28)).alloc (.cells Y 28)), E q.val) := Lib.hid (fun q => by rw [hE]; exact q.property)
  have HKE : Hid (∀ W, E W → Below (w.heap.size + 2) ((w.alloc (.cells X 28)).alloc (.cells Y 28)) W) := Lib.hid (fun W h => by rw [hE] at h; exact h)
  clear hr1 hr2 hE hg1 hg2
  have HB := Lib.hid K.be
  have ST := Lib.hid K.st
  have q0 := (K.k1 _ K.st).1
  have q1 := (K.k1 _ K.st).2
  have q2 := (K.t1 _ K.st).1
  have q3 := (K.t1 _ K.st).2
  have q4 := (K.c1 _ K.st).1
  have q5 := (K.c1 _ K.st).2
  have HF1 := Lib.hid (K.f1 _ K.st)
  have HF2 := Lib.hid (K.f2 _ K.st)
  have HD1 := Lib.hid (K.d1 _ K.st)
  have HD2 := Lib.hid (K.d2 _ K.st)
  have HR := Lib.hid K.r1
  have H38 := Lib.hid K.c38
  have HCC := Lib.hid K.c1
  have ef := K.ef
  have ed := K.ed
  clear K
  go_enter Tryz.func18, Tryz.ntmps18
  go_wp2_with (first
    | ((with_reducible refine wpList_loadG (o := ⟨some 20, _, _, _, _, _⟩) rfl 24 (.tmp 19) rfl _ ?_ _ HF1.out ?_); rfl)
    | ((with_reducible refine wpList_loadG (o := ⟨some 22, _, _, _, _, _⟩) rfl 24 (.tmp 21) rfl _ ?_ _ HF2.out ?_); rfl)
    | ((with_reducible refine wpList_loadG (o := ⟨some 27, _, _, _, _, _⟩) rfl 24 (.tmp 26) rfl _ ?_ _ HD1.out ?_); rfl)
    | ((with_reducible refine wpList_loadG (o := ⟨some 29, _, _, _, _, _⟩) rfl 24 (.tmp 28) rfl _ ?_ _ HD2.out ?_); rfl))
  go_loopw [5] (fun i wr => ∃ j : Nat, i = .int .i64 (j : Int) ∧ j ≤ n ∧ (∀ z, z < j → eqC L[z]! L'[z]! = true) ∧ E wr) (fun i _ => n - (RowKit.intOf i).toNat)
  case atStart => exact ⟨0, rfl, by omega, fun z hz => by omega, ST.out⟩
  case round =>
    obtain ⟨j, rfl, hj, hF, ew⟩ := hrel
    have HD := Lib.hid hF
    obtain ⟨p4, p5⟩ := HCC.out _ ew
    clear hF q0 q1 q2 q3 q4 q5 HF1 HF2 HD1 HD2 ef ed
    by_cases hlt : j < n
    · have hlt' : (j : Int) < (n : Int) := by omega
      have EW := Lib.hid ew
      have HQ1 : Hid (∀ q : Kept (w.heap.size + 2) ((w.alloc (.cells X 28)).alloc (.cells Y 28)), (loadVar 63 ⟨g1, o1 + j * 22, none⟩).run Tryz.prog q.val = .ok (.agg (encC L[j]!).toArray) q.val) := Lib.hid (fun q => HL1.out j hlt _ (HB.out _ (HEK.out q)))
      have HQ2 : Hid (∀ q : Kept (w.heap.size + 2) ((w.alloc (.cells X 28)).alloc (.cells Y 28)), (loadVar 63 ⟨g2, o2 + j * 22, none⟩).run Tryz.prog q.val = .ok (.agg (encC L'[j]!).toArray) q.val) := Lib.hid (fun q => HL2.out j hlt _ (HB.out _ (HEK.out q)))
      have HC1 : Hid (∀ q : Kept (w.heap.size + 2) ((w.alloc (.cells X 28)).alloc (.cells Y 28)), q.val.cell? ⟨w.heap.size, 42, none⟩ = some (.slice (some ⟨g1, o1, none⟩) n c)) := Lib.hid (fun q => (HCC.out _ (HEK.out q)).1)
      have HC2 : Hid (∀ q : Kept (w.heap.size + 2) ((w.alloc (.cells X 28)).alloc (.cells Y 28)), q.val.cell? ⟨w.heap.size + 1, 42, none⟩ = some (.slice (some ⟨g2, o2, none⟩) n c')) := Lib.hid (fun q => (HCC.out _ (HEK.out q)).2)
      have he := fun W => eqCon60 L[j]! L'[j]! W
      have HNX : Hid (eqC L[j]! L'[j]! = true → ∀ wx, E wx → ∃ z' : Nat, Value.int .i64 ((j : Int) + 1) = .int .i64 (z' : Int) ∧ z' ≤ n ∧ (∀ z, z < z' → eqC L[z]! L'[z]! = true) ∧ E wx) := Lib.hid (fun h wx hx => ⟨j + 1, by simp, by omega, fun z hz => by
        by_cases e : z = j
        · subst e; exact h
        · exact HD.out z (by omega), hx⟩)
      have HRF := Lib.hid (HF.out j hlt)
      have HEB := Lib.hid (HKE.out _ ew)
      clear HT HF HD HL1 HL2 ew
      cases hq : eqC L[j]! L'[j]! with
      | false =>
        rw [hq] at he
        have HRR : Hid (rr = false) := Lib.hid (HRF.out hq)
        clear HRF HNX hq
        generalize (encC L[j]!).toArray = X1 at *
        generalize (encC L'[j]!).toArray = Y1 at *
        go_upto_region 6 with fail
        refine wp_region_kept (w.heap.size + 2) ((w.alloc (.cells X 28)).alloc (.cells Y 28)) HEB.out (by kernel_rfl) (by kernel_rfl) ?_
        have hc1 := HC1.out
        have hc2 := HC2.out
        repeat (first
          | (go_big_quiet_want; (with_reducible refine quiet_loadV 63 (.tmp 51) rfl _ ?_ _ HQ1.out ?_); rfl; simp only [Act.put, List.setIfInBounds_toArray, List.set_cons_zero, List.set_cons_succ]; go_big_quiet_on)
          | (go_big_quiet_want; (with_reducible refine quiet_loadV 63 (.tmp 56) rfl _ ?_ _ HQ2.out ?_); rfl; simp only [Act.put, List.setIfInBounds_toArray, List.set_cons_zero, List.set_cons_succ]; go_big_quiet_on)
          | go_big_quiet_step (fail))
        refine wpQuiet_nil ?_
        rintro wk ⟨⟨_, hwk⟩, rfl⟩
        have HBW := Lib.hid (HB.out _ (HEK.out ⟨_, hwk⟩))
        go_wp2
        go_ret
        exact ⟨by rw [HRR.out]; rfl, HBW.out⟩
      | true =>
        rw [hq] at he
        have HNY := Lib.hid (HNX.out hq)
        clear HRF HNX hq
        generalize (encC L[j]!).toArray = X1 at *
        generalize (encC L'[j]!).toArray = Y1 at *
        go_upto_region 6 with fail
        refine wp_region_kept (w.heap.size + 2) ((w.alloc (.cells X 28)).alloc (.cells Y 28)) HEB.out (by kernel_rfl) (by kernel_rfl) ?_
        have hc1 := HC1.out
        have hc2 := HC2.out
        repeat (first
          | (go_big_quiet_want; (with_reducible refine quiet_loadV 63 (.tmp 51) rfl _ ?_ _ HQ1.out ?_); rfl; simp only [Act.put, List.setIfInBounds_toArray, List.set_cons_zero, List.set_cons_succ]; go_big_quiet_on)
          | (go_big_quiet_want; (with_reducible refine quiet_loadV 63 (.tmp 56) rfl _ ?_ _ HQ2.out ?_); rfl; simp only [Act.put, List.setIfInBounds_toArray, List.set_cons_zero, List.set_cons_succ]; go_big_quiet_on)
          | go_big_quiet_step (fail))
        refine wpQuiet_nil ?_
        rintro wk ⟨⟨_, hwk⟩, rfl⟩
        have HBW := Lib.hid (HNY.out _ (HEK.out ⟨_, hwk⟩))
        go_wp2
        go_roundw
        case rel => exact HBW.out
        case measure => simp [RowKit.intOf]; omega
    · have hlt' : ¬ (j : Int) < (n : Int) := by omega
      have HRT : Hid (rr = true) := Lib.hid (HT.out (fun z hz => HD.out z (by omega)))
      obtain ⟨p6, p7⟩ := HR.out _ ew
      clear HT HF HD HL1 HL2
      go_wp2_with (go_at_call 38; (with_reducible refine (H38.out _ ew).mono ?_); rintro e w2 ⟨rfl, e2⟩)
      go_ret
      exact ⟨by rw [HRT.out]; rfl, HB.out _ e2⟩
end
theorem mrsame_any (m n : Msg) (L L' : List Con) (R R' : List Ins) (w : World) (hc : ConV w m.vc L) (hr : InsV w m.vr R) (hc' : ConV w n.vc L') (hr' : InsV w n.vr R') (hL : L.length ≤ 10000) (hR : R.length ≤ 10000) : Calls Tryz.prog 18 #[.agg (encM m).toArray, .agg (encM n).toArray] w fun e w' => e = .returned (.bool (sameM m n L L' R R')) ∧ Below w.heap.size w w' := by
  obtain ⟨A, A', B, B', c, c', d, d', _, _, hA, hA', K⟩ := samK m n L L' R R' w hc hr hc' hr' hL hR
  unfold sameM
  by_cases hk : m.kind = n.kind
  · rw [show (m.kind == n.kind) = true by simpa using hk, Bool.true_and]
    rw [← hk] at K
    by_cases ht : m.txn = n.txn
    · rw [show (m.txn == n.txn) = true by simpa using ht, Bool.true_and]
      rw [← ht] at K
      cases hf : (m.frm == n.frm) with
      | false => rw [hf] at K; rw [Bool.false_and]; exact rsam3 K
      | true =>
        rw [hf] at K
        cases hd : (m.key == n.key) with
        | false => rw [hd] at K; rw [Bool.false_and, Bool.and_false]; exact rsam4 K
        | true =>
          rw [hd] at K
          rw [Bool.true_and, Bool.true_and]
          by_cases hn : L.length = L'.length
          · rcases hA with h0 | ⟨g1, o1, rfl, hg1, hr1⟩
            · have h1 : L' = [] := List.eq_nil_of_length_eq_zero (by rw [← hn, h0]; rfl)
              subst h0 h1
              rw [show sameC [] [] = true from (sameC_iff [] []).2 rfl, Bool.true_and]
              exact rsam0 K
            · rcases hA' with h1 | ⟨g2, o2, rfl, hg2, hr2⟩
              · have h0 : L = [] := List.eq_nil_of_length_eq_zero (by rw [hn, h1]; rfl)
                subst h0 h1
                rw [show sameC [] [] = true from (sameC_iff [] []).2 rfl, Bool.true_and]
                exact rsam0 K
              · rw [← hn] at K
                exact rsam6 L L' g1 o1 g2 o2 rfl hn.symm hL hg1 hr1 hg2 hr2 rfl K
          · rw [show sameC L L' = false by unfold sameC; rw [decide_eq_false hn, Bool.false_and], Bool.false_and]
            exact rsam5 hn K
    · rw [show (m.txn == n.txn) = false by simpa using ht, Bool.false_and]
      exact rsam2 ht K
  · rw [show (m.kind == n.kind) = false by simpa using hk, Bool.false_and]
    exact rsam1 hk K
end Go.Proofs.YtehgpnnfjgmiiaaGreat
end
section
namespace Go.Proofs.YtehgpnnfjgmiiaaGreat
open Go.Shelf Go.RowKit Go.Lib Go.Great
set_option maxRecDepth 100000
set_option maxHeartbeats 2000000
/-- What a good message's encoding asks of the calls. -/
structure RenK (w : World) (m : Msg) (kN : Nat) (ky ls : Bool) (V1 V2 : Value) (T : List UInt8) : Prop where
  kind : m.kind = (kN : Int)
  k9 : kN ≤ 9
  c12 : ∀ W, EncW w m W → Calls Tryz.prog 12 #[.agg (encM m).toArray] W fun e W' => e = .returned (.bool true) ∧ EncW w m W'
  c27 : ∀ W, Calls Tryz.prog 27 #[.int .i64 (kN : Int)] W fun e w' => e = .returned (.bool ky) ∧ w' = W
  c30 : ∀ W, Calls Tryz.prog 30 #[.int .i64 (kN : Int)] W fun e w' => e = .returned (.bool ls) ∧ w' = W
  v1 : m.vc = V1
  v2 : m.vr = V2
  tl : T.length ≤ 90000
end Go.Proofs.YtehgpnnfjgmiiaaGreat
end
section
namespace Go.Proofs.YtehgpnnfjgmiiaaGreat
open Go.Shelf Go.RowKit Go.Lib Go.Great
set_option maxRecDepth 100000
set_option maxHeartbeats 2000000
end Go.Proofs.YtehgpnnfjgmiiaaGreat
end
section
namespace Go.Proofs.YtehgpnnfjgmiiaaGreat
open Go.Shelf Go.RowKit Go.Lib Go.Great
set_option maxRecDepth 100000
set_option maxHeartbeats 2000000
/-- Two messages in their boxes. -/
structure TwoK (w W2 : World) (m n : Msg) (X Y : Array Value) (L L' : List Con) (R R' : List Ins) : Prop where
  w2 : W2 = (w.alloc (.cells X 28)).alloc (.cells Y 28)
  x : X = (encM m).toArray
  y : Y = (encM n).toArray
  c1 : ConV w m.vc L
  c2 : ConV w n.vc L'
  i1 : InsV w m.vr R
  i2 : InsV w n.vr R'
theorem TwoK.b {w W2 : World} {m n : Msg} {X Y : Array Value} {L L' : List Con} {R R' : List Ins} (K : TwoK w W2 m n X Y L L' R R') : Below w.heap.size w W2 ∧ W2.heap.size = w.heap.size + 2 := by
  obtain ⟨_, _, hb⟩ := heap2 w (.cells X 28) (.cells Y 28)
  rw [K.w2]
  exact ⟨hb, by simp⟩
theorem TwoK.bel {w W2 W : World} {m n : Msg} {X Y : Array Value} {L L' : List Con} {R R' : List Ins} (K : TwoK w W2 m n X Y L L' R R') (hW : Below (w.heap.size + 2) W2 W) : Below w.heap.size w W ∧ w.heap.size + 2 ≤ W.heap.size := by
  have := hW.size
  have h := K.b
  exact ⟨h.1.trans (hW.mono (by omega)), by omega⟩
theorem TwoK.f1 {w W2 W : World} {m n : Msg} {X Y : Array Value} {L L' : List Con} {R R' : List Ins} (K : TwoK w W2 m n X Y L L' R R') (hW : Below (w.heap.size + 2) W2 W) : FldM W w.heap.size m := by
  obtain ⟨h1, _, _⟩ := heap2 w (.cells X 28) (.cells Y 28)
  rw [← K.w2, K.x] at h1
  exact fldM_below h1 hW (by omega)
theorem TwoK.f2 {w W2 W : World} {m n : Msg} {X Y : Array Value} {L L' : List Con} {R R' : List Ins} (K : TwoK w W2 m n X Y L L' R R') (hW : Below (w.heap.size + 2) W2 W) : FldM W (w.heap.size + 1) n := by
  obtain ⟨_, h2, _⟩ := heap2 w (.cells X 28) (.cells Y 28)
  rw [← K.w2, K.y] at h2
  exact fldM_below h2 hW (by omega)
end Go.Proofs.YtehgpnnfjgmiiaaGreat
end
