/- The walk of the statement ContactBack: it answers true. Conditions: the bytes ahead and behind are fewer than 2^47 each. ReadList of the reference. Conditions: at most 900,000 bytes. Plain and Back of the reference: contacts of one type as contacts of the other. Conditions: at most 10,000 contacts. Good of the reference. Conditions: at most 10,000 contacts and instances, targets of at most 100,000 bytes. What the reference's Decode goes through: a reader, the block of what is told, the message's block. No condition. The reference's Decode: steps, and what its end goes on from. No condition. The reference's Decode, walked (no key). No condition. The reference's Decode, walked (a key, no list). No condition. The reference's Decode, walked (contacts). No condition. The reference's Decode, walked (instances). No condition. Light, and listBytes of the program. Conditions: at most 10,000 contacts, targets of at most 100,000 bytes. -/
import Derived.Test.YtehgpnnfjgmiiaaGreatYOja
import Derived.Test.YtehgpnnfjgmiiaaGreatYOcb
import Derived.Test.YtehgpnnfjgmiiaaGreatYOga
import Derived.Test.YtehgpnnfjgmiiaaGreatYRIis
import Derived.Test.YtehgpnnfjgmiiaaGreatYRERefc
import Derived.Test.YtehgpnnfjgmiiaaGreatYRIip
import Derived.Test.YtehgpnnfjgmiiaaGreatYREOcta
import Derived.Test.YtehgpnnfjgmiiaaGreatYWau
import Derived.Test.YtehgpnnfjgmiiaaGreatYNCra
import Derived.Test.YtehgpnnfjgmiiaaGreatYWad
section
namespace Go.Proofs.YtehgpnnfjgmiiaaGreat
open Go.Shelf Go.RowKit Go.Lib Go.Sort Go.Great
set_option maxRecDepth 100000
set_option maxHeartbeats 2000000
section
variable {w W W' : World} {g : Nat} {s s' : St}
end
end Go.Proofs.YtehgpnnfjgmiiaaGreat
end
section
namespace Go.Proofs.YtehgpnnfjgmiiaaGreat
open Go.Shelf Go.RowKit Go.Lib Go.Sort Go.Great
set_option maxRecDepth 100000
set_option maxHeartbeats 1000000
section
variable {w w' : World} {h c B : Nat} {A : Option Addr} {xs : List UInt8} {s s' : St}
end
/-- While ReadList of the reference runs. -/
structure RLF (w1 : World) (h : Nat) (A : Option Addr) (c : Nat) (xs : List UInt8) (s : St) (u : Value) (L : List Con) (W : World) : Prop where
  own : W.ownsRow w1.heap.size 90 22 u L.length (flatE encC L)
  rd : RRB W h A c xs s w1.heap.size
  gr : w1.grownBy W (some h)
  hl : h < w1.heap.size
section
variable {w1 W W' : World} {h c : Nat} {A : Option Addr} {xs : List UInt8} {s s' : St} {u v : Value} {L M : List Con}
theorem RLF.bel (r : RLF w1 h A c xs s u L W) (hb : Below W.heap.size W W') : RLF w1 h A c xs s u L W' := ⟨own_belC r.own hb, r.rd.bel hb, grownBy_trans r.gr (grown_of_bel hb _), r.hl⟩
theorem RLF.read (r : RLF w1 h A c xs s u L W) (n : RRS W' h A c xs s') (hg : W.grownBy W' (some h)) : RLF w1 h A c xs s' u L W' := by
  refine ⟨r.own.kept hg ?_, r.rd.read n hg, grownBy_trans r.gr hg, r.hl⟩
  cases hk : u.ownBlock with
  | none => exact .inl rfl
  | some k =>
    right
    have := (r.own.lt k hk).1
    have := r.hl
    intro e
    injection e with e
    omega
end
def RrIs (w : World) (h : Nat) (A : Option Addr) (c : Nat) (xs : List UInt8) (s : St) (e : Ending) (w' : World) : Prop :=
  ∃ B k, e = .returned (.slice B (rlL s).length k) ∧ CAt w' w'.heap.size B (rlL s) ∧ RRS w' h A c xs (rlS s) ∧ w.grownBy w' (some h)
end Go.Proofs.YtehgpnnfjgmiiaaGreat
end
section
namespace Go.Proofs.YtehgpnnfjgmiiaaGreat
open Go.Shelf Go.RowKit Go.Lib Go.Great
set_option maxRecDepth 100000
set_option maxHeartbeats 2000000
end Go.Proofs.YtehgpnnfjgmiiaaGreat
end
section
namespace Go.Proofs.YtehgpnnfjgmiiaaGreat
open Go.Shelf Go.RowKit Go.Lib Go.Great
set_option maxRecDepth 100000
set_option maxHeartbeats 1000000
structure GooL (w : World) (X : Array Value) (k : Int) (Y : Array Value) (y : Bool) (A A' : Option Addr) (n c r c' : Nat) (G S : Bool) : Prop where
  q0 : ∀ W, Below (w.heap.size + 1) (w.alloc (.cells X 28)) W → W.cell? ⟨w.heap.size, 0, none⟩ = some (.int .i64 k)
  q1 : ∀ W, Below (w.heap.size + 1) (w.alloc (.cells X 28)) W → W.cell? ⟨w.heap.size, 42, none⟩ = some (.slice A n c)
  q2 : ∀ W, Below (w.heap.size + 1) (w.alloc (.cells X 28)) W → W.cell? ⟨w.heap.size, 43, none⟩ = some (.slice A' r c')
  hk : (loadVar 24 ⟨w.heap.size, 22, none⟩).run Tryz.prog (w.alloc (.cells X 28)) = .ok (.agg Y) (w.alloc (.cells X 28))
  he : ∀ W, (Op.equalIn 10000 24 (.agg Y) (.agg #[.int .u8 0, .int .u8 0, .int .u8 0, .int .u8 0, .int .u8 0, .int .u8 0, .int .u8 0, .int .u8 0, .int .u8 0, .int .u8 0, .int .u8 0, .int .u8 0, .int .u8 0, .int .u8 0, .int .u8 0, .int .u8 0, .int .u8 0, .int .u8 0, .int .u8 0, .int .u8 0])).run Tryz.prog W = .ok y W
  c29 : Calls Tryz.prog 29 #[.slice A n c] (w.alloc (.cells X 28)) fun e w' => ∃ v', e = .returned v' ∧ Calls Tryz.prog 34 #[v'] w' fun e w'' => e = .returned (.bool G) ∧ Below (w.heap.size + 1) (w.alloc (.cells X 28)) w''
  c35 : ∀ W, Below (w.heap.size + 1) (w.alloc (.cells X 28)) W → Calls Tryz.prog 35 #[.slice A' r c'] W fun e w' => e = .returned (.bool S) ∧ Below (w.heap.size + 1) (w.alloc (.cells X 28)) w'
  hb : Below w.heap.size w (w.alloc (.cells X 28))
section
variable {w : World} {X : Array Value} {Y : Array Value} {A A' : Option Addr} {n c r c' : Nat}
end
end Go.Proofs.YtehgpnnfjgmiiaaGreat
end
section
namespace Go.Proofs.YtehgpnnfjgmiiaaGreat
open Go.Shelf Go.RowKit Go.Lib Go.Great
set_option maxRecDepth 100000
set_option maxHeartbeats 2000000
structure RDV (w : World) (h : Nat) (A : Option Addr) (c : Nat) (xs : List UInt8) (s : St) (W : World) : Prop where
  rd : RRB W h A c xs s w.heap.size
  hr : W.heap[w.heap.size]? = some (.cells (encM zeroM).toArray 28 (0, 0))
  be : Below w.heap.size w W
  hh : h = w.heap.size + 1
section
variable {w W W' : World} {h c q : Nat} {A : Option Addr} {xs : List UInt8} {s s' : St} {cq cq' : List Value}
theorem RDV.lt (d : RDV w h A c xs s W) : w.heap.size < W.heap.size ∧ h < W.heap.size := ⟨(Array.getElem?_eq_some_iff.1 d.hr).1, d.rd.lt⟩
theorem RDV.read (d : RDV w h A c xs s W) (hs : RRS W' h A c xs s') (hg : W.grownBy W' (some h)) : RDV w h A c xs s' W' :=
  ⟨d.rd.read hs hg, (hg.block _ d.lt.1 (by intro e; injection e with e; have := d.hh; omega)).trans d.hr, below_ownB d.be d.be.size hg (fun k hk => by injection hk with hk; have := d.hh; omega), d.hh⟩
theorem RDV.bel (d : RDV w h A c xs s W) (hb : Below W.heap.size W W') : RDV w h A c xs s W' :=
  ⟨d.rd.bel hb, (hb.block _ d.lt.1).trans d.hr, d.be.trans (hb.mono d.be.size), d.hh⟩
theorem RDV.num (d : RDV w h A c xs s W) (k : Int) (hk : k ≤ 9223372036854775807) : Calls Tryz.prog 43 #[.pointer (some ⟨h, 0, none⟩), .int .i64 k] W fun e W' => e = .returned (.int .u64 (numV s k : Int)) ∧ RDV w h A c xs (numS s k) W' := by
  refine (rrnum_s d.rd.rs k hk).mono ?_
  rintro e W' ⟨rfl, hr, hg⟩
  exact ⟨rfl, d.read hr hg⟩
theorem RDV.fin (d : RDV w h A c xs s W) (cs : List Value) (hl : cs.length = 44) : W.there w.heap.size 0 44 ∧ (W.setCells w.heap.size 0 cs).rangeAt w.heap.size 0 cs ∧ Below w.heap.size w (W.setCells w.heap.size 0 cs) := by
  have ht := row_there d.hr
  rw [encM_length] at ht
  exact ⟨ht, World.rangeAt_setCells_same W _ 0 cs (by rw [hl]; exact ht), below_ownB d.be d.be.size (grown_sets W _ 0 cs) (fun k hk => by injection hk with hk; omega)⟩
end
/-- The message's block beside it. -/
structure RDW (w : World) (h : Nat) (A : Option Addr) (c : Nat) (xs : List UInt8) (q : Nat) (s : St) (cq : List Value) (W : World) : Prop where
  dv : RDV w h A c xs s W
  hq : W.heap[q]? = some (.cells cq.toArray 28 (0, 0))
  qh : h < q
section
variable {w W W' : World} {h c q : Nat} {A : Option Addr} {xs : List UInt8} {s s' : St} {cq cq' : List Value}
theorem RDW.lt (d : RDW w h A c xs q s cq W) : q < W.heap.size := (Array.getElem?_eq_some_iff.1 d.hq).1
theorem RDW.read (d : RDW w h A c xs q s cq W) (hs : RRS W' h A c xs s') (hg : W.grownBy W' (some h)) : RDW w h A c xs q s' cq W' :=
  ⟨d.dv.read hs hg, (hg.block _ d.lt (by intro e; injection e with e; have := d.qh; omega)).trans d.hq, d.qh⟩
theorem RDW.bel (d : RDW w h A c xs q s cq W) (hb : Below W.heap.size W W') : RDW w h A c xs q s cq W' :=
  ⟨d.dv.bel hb, (hb.block _ d.lt).trans d.hq, d.qh⟩
theorem RDW.put (d : RDW w h A c xs q s cq W) (hq : W'.heap[q]? = some (.cells cq'.toArray 28 (0, 0))) (hg : W.grownBy W' (some q)) : RDW w h A c xs q s cq' W' := by
  have h1 := d.qh
  have h2 := d.dv.hh
  refine ⟨⟨d.dv.rd.keep (hg.block h d.dv.lt.2 (by intro e; injection e with e; omega)) hg.size (fun i hi => hg.block i (by have := d.dv.lt.1; omega) (by intro e; injection e with e; omega)), (hg.block _ d.dv.lt.1 (by intro e; injection e with e; omega)).trans d.dv.hr, below_ownB d.dv.be d.dv.be.size hg (fun k hk => by injection hk with hk; omega), d.dv.hh⟩, hq, d.qh⟩
theorem RDW.set (d : RDW w h A c xs q s cq W) {j : Nat} {v : Value} (hq : (W.setCell ⟨q, j, none⟩ v).heap[q]? = some (.cells cq'.toArray 28 (0, 0))) : RDW w h A c xs q s cq' (W.setCell ⟨q, j, none⟩ v) := d.put hq (grown_set W q j v)
theorem RDW.cell (d : RDW w h A c xs q s cq W) {j : Nat} {v : Value} (hv : cq[j]? = some v) : W.cell? ⟨q, j, none⟩ = some v ∧ W.frozen? ⟨q, j, none⟩ = false := by
  refine ⟨?_, frozen_of_row _ _ _ _ _ d.hq⟩
  rw [cell_of_row _ _ j _ 28 (0, 0) d.hq, List.getElem?_toArray]
  exact hv
theorem RDW.take (d : RDW w h A c xs q s cq W) (k : Int) (hk : k ≤ 9223372036854775807) : Calls Tryz.prog 44 #[.pointer (some ⟨h, 0, none⟩), .int .i64 k] W fun e W' => ∃ A' c', e = .returned (.slice A' (takeV s k).length c') ∧ RDW w h A c xs q (takeS s k) cq W' ∧ BAt W' W'.heap.size A' (takeV s k) := by
  refine (rrtake_s d.dv.rd.rs k hk).mono ?_
  rintro e W' ⟨v, rfl, ho, hr, hg⟩
  obtain ⟨A', c', rfl, hA, _⟩ := own_bat ho
  exact ⟨A', c', rfl, d.read hr hg, hA⟩
theorem RDW.num (d : RDW w h A c xs q s cq W) (k : Int) (hk : k ≤ 9223372036854775807) : Calls Tryz.prog 43 #[.pointer (some ⟨h, 0, none⟩), .int .i64 k] W fun e W' => e = .returned (.int .u64 (numV s k : Int)) ∧ RDW w h A c xs q (numS s k) cq W' := by
  refine (rrnum_s d.dv.rd.rs k hk).mono ?_
  rintro e W' ⟨rfl, hr, hg⟩
  exact ⟨rfl, d.read hr hg⟩
end
end Go.Proofs.YtehgpnnfjgmiiaaGreat
end
section
namespace Go.Proofs.YtehgpnnfjgmiiaaGreat
open Go.Shelf Go.RowKit Go.Lib Go.Great
set_option maxRecDepth 100000
set_option maxHeartbeats 2000000

theorem run_loadVar_row {W : World} {q : Nat} {cs : List Value} (h : W.heap[q]? = some (.cells cs.toArray 28 (0, 0))) (hl : cs.length = 44) : (loadVar 28 ⟨q, 0, none⟩).run Tryz.prog W = .ok (.agg cs.toArray) W :=
  run_loadVar_mid _ q 0 28 _ _ (row_range h) Tryz.underlying28 rfl (by rw [hl]; exact size28m)
/-- A value that is a slice. -/
def SlV (v : Value) : Prop := ∃ A n c, v = .slice A n c
theorem conV_keep {W W' : World} {q : Nat} {v : Value} {L : List Con} (h : ConV W v L) (hq : ∀ j n, W.cell? ⟨q, j, none⟩ ≠ some (.int .u16 n)) (hg : W.grownBy W' (some q)) : ConV W' v L := by
  obtain ⟨A, c, rfl, hA, hA2⟩ := h
  refine ⟨A, c, rfl, ?_, hA2⟩
  rcases hA with h0 | ⟨b, o, rfl, hb, hr⟩
  · exact .inl h0
  · cases L with
    | nil => exact .inl rfl
    | cons x L =>
      have hne : b ≠ q := by
        rintro rfl
        have hx : (flatE encC (x :: L))[21]? = some (.int .u16 (x.1.2.2 : Int)) := by
          show (encC x ++ flatE encC L)[21]? = _
          rw [List.getElem?_append_left (by rw [encC_length]; omega)]
          unfold encC
          rw [List.getElem?_append_right (by rw [bcells_length, x.2.id]; omega), bcells_length, x.2.id]
          rfl
        exact hq _ _ (hr 21 _ hx)
      exact .inr ⟨b, o, rfl, Nat.lt_of_lt_of_le hb hg.size, range_grown hr hb hg hne⟩
theorem insV_keep {W W' : World} {q : Nat} {v : Value} {L : List Ins} (h : InsV W v L) (hq : ∀ j n, W.cell? ⟨q, j, none⟩ ≠ some (.int .u16 n)) (hg : W.grownBy W' (some q)) : InsV W' v L := by
  obtain ⟨A, c, rfl, hA⟩ := h
  refine ⟨A, c, rfl, ?_⟩
  rcases hA with h0 | ⟨b, o, rfl, hb, hr⟩
  · exact .inl h0
  · cases L with
    | nil => exact .inl rfl
    | cons x L =>
      have hne : b ≠ q := by
        rintro rfl
        have hx : (flatE encI (x :: L))[24]? = some (.int .u16 (x.pri : Int)) := by
          show (encI x ++ flatE encI L)[24]? = _
          rw [List.getElem?_append_left (by rw [encI_length]; omega), encR_enc]
          unfold encR
          rw [List.getElem?_append_right (by rw [bcells_length, x.hp]; omega), bcells_length, x.hp]
          rfl
        exact hq _ _ (hr 24 _ hx)
      exact .inr ⟨b, o, rfl, Nat.lt_of_lt_of_le hb hg.size, range_grown hr hb hg hne⟩
theorem IsM.keep {W W' : World} {q : Nat} {m : Msg} {C : Cnt} (h : IsM W m C) (hq : ∀ j n, W.cell? ⟨q, j, none⟩ ≠ some (.int .u16 n)) (hg : W.grownBy W' (some q)) : IsM W' m C := ⟨h.1, h.2.1, h.2.2.1, h.2.2.2.1, conV_keep h.2.2.2.2.1 hq hg, insV_keep h.2.2.2.2.2 hq hg⟩
/-- What the end of the reference's Decode goes on from. -/
structure RTail (w : World) (h q : Nat) (WE : World) (m : Msg) (dn : Int) (gd : Bool) (C : Cnt) : Prop where
  dnC : Calls Tryz.prog 48 #[.pointer (some ⟨h, 0, none⟩)] WE fun e w' => e = .returned (.int .i64 dn) ∧ Below WE.heap.size WE w'
  ld : ∀ W, Below WE.heap.size WE W → (loadVar 28 ⟨q, 0, none⟩).run Tryz.prog W = .ok (.agg (encM m).toArray) W
  gdC : ∀ W, Below WE.heap.size WE W → Calls Tryz.prog 12 #[.agg (encM m).toArray] W fun e w' => e = .returned (.bool gd) ∧ Below WE.heap.size WE w'
  fz : ∀ W, Below WE.heap.size WE W → W.there w.heap.size 0 44 ∧ (W.setCells w.heap.size 0 (encM zeroM)).rangeAt w.heap.size 0 (encM zeroM) ∧ Below w.heap.size w (W.setCells w.heap.size 0 (encM zeroM))
  fm : ∀ W, Below WE.heap.size WE W → W.there w.heap.size 0 44 ∧ (W.setCells w.heap.size 0 (encM m)).rangeAt w.heap.size 0 (encM m) ∧ Below w.heap.size w (W.setCells w.heap.size 0 (encM m)) ∧ IsM (W.setCells w.heap.size 0 (encM m)) m C
/-- The first steps. -/
structure RdK (w : World) (A : Option Addr) (c : Nat) (xs : List UInt8) (v v1 t2 : Nat) (V1 F V2 Y : List UInt8) (s0 s1 s2 s3 s4 s5 : St) : Prop where
  hF : F.length = 20
  hY : Y.length = 20
  d0 : RDV w (w.heap.size + 1) A c xs s0 ((w.alloc (.cells (encM zeroM).toArray 28)).alloc (.cells #[.slice A xs.length c, .int .i64 0, .bool false] 72))
  c1 : ∀ W, RDV w (w.heap.size + 1) A c xs s0 W → Calls Tryz.prog 43 #[.pointer (some ⟨w.heap.size + 1, 0, none⟩), .int .i64 1] W fun e W' => e = .returned (.int .u64 (v : Int)) ∧ RDV w (w.heap.size + 1) A c xs s1 W'
  c2 : ∀ W, RDV w (w.heap.size + 1) A c xs s1 W → Calls Tryz.prog 43 #[.pointer (some ⟨w.heap.size + 1, 0, none⟩), .int .i64 1] W fun e W' => e = .returned (.int .u64 (v1 : Int)) ∧ RDV w (w.heap.size + 1) A c xs s2 W'
  c3 : ∀ W q cq, RDW w (w.heap.size + 1) A c xs q s2 cq W → Calls Tryz.prog 43 #[.pointer (some ⟨w.heap.size + 1, 0, none⟩), .int .i64 4] W fun e W' => e = .returned (.int .u64 (t2 : Int)) ∧ RDW w (w.heap.size + 1) A c xs q s3 cq W'
  c4 : ∀ W q cq, RDW w (w.heap.size + 1) A c xs q s3 cq W → Calls Tryz.prog 44 #[.pointer (some ⟨w.heap.size + 1, 0, none⟩), .int .i64 20] W fun e W' => ∃ A' c', e = .returned (.slice A' V1.length c') ∧ RDW w (w.heap.size + 1) A c xs q s4 cq W' ∧ BAt W' W'.heap.size A' V1
  c5 : ∀ W q cq, RDW w (w.heap.size + 1) A c xs q s4 cq W → Calls Tryz.prog 44 #[.pointer (some ⟨w.heap.size + 1, 0, none⟩), .int .i64 20] W fun e W' => ∃ A' c', e = .returned (.slice A' V2.length c') ∧ RDW w (w.heap.size + 1) A c xs q s5 cq W' ∧ BAt W' W'.heap.size A' V2
  m4 : ∀ k t vc vr, splice (encMr k t zero20 zero20 vc vr) 2 (bcells V1) = encMr k t F zero20 vc vr
  m5 : ∀ k t vc vr, splice (encMr k t F zero20 vc vr) 22 (bcells V2) = encMr k t F Y vc vr
  l1 : V1.length = 20 ∨ V1 = []
  l2 : V2.length = 20 ∨ V2 = []
  vl : v < 256
  v1l : v1 < 256
  t2l : t2 < 4294967296
end Go.Proofs.YtehgpnnfjgmiiaaGreat
end
section
namespace Go.Proofs.YtehgpnnfjgmiiaaGreat
open Go.Shelf Go.RowKit Go.Lib Go.Great
set_option maxRecDepth 100000
set_option maxHeartbeats 2000000
end Go.Proofs.YtehgpnnfjgmiiaaGreat
end
section
namespace Go.Proofs.YtehgpnnfjgmiiaaGreat
open Go.Shelf Go.RowKit Go.Lib Go.Great
set_option maxRecDepth 100000
set_option maxHeartbeats 2000000
end Go.Proofs.YtehgpnnfjgmiiaaGreat
end
section
namespace Go.Proofs.YtehgpnnfjgmiiaaGreat
open Go.Shelf Go.RowKit Go.Lib Go.Great
set_option maxRecDepth 100000
set_option maxHeartbeats 2000000
end Go.Proofs.YtehgpnnfjgmiiaaGreat
end
section
namespace Go.Proofs.YtehgpnnfjgmiiaaGreat
open Go.Shelf Go.RowKit Go.Lib Go.Great
set_option maxRecDepth 100000
set_option maxHeartbeats 2000000
end Go.Proofs.YtehgpnnfjgmiiaaGreat
end
section
namespace Go.Proofs.YtehgpnnfjgmiiaaGreat
open Go.Shelf Go.RowKit Go.Lib Go.Great
set_option maxRecDepth 100000
set_option maxHeartbeats 1000000
def lightM (L : List Con) (R : List Ins) : Bool := decide (L.length ≤ 80) && lightR R
theorem mlight_any (m : Msg) (L : List Con) (R : List Ins) (w : World) (hc : ConV w m.vc L) (hr : InsV w m.vr R) (hR : R.length ≤ 9223372036854775807) : Calls Tryz.prog 6 #[.agg (encM m).toArray] w fun e w' => e = .returned (.bool (lightM L R)) ∧ Below w.heap.size w w' := by
  have hb : Below w.heap.size w (w.alloc (.cells (encM m).toArray 28)) := (Below.refl _ w).alloc (Nat.le_refl _) _
  obtain ⟨A, c, hv, _, _⟩ := hc
  have hr1 := hr.below hb
  obtain ⟨A', c', hv', hA'⟩ := hr1
  have F := fldM (heap_alloc_new w (.cells (encM m).toArray 28))
  have q1 := F.con
  have q2 := F.ros
  rw [hv] at q1
  rw [hv'] at q2
  have H21 : Hid (Calls Tryz.prog 21 #[.slice A' R.length c'] (w.alloc (.cells (encM m).toArray 28)) fun e w' => e = .returned (.bool (lightR R)) ∧ Below w.heap.size w w') := Lib.hid ((light_any A' c' R _ hR hA').mono (by
    rintro e w' ⟨rfl, h⟩
    exact ⟨rfl, hb.trans (h.mono (by simp))⟩))
  have HB := Lib.hid hb
  unfold lightM
  clear hb hA' hv hv' F hr
  generalize (encM m).toArray = X at *
  generalize lightR R = S at *
  generalize L.length = n at *
  by_cases hn : n ≤ 80
  · have hn' : (n : Int) ≤ 80 := by omega
    rw [decide_eq_true hn, Bool.true_and]
    go_enter Tryz.func6, Tryz.ntmps6
    go_wp2_with (go_at_call 21; (with_reducible refine H21.out.mono ?_); rintro e w1 ⟨rfl, hb1⟩)
    go_ret
    exact ⟨rfl, hb1⟩
  · have hn' : ¬ (n : Int) ≤ 80 := by omega
    rw [decide_eq_false hn, Bool.false_and]
    go_enter Tryz.func6, Tryz.ntmps6
    go_wp2_with (go_at_call 21; (with_reducible refine H21.out.mono ?_); rintro e w1 ⟨rfl, hb1⟩)
    go_ret
    exact ⟨rfl, HB.out⟩
/-- The bytes of the list at a message's end. -/
def tailB (k : Int) (L : List Con) (R : List Ins) : List UInt8 := if k = 6 then (if goodC (ctsC L) then listC (ctsC L) else []) else if k = 4 ∨ k = 7 then byR R else []
theorem listbytes_6 (X : Array Value) (A : Option Addr) (n c : Nat) (B : List UInt8) (er : Int) (w : World) (q0 : (w.alloc (.cells X 28)).cell? ⟨w.heap.size, 0, none⟩ = some (.int .i64 6)) (q1 : (w.alloc (.cells X 28)).cell? ⟨w.heap.size, 42, none⟩ = some (.slice A n c))
    (H : Hid (Calls Tryz.prog 53 #[.slice A n c] (w.alloc (.cells X 28)) fun e w' => ∃ A' c', e = .returned (.tuple #[.slice A' B.length c', .int .i64 er]) ∧ BAt w' w'.heap.size A' B ∧ Below w.heap.size w w')) : Calls Tryz.prog 25 #[.agg X] w fun e w' => ∃ A' c', e = .returned (.slice A' B.length c') ∧ BAt w' w'.heap.size A' B ∧ Below w.heap.size w w' := by
  generalize B.length = b at *
  go_enter Tryz.func25, Tryz.ntmps25
  go_wp2_with (go_at_call 53; (with_reducible refine H.out.mono ?_); rintro e w1 ⟨A1, c1, rfl, h1, hb1⟩; have H1 := Lib.hid h1; clear h1)
  go_ret
  exact ⟨A1, c1, rfl, H1.out, hb1⟩
theorem listbytes_47 (k : Int) (hk : k = 4 ∨ k = 7) (X : Array Value) (A : Option Addr) (n c : Nat) (B : List UInt8) (er : Int) (w : World) (q0 : (w.alloc (.cells X 28)).cell? ⟨w.heap.size, 0, none⟩ = some (.int .i64 k)) (q1 : (w.alloc (.cells X 28)).cell? ⟨w.heap.size, 43, none⟩ = some (.slice A n c))
    (H : Hid (Calls Tryz.prog 54 #[.slice A n c] (w.alloc (.cells X 28)) fun e w' => ∃ A' c', e = .returned (.tuple #[.slice A' B.length c', .int .i64 er]) ∧ BAt w' w'.heap.size A' B ∧ Below w.heap.size w w')) : Calls Tryz.prog 25 #[.agg X] w fun e w' => ∃ A' c', e = .returned (.slice A' B.length c') ∧ BAt w' w'.heap.size A' B ∧ Below w.heap.size w w' := by
  generalize B.length = b at *
  rcases hk with rfl | rfl
  · go_enter Tryz.func25, Tryz.ntmps25
    go_wp2_with (go_at_call 54; (with_reducible refine H.out.mono ?_); rintro e w1 ⟨A1, c1, rfl, h1, hb1⟩; have H1 := Lib.hid h1; clear h1)
    go_ret
    exact ⟨A1, c1, rfl, H1.out, hb1⟩
  · go_enter Tryz.func25, Tryz.ntmps25
    go_wp2_with (go_at_call 54; (with_reducible refine H.out.mono ?_); rintro e w1 ⟨A1, c1, rfl, h1, hb1⟩; have H1 := Lib.hid h1; clear h1)
    go_ret
    exact ⟨A1, c1, rfl, H1.out, hb1⟩
theorem listbytes_no (k : Int) (h6 : ¬ k = 6) (h4 : ¬ k = 4) (h7 : ¬ k = 7) (X : Array Value) (w : World) (q0 : (w.alloc (.cells X 28)).cell? ⟨w.heap.size, 0, none⟩ = some (.int .i64 k)) : Calls Tryz.prog 25 #[.agg X] w fun e w' => e = .returned (.slice none 0 0) ∧ Below w.heap.size w w' := by
  have b6 := beqF h6
  have b4 := beqF h4
  have b7 := beqF h7
  have HB : Hid (Below w.heap.size w (w.alloc (.cells X 28))) := Lib.hid ((Below.refl _ w).alloc (Nat.le_refl _) _)
  go_enter Tryz.func25, Tryz.ntmps25
  go_wp2
  go_ret
  exact ⟨rfl, HB.out⟩
theorem listbytes_any (m : Msg) (L : List Con) (R : List Ins) (w : World) (hc : ConV w m.vc L) (hr : InsV w m.vr R) (hL : L.length ≤ 10000) (ht : ∀ x ∈ R, x.tgt.length ≤ 100000) : Calls Tryz.prog 25 #[.agg (encM m).toArray] w fun e w' => ∃ A c, e = .returned (.slice A (tailB m.kind L R).length c) ∧ BAt w' w'.heap.size A (tailB m.kind L R) ∧ Below w.heap.size w w' := by
  have hb : Below w.heap.size w (w.alloc (.cells (encM m).toArray 28)) := (Below.refl _ w).alloc (Nat.le_refl _) _
  have hc1 := hc.below hb
  have hr1 := hr.below hb
  obtain ⟨A, c, hv, hA, hA2⟩ := hc1
  obtain ⟨A', c', hv', hA'⟩ := hr1
  have F := fldM (heap_alloc_new w (.cells (encM m).toArray 28))
  by_cases h6 : m.kind = 6
  · have e : tailB m.kind L R = if goodC (ctsC L) then listC (ctsC L) else [] := by unfold tailB; rw [if_pos h6]
    rw [e]
    refine listbytes_6 _ A L.length c _ (if goodC (ctsC L) then 0 else 2) w (by rw [← h6]; exact F.kind) (by rw [← hv]; exact F.con) (Lib.hid ((clist_any A c L _ hL hA hA2).mono ?_))
    rintro e1 w1 ⟨v, rfl, ho, hb1⟩
    obtain ⟨B, q, rfl, hB, _⟩ := own_bat ho
    exact ⟨B, q, rfl, hB, hb.trans (hb1.mono (by simp))⟩
  · by_cases h4 : m.kind = 4 ∨ m.kind = 7
    · have e : tailB m.kind L R = byR R := by unfold tailB; rw [if_neg h6, if_pos h4]
      rw [e]
      refine listbytes_47 m.kind h4 _ A' R.length c' _ (errR R) w F.kind (by rw [← hv']; exact F.ros) (Lib.hid ((rosbytes_any A' c' R _ ht hA').mono ?_))
      rintro e1 w1 ⟨v, rfl, ⟨B, q, rfl, _, hB⟩, hb1⟩
      exact ⟨B, q, rfl, hB, hb.trans (hb1.mono (by simp))⟩
    · have e : tailB m.kind L R = [] := by unfold tailB; rw [if_neg h6, if_neg h4]
      rw [e]
      refine (listbytes_no m.kind h6 (fun h => h4 (.inl h)) (fun h => h4 (.inr h)) _ w F.kind).mono ?_
      rintro e1 w1 ⟨rfl, hb1⟩
      exact ⟨none, 0, rfl, .inl rfl, hb1⟩
end Go.Proofs.YtehgpnnfjgmiiaaGreat
end
