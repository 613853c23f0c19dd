/- What the reference's Decode goes through: a reader, the block of what is told, the message's block. No condition. The reference's Decode: steps, and what its end goes on from. No condition. The reference's Decode, walked (no key). No condition. -/
import Derived.Test.YtehgpnnfjgmiiaaGreatVWau
import Derived.Test.YtehgpnnfjgmiiaaGreatVRIis
import Derived.Test.YtehgpnnfjgmiiaaGreatVROcc
import Derived.Test.YtehgpnnfjgmiiaaGreatVWae
import Derived.Test.YtehgpnnfjgmiiaaGreatVWaf
section
namespace Go.Proofs.YtehgpnnfjgmiiaaGreat
open Go.Shelf Go.RowKit Go.Lib Go.Great
set_option maxRecDepth 100000
set_option maxHeartbeats 2000000
structure RDV (w : World) (h : Nat) (A : Option Addr) (c : Nat) (xs : List UInt8) (s : St) (W : World) : Prop where
  rd : RRB W h A c xs s w.heap.size
  hr : W.heap[w.heap.size]? = some (.cells (encM zeroM).toArray 28 (0, 0))
  be : Below w.heap.size w W
  hh : h = w.heap.size + 1
section
variable {w W W' : World} {h c q : Nat} {A : Option Addr} {xs : List UInt8} {s s' : St} {cq cq' : List Value}
theorem RDV.lt (d : RDV w h A c xs s W) : w.heap.size < W.heap.size ∧ h < W.heap.size := ⟨(Array.getElem?_eq_some_iff.1 d.hr).1, d.rd.lt⟩
theorem RDV.read (d : RDV w h A c xs s W) (hs : RRS W' h A c xs s') (hg : W.grownBy W' (some h)) : RDV w h A c xs s' W' :=
  ⟨d.rd.read hs hg, (hg.block _ d.lt.1 (by intro e; injection e with e; have := d.hh; omega)).trans d.hr, below_ownB d.be d.be.size hg (fun k hk => by injection hk with hk; have := d.hh; omega), d.hh⟩
theorem RDV.bel (d : RDV w h A c xs s W) (hb : Below W.heap.size W W') : RDV w h A c xs s W' :=
  ⟨d.rd.bel hb, (hb.block _ d.lt.1).trans d.hr, d.be.trans (hb.mono d.be.size), d.hh⟩
theorem RDV.num (d : RDV w h A c xs s W) (k : Int) (hk : k ≤ 9223372036854775807) : Calls Tryz.prog 43 #[.pointer (some ⟨h, 0, none⟩), .int .i64 k] W fun e W' => e = .returned (.int .u64 (numV s k : Int)) ∧ RDV w h A c xs (numS s k) W' := by
  refine (rrnum_s d.rd.rs k hk).mono ?_
  rintro e W' ⟨rfl, hr, hg⟩
  exact ⟨rfl, d.read hr hg⟩
theorem RDV.fin (d : RDV w h A c xs s W) (cs : List Value) (hl : cs.length = 44) : W.there w.heap.size 0 44 ∧ (W.setCells w.heap.size 0 cs).rangeAt w.heap.size 0 cs ∧ Below w.heap.size w (W.setCells w.heap.size 0 cs) := by
  have ht := row_there d.hr
  rw [encM_length] at ht
  exact ⟨ht, World.rangeAt_setCells_same W _ 0 cs (by rw [hl]; exact ht), below_ownB d.be d.be.size (grown_sets W _ 0 cs) (fun k hk => by injection hk with hk; omega)⟩
theorem RDV.done (d : RDV w h A c xs s W) : Calls Tryz.prog 48 #[.pointer (some ⟨h, 0, none⟩)] W fun e W' => e = .returned (.int .i64 (doneE s)) ∧ Below W.heap.size W W' := by
  obtain ⟨k, hr, he⟩ := d.rd.rs
  refine (rdone_any hr).mono ?_
  rintro e w' ⟨rfl, n, rfl⟩
  have : (⟨xs.drop k, s.bad⟩ : St) = s := by cases s; simp only at he; rw [he]
  rw [this]
  exact ⟨rfl, below_drewN (Below.refl _ _) n⟩
end
/-- The message's block beside it. -/
structure RDW (w : World) (h : Nat) (A : Option Addr) (c : Nat) (xs : List UInt8) (q : Nat) (s : St) (cq : List Value) (W : World) : Prop where
  dv : RDV w h A c xs s W
  hq : W.heap[q]? = some (.cells cq.toArray 28 (0, 0))
  qh : h < q
section
variable {w W W' : World} {h c q : Nat} {A : Option Addr} {xs : List UInt8} {s s' : St} {cq cq' : List Value}
theorem RDW.lt (d : RDW w h A c xs q s cq W) : q < W.heap.size := (Array.getElem?_eq_some_iff.1 d.hq).1
theorem RDW.read (d : RDW w h A c xs q s cq W) (hs : RRS W' h A c xs s') (hg : W.grownBy W' (some h)) : RDW w h A c xs q s' cq W' :=
  ⟨d.dv.read hs hg, (hg.block _ d.lt (by intro e; injection e with e; have := d.qh; omega)).trans d.hq, d.qh⟩
theorem RDW.bel (d : RDW w h A c xs q s cq W) (hb : Below W.heap.size W W') : RDW w h A c xs q s cq W' :=
  ⟨d.dv.bel hb, (hb.block _ d.lt).trans d.hq, d.qh⟩
theorem RDW.put (d : RDW w h A c xs q s cq W) (hq : W'.heap[q]? = some (.cells cq'.toArray 28 (0, 0))) (hg : W.grownBy W' (some q)) : RDW w h A c xs q s cq' W' := by
  have h1 := d.qh
  have h2 := d.dv.hh
  refine ⟨⟨d.dv.rd.keep (hg.block h d.dv.lt.2 (by intro e; injection e with e; omega)) hg.size (fun i hi => hg.block i (by have := d.dv.lt.1; omega) (by intro e; injection e with e; omega)), (hg.block _ d.dv.lt.1 (by intro e; injection e with e; omega)).trans d.dv.hr, below_ownB d.dv.be d.dv.be.size hg (fun k hk => by injection hk with hk; omega), d.dv.hh⟩, hq, d.qh⟩
theorem RDW.set (d : RDW w h A c xs q s cq W) {j : Nat} {v : Value} (hq : (W.setCell ⟨q, j, none⟩ v).heap[q]? = some (.cells cq'.toArray 28 (0, 0))) : RDW w h A c xs q s cq' (W.setCell ⟨q, j, none⟩ v) := d.put hq (grown_set W q j v)
theorem RDW.cell (d : RDW w h A c xs q s cq W) {j : Nat} {v : Value} (hv : cq[j]? = some v) : W.cell? ⟨q, j, none⟩ = some v ∧ W.frozen? ⟨q, j, none⟩ = false := by
  refine ⟨?_, frozen_of_row _ _ _ _ _ d.hq⟩
  rw [cell_of_row _ _ j _ 28 (0, 0) d.hq, List.getElem?_toArray]
  exact hv
theorem RDW.take (d : RDW w h A c xs q s cq W) (k : Int) (hk : k ≤ 9223372036854775807) : Calls Tryz.prog 44 #[.pointer (some ⟨h, 0, none⟩), .int .i64 k] W fun e W' => ∃ A' c', e = .returned (.slice A' (takeV s k).length c') ∧ RDW w h A c xs q (takeS s k) cq W' ∧ BAt W' W'.heap.size A' (takeV s k) := by
  refine (rrtake_s d.dv.rd.rs k hk).mono ?_
  rintro e W' ⟨v, rfl, ho, hr, hg⟩
  obtain ⟨A', c', rfl, hA, _⟩ := own_bat ho
  exact ⟨A', c', rfl, d.read hr hg, hA⟩
theorem RDW.num (d : RDW w h A c xs q s cq W) (k : Int) (hk : k ≤ 9223372036854775807) : Calls Tryz.prog 43 #[.pointer (some ⟨h, 0, none⟩), .int .i64 k] W fun e W' => e = .returned (.int .u64 (numV s k : Int)) ∧ RDW w h A c xs q (numS s k) cq W' := by
  refine (rrnum_s d.dv.rd.rs k hk).mono ?_
  rintro e W' ⟨rfl, hr, hg⟩
  exact ⟨rfl, d.read hr hg⟩
end
theorem splice_f (k : Int) (t : Nat) (y : List UInt8) (vc vr : Value) (hy : y.length = 20) (s : St) : splice (encMr k t zero20 y vc vr) 2 (bcells (takeV s 20)) = encMr k t (pubV s) y vc vr := by
  unfold splice pubV encMr
  rcases takeV_20 s with h | h
  · rw [if_pos h, bcells_length, h]
    have e1 : ([Value.int .i64 k, .int .u32 (t : Int)] ++ (bcells zero20 ++ (bcells y ++ [vc, vr]))).take 2 = [.int .i64 k, .int .u32 (t : Int)] := rfl
    have e2 : ([Value.int .i64 k, .int .u32 (t : Int)] ++ (bcells zero20 ++ (bcells y ++ [vc, vr]))).drop (2 + 20) = bcells y ++ [vc, vr] := by
      show (bcells zero20 ++ (bcells y ++ [vc, vr])).drop 20 = _
      have hz : (bcells zero20).length = 20 := by simp [bcells, zero20]
      rw [List.drop_append_of_le_length (by omega), List.drop_eq_nil_of_le (by omega), List.nil_append]
    rw [e1, e2]
  · rw [h]
    rfl
theorem splice_y (k : Int) (t : Nat) (f : List UInt8) (vc vr : Value) (hf : f.length = 20) (s : St) : splice (encMr k t f zero20 vc vr) 22 (bcells (takeV s 20)) = encMr k t f (pubV s) vc vr := by
  unfold splice pubV encMr
  have hlf : (bcells f).length = 20 := by rw [bcells_length, hf]
  have hz : (bcells zero20).length = 20 := by simp [bcells, zero20]
  have e1 : ([Value.int .i64 k, .int .u32 (t : Int)] ++ (bcells f ++ (bcells zero20 ++ [vc, vr]))).take 22 = [.int .i64 k, .int .u32 (t : Int)] ++ bcells f := by
    show _ :: _ :: (bcells f ++ (bcells zero20 ++ [vc, vr])).take 20 = _
    rw [List.take_append_of_le_length (by omega), List.take_of_length_le (by omega)]
    rfl
  rcases takeV_20 s with h | h
  · rw [if_pos h, bcells_length, h, e1]
    have e2 : ([Value.int .i64 k, .int .u32 (t : Int)] ++ (bcells f ++ (bcells zero20 ++ [vc, vr]))).drop (22 + 20) = [vc, vr] := by
      show (bcells f ++ (bcells zero20 ++ [vc, vr])).drop 40 = _
      rw [← List.append_assoc, List.drop_append_of_le_length (by rw [List.length_append]; omega), List.drop_eq_nil_of_le (by rw [List.length_append]; omega), List.nil_append]
    rw [e2]
    simp
  · rw [h]
    have hd : ([Value.int .i64 k, .int .u32 (t : Int)] ++ (bcells f ++ (bcells zero20 ++ [vc, vr]))).drop (22 + (bcells []).length) = bcells zero20 ++ [vc, vr] := by
      show (bcells f ++ (bcells zero20 ++ [vc, vr])).drop 20 = _
      rw [List.drop_append_of_le_length (by omega), List.drop_eq_nil_of_le (by omega), List.nil_append]
    rw [e1, hd]
    simp [bcells, zero20]
end Go.Proofs.YtehgpnnfjgmiiaaGreat
end
section
namespace Go.Proofs.YtehgpnnfjgmiiaaGreat
open Go.Shelf Go.RowKit Go.Lib Go.Great
set_option maxRecDepth 100000
set_option maxHeartbeats 2000000

theorem run_loadVar_row {W : World} {q : Nat} {cs : List Value} (h : W.heap[q]? = some (.cells cs.toArray 28 (0, 0))) (hl : cs.length = 44) : (loadVar 28 ⟨q, 0, none⟩).run Tryz.prog W = .ok (.agg cs.toArray) W :=
  run_loadVar_mid _ q 0 28 _ _ (row_range h) Tryz.underlying28 rfl (by rw [hl]; exact size28m)
/-- A value that is a slice. -/
def SlV (v : Value) : Prop := ∃ A n c, v = .slice A n c
theorem slV_nil : SlV nilS := ⟨_, _, _, rfl⟩
theorem no16 {W : World} {q : Nat} {k : Int} {t : Nat} {f y : List UInt8} {vc vr : Value} (h : W.heap[q]? = some (.cells (encMr k t f y vc vr).toArray 28 (0, 0))) (h1 : SlV vc) (h2 : SlV vr) (j : Nat) (n : Int) : W.cell? ⟨q, j, none⟩ ≠ some (.int .u16 n) := by
  rw [cell_of_row _ _ j _ 28 (0, 0) h, List.getElem?_toArray]
  intro hh
  have hm := List.mem_of_getElem? hh
  obtain ⟨_, _, _, rfl⟩ := h1
  obtain ⟨_, _, _, rfl⟩ := h2
  unfold encMr at hm
  have hb : ∀ zs : List UInt8, Value.int .u16 n ∈ bcells zs → False := fun zs hz => by
    unfold bcells at hz
    obtain ⟨x, _, hx⟩ := List.mem_map.1 hz
    cases hx
  rcases List.mem_append.1 hm with h | h
  · simp at h
  · rcases List.mem_append.1 h with h | h
    · exact hb _ h
    · rcases List.mem_append.1 h with h | h
      · exact hb _ h
      · simp at h
theorem conV_keep {W W' : World} {q : Nat} {v : Value} {L : List Con} (h : ConV W v L) (hq : ∀ j n, W.cell? ⟨q, j, none⟩ ≠ some (.int .u16 n)) (hg : W.grownBy W' (some q)) : ConV W' v L := by
  obtain ⟨A, c, rfl, hA, hA2⟩ := h
  refine ⟨A, c, rfl, ?_, hA2⟩
  rcases hA with h0 | ⟨b, o, rfl, hb, hr⟩
  · exact .inl h0
  · cases L with
    | nil => exact .inl rfl
    | cons x L =>
      have hne : b ≠ q := by
        rintro rfl
        have hx : (flatE encC (x :: L))[21]? = some (.int .u16 (x.1.2.2 : Int)) := by
          show (encC x ++ flatE encC L)[21]? = _
          rw [List.getElem?_append_left (by rw [encC_length]; omega)]
          unfold encC
          rw [List.getElem?_append_right (by rw [bcells_length, x.2.id]; omega), bcells_length, x.2.id]
          rfl
        exact hq _ _ (hr 21 _ hx)
      exact .inr ⟨b, o, rfl, Nat.lt_of_lt_of_le hb hg.size, range_grown hr hb hg hne⟩
theorem insV_keep {W W' : World} {q : Nat} {v : Value} {L : List Ins} (h : InsV W v L) (hq : ∀ j n, W.cell? ⟨q, j, none⟩ ≠ some (.int .u16 n)) (hg : W.grownBy W' (some q)) : InsV W' v L := by
  obtain ⟨A, c, rfl, hA⟩ := h
  refine ⟨A, c, rfl, ?_⟩
  rcases hA with h0 | ⟨b, o, rfl, hb, hr⟩
  · exact .inl h0
  · cases L with
    | nil => exact .inl rfl
    | cons x L =>
      have hne : b ≠ q := by
        rintro rfl
        have hx : (flatE encI (x :: L))[24]? = some (.int .u16 (x.pri : Int)) := by
          show (encI x ++ flatE encI L)[24]? = _
          rw [List.getElem?_append_left (by rw [encI_length]; omega), encR_enc]
          unfold encR
          rw [List.getElem?_append_right (by rw [bcells_length, x.hp]; omega), bcells_length, x.hp]
          rfl
        exact hq _ _ (hr 24 _ hx)
      exact .inr ⟨b, o, rfl, Nat.lt_of_lt_of_le hb hg.size, range_grown hr hb hg hne⟩
theorem IsM.keep {W W' : World} {q : Nat} {m : Msg} {C : Cnt} (h : IsM W m C) (hq : ∀ j n, W.cell? ⟨q, j, none⟩ ≠ some (.int .u16 n)) (hg : W.grownBy W' (some q)) : IsM W' m C := ⟨h.1, h.2.1, h.2.2.1, h.2.2.2.1, conV_keep h.2.2.2.2.1 hq hg, insV_keep h.2.2.2.2.2 hq hg⟩
theorem conv_set {W : World} {q : Nat} {k : Int} {t : Nat} {f y : List UInt8} {vc vr v : Value} {L : List Con} (h : ConV W v L) (hq : W.heap[q]? = some (.cells (encMr k t f y vc vr).toArray 28 (0, 0))) (h1 : SlV vc) (h2 : SlV vr) (j : Nat) (u : Value) : ConV (W.setCell ⟨q, j, none⟩ u) v L := conV_keep h (no16 hq h1 h2) (grown_set W q j u)
theorem insv_set {W : World} {q : Nat} {k : Int} {t : Nat} {f y : List UInt8} {vc vr v : Value} {L : List Ins} (h : InsV W v L) (hq : W.heap[q]? = some (.cells (encMr k t f y vc vr).toArray 28 (0, 0))) (h1 : SlV vc) (h2 : SlV vr) (j : Nat) (u : Value) : InsV (W.setCell ⟨q, j, none⟩ u) v L := insV_keep h (no16 hq h1 h2) (grown_set W q j u)
theorem back_at {W : World} {A : Option Addr} {c : Nat} {L : List Con} (hA : CAt W W.heap.size A L) (hL : L.length ≤ 10000) : Calls Tryz.prog 45 #[.slice A L.length c] W fun e w' => ∃ B k, e = .returned (.slice B L.length k) ∧ ConV w' (.slice B L.length k) L ∧ Below W.heap.size W w' := by
  rcases hA with rfl | ⟨g, off, rfl, hg, hr⟩
  · refine (back_none A c W).mono ?_
    rintro e w' ⟨rfl, rfl⟩
    exact ⟨none, 0, rfl, conV_nil _, Below.refl _ _⟩
  · refine (back_some g off c L.length L W rfl hL hg hr).mono ?_
    rintro e w' ⟨v', rfl, ho, hb⟩
    obtain ⟨B, k, rfl, hn, hB, hB2⟩ := own_formE ho
    exact ⟨B, k, rfl, ⟨B, k, rfl, hB, hB2⟩, hb⟩
/-- What the end of the reference's Decode goes on from. -/
structure RTail (w : World) (h q : Nat) (WE : World) (m : Msg) (dn : Int) (gd : Bool) (C : Cnt) : Prop where
  dnC : Calls Tryz.prog 48 #[.pointer (some ⟨h, 0, none⟩)] WE fun e w' => e = .returned (.int .i64 dn) ∧ Below WE.heap.size WE w'
  ld : ∀ W, Below WE.heap.size WE W → (loadVar 28 ⟨q, 0, none⟩).run Tryz.prog W = .ok (.agg (encM m).toArray) W
  gdC : ∀ W, Below WE.heap.size WE W → Calls Tryz.prog 12 #[.agg (encM m).toArray] W fun e w' => e = .returned (.bool gd) ∧ Below WE.heap.size WE w'
  fz : ∀ W, Below WE.heap.size WE W → W.there w.heap.size 0 44 ∧ (W.setCells w.heap.size 0 (encM zeroM)).rangeAt w.heap.size 0 (encM zeroM) ∧ Below w.heap.size w (W.setCells w.heap.size 0 (encM zeroM))
  fm : ∀ W, Below WE.heap.size WE W → W.there w.heap.size 0 44 ∧ (W.setCells w.heap.size 0 (encM m)).rangeAt w.heap.size 0 (encM m) ∧ Below w.heap.size w (W.setCells w.heap.size 0 (encM m)) ∧ IsM (W.setCells w.heap.size 0 (encM m)) m C
theorem rtail {w WE : World} {h c q : Nat} {A : Option Addr} {xs : List UInt8} {sE : St} {m : Msg} {dn : Int} {gd : Bool} {C : Cnt} (d : RDW w h A c xs q sE (encM m) WE) (hdn : doneE sE = dn) (hm : IsM WE m C)
    (H12 : ∀ W m, IsM W m C → Calls Tryz.prog 12 #[.agg (encM m).toArray] W fun e w' => e = .returned (.bool gd) ∧ Below W.heap.size W w') : RTail w h q WE m dn gd C where
  dnC := by
    have := d.dv.done
    rw [hdn] at this
    exact this
  ld := fun W hW => run_loadVar_row ((hW.block _ d.lt).trans d.hq) (encM_length m)
  gdC := fun W hW => (H12 W m (hm.bel hW)).mono (by
    rintro e w' ⟨rfl, hb⟩
    exact ⟨rfl, hW.trans (hb.mono hW.size)⟩)
  fz := fun W hW => (d.bel hW).dv.fin _ (encM_length zeroM)
  fm := fun W hW => by
    obtain ⟨x1, x2, x3⟩ := (d.bel hW).dv.fin (encM m) (encM_length m)
    exact ⟨x1, x2, x3, (hm.bel hW).keep (no16 (d.bel hW).dv.hr slV_nil slV_nil) (grown_sets _ _ _ _)⟩
/-- The first steps. -/
structure RdK (w : World) (A : Option Addr) (c : Nat) (xs : List UInt8) (v v1 t2 : Nat) (V1 F V2 Y : List UInt8) (s0 s1 s2 s3 s4 s5 : St) : Prop where
  hF : F.length = 20
  hY : Y.length = 20
  d0 : RDV w (w.heap.size + 1) A c xs s0 ((w.alloc (.cells (encM zeroM).toArray 28)).alloc (.cells #[.slice A xs.length c, .int .i64 0, .bool false] 72))
  c1 : ∀ W, RDV w (w.heap.size + 1) A c xs s0 W → Calls Tryz.prog 43 #[.pointer (some ⟨w.heap.size + 1, 0, none⟩), .int .i64 1] W fun e W' => e = .returned (.int .u64 (v : Int)) ∧ RDV w (w.heap.size + 1) A c xs s1 W'
  c2 : ∀ W, RDV w (w.heap.size + 1) A c xs s1 W → Calls Tryz.prog 43 #[.pointer (some ⟨w.heap.size + 1, 0, none⟩), .int .i64 1] W fun e W' => e = .returned (.int .u64 (v1 : Int)) ∧ RDV w (w.heap.size + 1) A c xs s2 W'
  c3 : ∀ W q cq, RDW w (w.heap.size + 1) A c xs q s2 cq W → Calls Tryz.prog 43 #[.pointer (some ⟨w.heap.size + 1, 0, none⟩), .int .i64 4] W fun e W' => e = .returned (.int .u64 (t2 : Int)) ∧ RDW w (w.heap.size + 1) A c xs q s3 cq W'
  c4 : ∀ W q cq, RDW w (w.heap.size + 1) A c xs q s3 cq W → Calls Tryz.prog 44 #[.pointer (some ⟨w.heap.size + 1, 0, none⟩), .int .i64 20] W fun e W' => ∃ A' c', e = .returned (.slice A' V1.length c') ∧ RDW w (w.heap.size + 1) A c xs q s4 cq W' ∧ BAt W' W'.heap.size A' V1
  c5 : ∀ W q cq, RDW w (w.heap.size + 1) A c xs q s4 cq W → Calls Tryz.prog 44 #[.pointer (some ⟨w.heap.size + 1, 0, none⟩), .int .i64 20] W fun e W' => ∃ A' c', e = .returned (.slice A' V2.length c') ∧ RDW w (w.heap.size + 1) A c xs q s5 cq W' ∧ BAt W' W'.heap.size A' V2
  m4 : ∀ k t vc vr, splice (encMr k t zero20 zero20 vc vr) 2 (bcells V1) = encMr k t F zero20 vc vr
  m5 : ∀ k t vc vr, splice (encMr k t F zero20 vc vr) 22 (bcells V2) = encMr k t F Y vc vr
  l1 : V1.length = 20 ∨ V1 = []
  l2 : V2.length = 20 ∨ V2 = []
  vl : v < 256
  v1l : v1 < 256
  t2l : t2 < 4294967296
theorem rdKr {w : World} {A : Option Addr} {c : Nat} {xs : List UInt8} (hA : BAt w w.heap.size A xs) (hc : xs.length ≤ c) (hl : xs.length ≤ 100000) :
    RdK w A c xs (numV ⟨xs, false⟩ 1) (nxV (dS1 xs)) (nxT (dS1 xs)) (takeV (numS (numS (dS1 xs) 1) 4) 20) (nxF (dS1 xs)) (takeV (nxS3 (dS1 xs)) 20) (pubV (nxS3 (dS1 xs))) ⟨xs, false⟩ (dS1 xs) (numS (dS1 xs) 1) (numS (numS (dS1 xs) 1) 4) (nxS3 (dS1 xs)) (takeS (nxS3 (dS1 xs)) 20) where
  hF := pubV_length _
  hY := pubV_length _
  d0 := by
    obtain ⟨hr0, hq0, hb0⟩ := heap2 w (.cells (encM zeroM).toArray 28) (.cells #[.slice A xs.length c, .int .i64 0, .bool false] 72)
    refine ⟨⟨0, hq0, (hA.below hb0), Nat.zero_le _, hc, by omega, (fun h => absurd h (by simp)), rfl, hb0.size⟩, hr0, hb0, rfl⟩
  c1 := fun W d => d.num 1 (by omega)
  c2 := fun W d => d.num 1 (by omega)
  c3 := fun W q cq d => d.num 4 (by omega)
  c4 := fun W q cq d => d.take 20 (by omega)
  c5 := fun W q cq d => d.take 20 (by omega)
  m4 := fun k t vc vr => splice_f k t zero20 vc vr (by simp [zero20]) _
  m5 := fun k t vc vr => splice_y k t _ vc vr (pubV_length _) _
  l1 := takeV_20 _
  l2 := takeV_20 _
  vl := numV_lt _ 1
  v1l := numV_lt _ 1
  t2l := numV_lt _ 4
theorem splice_fit {V : List UInt8} (h : V.length = 20 ∨ V = []) (o n : Nat) (hn : o + 20 ≤ n) : o + (bcells V).length ≤ n := by
  rw [bcells_length]
  rcases h with h | h
  · omega
  · rw [h]; simp; omega
theorem splice_len {V : List UInt8} (h : V.length = 20 ∨ V = []) : (bcells V).length = Nat.min V.length 20 := by
  rw [bcells_length]
  rcases h with h | h
  · rw [h]; rfl
  · rw [h]; rfl
end Go.Proofs.YtehgpnnfjgmiiaaGreat
end
section
namespace Go.Proofs.YtehgpnnfjgmiiaaGreat
open Go.Shelf Go.RowKit Go.Lib Go.Great
set_option maxRecDepth 100000
set_option maxHeartbeats 2000000
theorem rdecode_a {w : World} {A : Option Addr} {c : Nat} {xs : List UInt8} {v v1 t2 : Nat} {V1 F V2 Y : List UInt8} {s0 s1 s2 s3 s4 s5 : St} (K : RdK w A c xs v v1 t2 V1 F V2 Y s0 s1 s2 s3 s4 s5) (h6 : ¬ v1 = 6) (hk : rkeyM (v1 : Int) = false) (hl : lstM (v1 : Int) = false) {dn : Int} {gd : Bool} (hdn : doneE s4 = dn)
    (H12 : ∀ W m, IsM W m ⟨(v1 : Int), t2, F, zero20, [], []⟩ → Calls Tryz.prog 12 #[.agg (encM m).toArray] W fun e w' => e = .returned (.bool gd) ∧ Below W.heap.size W w') :
    Calls Tryz.prog 20 #[.slice A xs.length c] w fun e w' => ∃ m : Msg, e = .returned (.tuple #[.agg (encM m).toArray, .int .i64 (if v = 1 ∧ dn = 0 ∧ gd = true then 0 else 10)]) ∧ IsM w' m (if v = 1 ∧ dn = 0 ∧ gd = true then ⟨(v1 : Int), t2, F, zero20, [], []⟩ else ⟨0, 0, zero20, zero20, [], []⟩) ∧ Below w.heap.size w w' := by
  have b6 := beqF (show ¬ (v1 : Int) = 6 by omega)
  have hz : zero20.length = 20 := by simp [zero20]
  have h256 := K.v1l
  have hv256 := K.vl
  have h32 := K.t2l
  have hw1 : (t2 : Int) % 4294967296 = (t2 : Int) := by omega
  have hw2 : t2 % 4294967296 = t2 := Nat.mod_eq_of_lt h32
  have D0 := Lib.hid K.d0
  have C1 := Lib.hid K.c1
  have C2 := Lib.hid K.c2
  have C3 := Lib.hid K.c3
  have C4 := Lib.hid K.c4
  have L1 := Lib.hid K.l1
  have HBU := Lib.hid (fun W => run_build28k (v1 : Int) W)
  have HBZ := Lib.hid run_build28z
  have HZ := Lib.hid (encM_length zeroM)
  have HZO := Lib.hid (encM_one zeroM)
  have H27 : Hid (∀ W, Calls Tryz.prog 27 #[.int .i64 (v1 : Int)] W fun e w' => e = .returned (.bool false) ∧ w' = W) := Lib.hid (fun W => by rw [← hk]; exact keyed_any _ W)
  have H30 : Hid (∀ W, Calls Tryz.prog 30 #[.int .i64 (v1 : Int)] W fun e w' => e = .returned (.bool false) ∧ w' = W) := Lib.hid (fun W => by rw [← hl]; exact listed_any _ W)
  have hl0 : (encMr (v1 : Int) 0 zero20 zero20 nilS nilS).length = 44 := encMr_length hz hz
  have ho0 : ∀ v ∈ encMr (v1 : Int) 0 zero20 zero20 nilS nilS, v.oneCell' = true := encMr_one rfl rfl
  have HL0 := Lib.hid hl0
  have HO0 := Lib.hid ho0
  have N3 : Hid (∀ W, RDV w (w.heap.size + 1) A c xs s2 W → RDW w (w.heap.size + 1) A c xs W.heap.size s2 (encMr (v1 : Int) 0 zero20 zero20 nilS nilS) (W.alloc (.cells (encMr (v1 : Int) 0 zero20 zero20 nilS nilS).toArray 28))) := Lib.hid (fun W d => ⟨d.bel ((Below.refl _ W).alloc (Nat.le_refl _) _), heap_alloc_new W _, d.lt.2⟩)
  have P3 : Hid (∀ W q, RDW w (w.heap.size + 1) A c xs q s3 (encMr (v1 : Int) 0 zero20 zero20 nilS nilS) W → RDW w (w.heap.size + 1) A c xs q s3 (encMr (v1 : Int) t2 zero20 zero20 nilS nilS) (W.setCell ⟨q, 1, none⟩ (.int .u32 (t2 : Int)))) := Lib.hid (fun W q d => d.set (mput_t d.hq _))
  have hm4 := K.m4
  have hm5 := K.m5
  clear hl0 ho0
  have HFL := Lib.hid K.hF
  have HYL := Lib.hid K.hY
  have P4L : Hid ((encMr (v1 : Int) t2 zero20 zero20 nilS nilS).length = 44) := Lib.hid (encMr_length hz hz)
  have P4 : Hid (∀ (q : Nat) (w4 w5 : World), RDW w (w.heap.size + 1) A c xs q s4 (encMr (v1 : Int) t2 zero20 zero20 nilS nilS) w4 → w5.heap[q]? = some (.cells (splice (encMr (v1 : Int) t2 zero20 zero20 nilS nilS) 2 (bcells V1)).toArray 28 (0, 0)) → w4.grownBy w5 (some q) → RDW w (w.heap.size + 1) A c xs q s4 (encMr (v1 : Int) t2 F zero20 nilS nilS) w5) := Lib.hid (fun q w4 w5 d h1 h2 => by
    rw [hm4] at h1
    exact d.put h1 h2)
  clear K hm4 hm5 hk hl
  go_enter Tryz.func20, Tryz.ntmps20
  go_upto_region 2 with (first
    | (with_reducible refine wpList_allocM (o := ⟨some 2, _, _, _, _, _⟩) w.heap.size rfl rfl 2 rfl rfl ?_))
  generalize (w.alloc (.cells (encM zeroM).toArray 28)).alloc (.cells #[.slice A xs.length c, .int .i64 0, .bool false] 72) = W0 at *
  go_upto_region 4 with (first
    | (go_at_call 43; (with_reducible refine (C1.out _ D0.out).mono ?_); rintro e w1 ⟨rfl, d1⟩)
    | (go_at_call 43; (with_reducible refine (C2.out _ d1).mono ?_); rintro e w2 ⟨rfl, d2⟩)
    | ((with_reducible refine wpList_buildV (o := ⟨some 15, _, _, _, _, _⟩) rfl 28 _ rfl _ ?_ _ (HBU.out _) ?_); rfl)
    | (with_reducible refine wpList_allocM (o := ⟨some 6, _, _, _, _, _⟩) w2.heap.size rfl rfl 6 rfl rfl ?_)
    | ((with_reducible refine wpList_storeMn (o := ⟨none, _, _, _, _, _⟩) rfl (.tmp 6) (.tmp 15) rfl w2.heap.size rfl (encM zeroM) (encMr (v1 : Int) 0 zero20 zero20 nilS nilS) HZ.out HL0.out HO0.out ?_ ?_ ?_); rfl; rfl))
  have d3 := N3.out _ d2
  generalize w2.alloc (.cells (encMr (v1 : Int) 0 zero20 zero20 nilS nilS).toArray 28) = W3 at *
  generalize w2.heap.size = q at *
  clear d1 d2 C1 C2 N3 D0 HBU HL0 HO0
  go_upto_region 5 with (go_at_call 43; (with_reducible refine (C3.out _ _ _ d3).mono ?_); rintro e w3 ⟨rfl, d4⟩; obtain ⟨a4, f4⟩ := d4.cell (j := 1) (v := .int .u32 0) rfl)
  have d5 := P3.out _ _ d4
  generalize w3.setCell ⟨q, 1, none⟩ (.int .u32 (t2 : Int)) = W5 at *
  clear d3 d4 a4 f4 C3 P3
  have e6 := d5.bel (Below.refl _ _).drew
  refine wp_region_noPanic ?_
  refine wp_region_held_drew (S := fun _ => True) (by kernel_rfl) trivial (fun hHeld => ?_)
  refine takeH_at 0 20 (v := ?_) rfl rfl (by kernel_rfl) (by kernel_rfl) (by kernel_rfl) (fun _ _ _ h => h) (Or.inl ⟨by rfl, ?_⟩) (by trivial) ?_
  rotate_left
  · (intro wx hSw; (try dsimp only at hSw); go_simp) <;> with_reducible rfl
  simp only [Act.put, List.setIfInBounds_toArray, List.set_cons_zero, List.set_cons_succ]
  refine takeH_at 1 21 (v := ?_) rfl rfl (by kernel_rfl) (by kernel_rfl) (by kernel_rfl) (fun _ _ _ h => h) (Or.inl ⟨by rfl, ?_⟩) (by trivial) ?_
  rotate_left
  · (intro wx hSw; (try dsimp only at hSw); go_simp) <;> with_reducible rfl
  simp only [Act.put, List.setIfInBounds_toArray, List.set_cons_zero, List.set_cons_succ]
  refine takeH_at 2 22 (v := ?_) rfl rfl (by kernel_rfl) (by kernel_rfl) (by kernel_rfl) (fun _ _ _ h => h) (Or.inl ⟨by rfl, ?_⟩) (by trivial) ?_
  rotate_left
  · (intro wx hSw; (try dsimp only at hSw); go_simp) <;> with_reducible rfl
  simp only [Act.put, List.setIfInBounds_toArray, List.set_cons_zero, List.set_cons_succ]
  refine wpAnyH_ready (rs := [3]) (by kernel_rfl) (by simp) ?_
  refine AllReadyH.cons rfl (fun K hK => ?_) AllReadyH.nil
  go_simp
  go_wp2_with (go_at_call 44; (with_reducible refine (C4.out _ _ _ e6).mono ?_); rintro e w55 ⟨A6, c6, rfl, t6, hA6⟩)
  refine hK.out _ _ (by trivial) (fun hHeld => ?_)
  clear hK K
  refine wpAnyH_ready (rs := [4]) (by kernel_rfl) (by simp) ?_
  refine AllReadyH.cons rfl (fun K hK => ?_) AllReadyH.nil
  refine step_copy_row rfl 24 rfl (.tmp 21) (.tmp 23) 31 31 rfl 5 Tryz.underlying31 size5c (some ⟨q, 2, none⟩) _ 20 20 V1.length c6 rfl rfl q 2 (encMr (v1 : Int) t2 zero20 zero20 nilS nilS) 28 t6.hq (bcells V1) (splice_len L1.out) (fun hp => ⟨rfl, hA6.cells hp⟩) (splice_fit L1.out 2 _ (by rw [P4L.out]; omega)) (bcells_oneI V1) ?_
  intro w6 hq6 hg6
  refine hK.out _ _ (by trivial) (fun hHeld => ?_)
  clear hK K
  refine wpAnyH_done (by kernel_rfl) ?_ _
  refine NoPanic.normal ?_
  simp only [Act.put, List.setIfInBounds_toArray, List.set_cons_zero, List.set_cons_succ]
  have d6 := P4.out _ _ _ t6 hq6 hg6
  clear t6 hq6 hg6 hA6 e6
  obtain ⟨a6, f6⟩ := d6.cell (j := 0) (v := .int .i64 (v1 : Int)) rfl
  clear C4 P4 d5
  go_upto_region 12 with (first
    | (go_at_call 27; (with_reducible refine (H27.out _).mono ?_); rintro e w66 ⟨rfl, rfl⟩)
    | (go_at_call 30; (with_reducible refine (H30.out _).mono ?_); rintro e w68 ⟨rfl, rfl⟩))
  obtain ⟨WE, hWE⟩ : ∃ W, W = w68 := ⟨_, rfl⟩
  obtain ⟨m, hm⟩ : ∃ m : Msg, m = ⟨(v1 : Int), t2, F, zero20, nilS, nilS, by omega, h32, HFL.out, hz, rfl, rfl⟩ := ⟨_, rfl⟩
  have hmE : IsM WE m ⟨(v1 : Int), t2, F, zero20, [], []⟩ := by
    subst hm hWE
    exact ⟨rfl, rfl, rfl, rfl, conV_nil _, insV_nil _⟩
  have dE : RDW w (w.heap.size + 1) A c xs q s4 (encM m) WE := by
    subst hm hWE
    exact d6
  rw [← hWE]
  clear hm hWE
  have TK := rtail dE hdn hmE H12
  have TDN := Lib.hid TK.dnC
  have TLD := Lib.hid TK.ld
  have TGD := Lib.hid TK.gdC
  have TFZ := Lib.hid TK.fz
  have TFM := Lib.hid TK.fm
  have TR := Lib.hid (Below.refl WE.heap.size WE)
  have HML := Lib.hid (encM_length m)
  have HMO := Lib.hid (encM_one m)
  clear TK dE hdn hmE
  by_cases hv : v = 1
  · subst hv
    by_cases h0 : dn = 0
    · subst h0
      cases gd with
      | false =>
        go_wp2_with (first
          | (go_at_call 48; (with_reducible refine TDN.out.mono ?_); rintro e w6 ⟨rfl, hb6⟩)
          | ((with_reducible refine wpList_loadG (o := ⟨some 54, _, _, _, _, _⟩) rfl 28 (.tmp 6) rfl _ ?_ _ (TLD.out _ hb6) ?_); rfl)
          | (go_at_call 12; (with_reducible refine (TGD.out _ hb6).mono ?_); rintro e w7 ⟨rfl, hb7⟩; obtain ⟨x1, x2, x3⟩ := TFZ.out _ hb7)
          | ((with_reducible refine wpList_buildV (o := ⟨some 58, _, _, _, _, _⟩) rfl 28 #[] rfl #[] ?_ _ (HBZ.out _) ?_); rfl)
          | ((with_reducible refine wpList_storeM (o := ⟨none, _, _, _, _, _⟩) rfl (.tmp 2) (.tmp 58) rfl w.heap.size (encM zeroM) HZ.out HZO.out ?_ ?_ x1 ?_); rfl; rfl))
        refine bodyPost_ret (results_cs (p := 2) (t := 3) (ty := 28) rfl _ _ w.heap.size 0 (encM zeroM) _ _ rfl rfl x2 Tryz.underlying28 rfl (by rw [HZ.out]; exact size28m)) rfl ?_
        exact ⟨zeroM, by simp, by simpa using zero_is _, x3⟩
      | true =>
        go_wp2_with (first
          | (go_at_call 48; (with_reducible refine TDN.out.mono ?_); rintro e w6 ⟨rfl, hb6⟩)
          | ((with_reducible refine wpList_loadG (o := ⟨some 54, _, _, _, _, _⟩) rfl 28 (.tmp 6) rfl _ ?_ _ (TLD.out _ hb6) ?_); rfl)
          | (go_at_call 12; (with_reducible refine (TGD.out _ hb6).mono ?_); rintro e w7 ⟨rfl, hb7⟩; obtain ⟨x1, x2, x3, x4⟩ := TFM.out _ hb7)
          | ((with_reducible refine wpList_loadV (op := ⟨some 59, _, _, _, _, _⟩) rfl 28 (.tmp 6) rfl _ ?_ _ (TLD.out _ hb7) ?_); rfl)
          | ((with_reducible refine wpList_storeM (o := ⟨none, _, _, _, _, _⟩) rfl (.tmp 2) (.tmp 59) rfl w.heap.size (encM m) HML.out HMO.out ?_ ?_ x1 ?_); rfl; rfl))
        refine bodyPost_ret (results_cs (p := 2) (t := 3) (ty := 28) rfl _ _ w.heap.size 0 (encM m) _ _ rfl rfl x2 Tryz.underlying28 rfl (by rw [HML.out]; exact size28m)) rfl ?_
        exact ⟨m, by simp, by simpa using x4, x3⟩
    · have bd := bneT h0
      go_wp2_with (first
        | (go_at_call 48; (with_reducible refine TDN.out.mono ?_); rintro e w6 ⟨rfl, hb6⟩; obtain ⟨x1, x2, x3⟩ := TFZ.out _ hb6)
        | ((with_reducible refine wpList_buildV (o := ⟨some 58, _, _, _, _, _⟩) rfl 28 #[] rfl #[] ?_ _ (HBZ.out _) ?_); rfl)
        | ((with_reducible refine wpList_storeM (o := ⟨none, _, _, _, _, _⟩) rfl (.tmp 2) (.tmp 58) rfl w.heap.size (encM zeroM) HZ.out HZO.out ?_ ?_ x1 ?_); rfl; rfl))
      refine bodyPost_ret (results_cs (p := 2) (t := 3) (ty := 28) rfl _ _ w.heap.size 0 (encM zeroM) _ _ rfl rfl x2 Tryz.underlying28 rfl (by rw [HZ.out]; exact size28m)) rfl ?_
      exact ⟨zeroM, by simp [h0], by simpa [h0] using zero_is _, x3⟩
  · have bv := bneT (show ¬ (v : Int) = 1 by omega)
    obtain ⟨x1, x2, x3⟩ := TFZ.out _ TR.out
    go_wp2_with (first
      | ((with_reducible refine wpList_buildV (o := ⟨some 58, _, _, _, _, _⟩) rfl 28 #[] rfl #[] ?_ _ (HBZ.out _) ?_); rfl)
      | ((with_reducible refine wpList_storeM (o := ⟨none, _, _, _, _, _⟩) rfl (.tmp 2) (.tmp 58) rfl w.heap.size (encM zeroM) HZ.out HZO.out ?_ ?_ x1 ?_); rfl; rfl))
    refine bodyPost_ret (results_cs (p := 2) (t := 3) (ty := 28) rfl _ _ w.heap.size 0 (encM zeroM) _ _ rfl rfl x2 Tryz.underlying28 rfl (by rw [HZ.out]; exact size28m)) rfl ?_
    exact ⟨zeroM, by simp [hv], by simpa [hv] using zero_is _, x3⟩
end Go.Proofs.YtehgpnnfjgmiiaaGreat
end
