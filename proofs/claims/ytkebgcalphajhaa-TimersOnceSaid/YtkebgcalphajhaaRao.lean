/- A queue beside the list that it should have. No condition. -/
import Derived.Test.YtkebgcalphajhaaRan
namespace Go.Proofs.Ytkebgcalphajhaa
open Go.RowKit Go.Lib Go.Shelf
set_option maxRecDepth 100000
set_option maxHeartbeats 1000000
theorem step_cuts (k N i : Int) (u : Value) (v : Value) (L : List Int) (most : Nat) (w : World) (h : RowAt w 3 1 v L.length (intsV L)) (hl : L.length ≤ 65536)
    (hc : (k = 1 ∧ i = 0) ∨ (k ≠ 0 ∧ k ≠ 1 ∧ k ≠ 3 ∧ N = i)) : Calls Try.prog 26 #[.agg #[.int .i64 k, .int .i64 N, u], v, .int .i64 (most : Int)] w (StpIs w v (cutL L i) (cutV L i) (cutB L i)) := by
  by_cases hi : 0 ≤ i ∧ i < (L.length : Int)
  · have e1 : cutL L i = cutAt L i.toNat := by unfold cutL; rw [if_pos hi]
    have e2 : cutV L i = L[i.toNat]! := by unfold cutV; rw [if_pos hi]
    have e3 : cutB L i = true := by unfold cutB; rw [decide_eq_true hi]
    rw [e1, e2, e3]
    exact step_cut k N u v L most i.toNat w h (by omega) hl (by
      rcases hc with ⟨h1, rfl⟩ | ⟨h1, h2, h3, h4⟩
      · exact .inl ⟨h1, rfl⟩
      · exact .inr ⟨h1, h2, h3, by omega⟩)
  · have e1 : cutL L i = L := by unfold cutL; rw [if_neg hi]
    have e2 : cutV L i = 0 := by unfold cutV; rw [if_neg hi]
    have e3 : cutB L i = false := by unfold cutB; rw [decide_eq_false hi]
    rw [e1, e2, e3]
    refine step_same k N u v L most w h ?_
    rcases hc with ⟨h1, rfl⟩ | ⟨h1, h2, h3, h4⟩
    · exact .inr (.inl ⟨h1, List.eq_nil_of_length_eq_zero (by omega)⟩)
    · exact .inr (.inr ⟨h1, h2, h3, by omega⟩)
theorem step_pushes (N : Int) (u : Value) (v : Value) (L : List Int) (most : Nat) (w : World) (h : RowAt w 3 1 v L.length (intsV L)) (hm : most ≤ 65536) : Calls Try.prog 26 #[.agg #[.int .i64 0, .int .i64 N, u], v, .int .i64 (most : Int)] w (StpIs w v (pushL most L N) 0 (decide (L.length < most))) := by
  unfold pushL
  by_cases hc : L.length < most
  · rw [if_pos hc, decide_eq_true hc]
    exact step_push N u v L most w h hc hm
  · rw [if_neg hc, decide_eq_false hc]
    exact step_same 0 N u v L most w h (.inl ⟨rfl, by omega⟩)
/-- A queue with L, apart from a list K, both new since w. -/
structure RP (w : World) (g most : Nat) (v u : Value) (L K : List Int) (W : World) : Prop where
  b : Below w.heap.size w W
  r : Ring W g most v L
  k : RowAt W 3 1 u K.length (intsV K)
  gB : w.heap.size ≤ g
  vB : FromB w.heap.size v
  uB : FromB w.heap.size u
  ug : u.ownBlock ≠ some g
  uv : ∀ b, u.ownBlock = some b → v.ownBlock ≠ some b
  le : L.length ≤ most
section
variable {w W W' : World} {g most : Nat} {v u v' u' : Value} {L K L' K' : List Int}
theorem RP.below (h : RP w g most v u L K W) (hb : Below W.heap.size W W') : RP w g most v u L K W' := ⟨h.b.trans (hb.mono h.b.size), Obj.bel h.r hb, h.k.bel hb, h.gB, h.vB, h.uB, h.ug, h.uv, h.le⟩
theorem RP.step (h : RP w g most v u L K W) (hb : Below W.heap.size W W') (hr : RowAt W' 3 1 u' K'.length (intsV K')) (hf : FreshV W u u') : RP w g most v u' L K' W' := by
  have hg := Obj.lt h.r
  have hv := (Obj.row h.r).lt
  have hs := h.b.size
  refine ⟨h.b.trans (hb.mono h.b.size), Obj.bel h.r hb, hr, h.gB, h.vB, fun k hk => ?_, fun hk => ?_, fun k hk hk2 => ?_, h.le⟩
  · rcases hf k hk with e | e
    · exact h.uB k e
    · omega
  · rcases hf g hk with e | e
    · exact h.ug e
    · omega
  · rcases hf k hk with e | e
    · exact h.uv k e hk2
    · have := hv k hk2; omega
theorem RP.move (h : RP w g most v u L K W) (hm : Mov W W' g v v') (hr : Ring W' g most v' L') (hle : L'.length ≤ most) : RP w g most v' u L' K W' := by
  have hu := h.k.lt
  refine ⟨h.b.trans (hm.below h.b.size h.gB h.vB), hr, h.k.mov hm h.ug h.uv, h.gB, hm.base h.b.size h.vB, h.uB, h.ug, fun k hk hk2 => ?_, hle⟩
  rcases hm.fresh k hk2 with e | e
  · exact h.uv k hk e
  · have := hu k hk; omega
end
/-- Behind a clone: the old queue beside the new one. -/
structure RO (w : World) (g most : Nat) (v u : Value) (L K : List Int) (g0 : Nat) (v0 : Value) (L0 : List Int) (W : World) : Prop where
  p : RP w g most v u L K W
  r0 : Ring W g0 most v0 L0
  l0 : L0.length ≤ most
  g0B : w.heap.size ≤ g0
  v0B : FromB w.heap.size v0
  gg : g ≠ g0
  v0g : v0.ownBlock ≠ some g
  vg0 : v.ownBlock ≠ some g0
  vv : ∀ b, v.ownBlock = some b → v0.ownBlock ≠ some b
  ug0 : u.ownBlock ≠ some g0
  uv0 : ∀ b, u.ownBlock = some b → v0.ownBlock ≠ some b
section
variable {w W W' : World} {g g' g0 most : Nat} {v u v' u' v0 v1 : Value} {L K L' K' L0 L1 : List Int}
theorem RP.clone (h : RP w g most v u L K W) (hr : Ring W' g' most v' L) (hb : Below W.heap.size W W') (hg : W.heap.size ≤ g') (hv : ∀ b, v'.ownBlock = some b → W.heap.size ≤ b) : RO w g' most v' u L K g v L W' := by
  have h1 := Obj.lt h.r
  have h2 := (Obj.row h.r).lt
  have h3 := h.k.lt
  have hs := h.b.size
  refine ⟨⟨h.b.trans (hb.mono h.b.size), hr, h.k.bel hb, by omega, fun k hk => by have := hv k hk; omega, h.uB, fun e => by have := h3 _ e; omega, fun k hk hk2 => by have := h3 k hk; have := hv k hk2; omega, h.le⟩, Obj.bel h.r hb, h.le, h.gB, h.vB, by omega, fun e => by have := h2 _ e; omega, fun e => by have := hv _ e; omega, fun k hk hk2 => by have := hv k hk; have := h2 k hk2; omega, h.ug, h.uv⟩
theorem RO.move (h : RO w g most v u L K g0 v0 L0 W) (hm : Mov W W' g0 v0 v1) (hr : Ring W' g0 most v1 L1) (hle : L1.length ≤ most) : RO w g most v u L K g0 v1 L1 W' := by
  have h1 := Obj.lt h.p.r
  have h2 := (Obj.row h.p.r).lt
  have h3 := h.p.k.lt
  have new : ∀ b, b < W.heap.size → v0.ownBlock ≠ some b → v1.ownBlock ≠ some b := fun b hb hne e => by
    rcases hm.fresh b e with e1 | e1
    · exact hne e1
    · omega
  exact ⟨⟨h.p.b.trans (hm.below h.p.b.size h.g0B h.v0B), Obj.mov h.p.r hm h.gg h.v0g h.vg0 h.vv, h.p.k.mov hm h.ug0 h.uv0, h.p.gB, h.p.vB, h.p.uB, h.p.ug, h.p.uv, h.p.le⟩, hr, hle, h.g0B, hm.base h.p.b.size h.v0B, h.gg, new g h1 h.v0g, h.vg0, fun k hk => new k (h2 k hk) (h.vv k hk), h.ug0, fun k hk => new k (h3 k hk) (h.uv0 k hk)⟩
end
section
variable {w W : World} {g g0 most : Nat} {v u v0 : Value} {L K L0 : List Int}
def RPe (w : World) (g most : Nat) (u : Value) (L K : List Int) (r : Value) (e : Ending) (w' : World) : Prop := ∃ v', e = .returned r ∧ RP w g most v' u L K w'
theorem RP.push (h : RP w g most v u L K W) (h0 : 0 < most) (hm : most ≤ 65536) (x : Int) : Calls Try.prog 25 #[.pointer (some ⟨g, 0, none⟩), .int .i64 x] W (RPe w g most u (pushL most L x) K (.int .i64 (pushE most L))) :=
  (push_any g most h0 hm v L x W h.le h.r).mono (by
    rintro e w' ⟨v', rfl, hr, hmv⟩
    exact ⟨v', rfl, h.move hmv hr (pushL_le h.le)⟩)
theorem RP.pop (h : RP w g most v u L K W) (h0 : 0 < most) (hm : most ≤ 65536) : Calls Try.prog 24 #[.pointer (some ⟨g, 0, none⟩)] W (RPe w g most u (cutL L 0) K (.tuple #[.int .i64 (cutV L 0), .bool (cutB L 0)])) :=
  (pop_any g most h0 v L W h.r (by have := h.le; omega)).mono (by
    rintro e w' ⟨v', rfl, hr, hmv⟩
    exact ⟨v', rfl, h.move hmv hr (cutL_le h.le)⟩)
theorem RP.cut (h : RP w g most v u L K W) (h0 : 0 < most) (hm : most ≤ 65536) (i : Int) : Calls Try.prog 27 #[.pointer (some ⟨g, 0, none⟩), .int .i64 i] W (RPe w g most u (cutL L i) K (.tuple #[.int .i64 (cutV L i), .bool (cutB L i)])) :=
  (cut_any g most h0 v L W h.r (by have := h.le; omega) i).mono (by
    rintro e w' ⟨v', rfl, hr, hmv⟩
    exact ⟨v', rfl, h.move hmv hr (cutL_le h.le)⟩)
theorem RP.fill (h : RP w g most v u L K W) (h0 : 0 < most) (hm : most ≤ 65536) (A : Option Addr) (c : Nat) (M : List Int) (hM : OpL w A c M) (hMl : M.length ≤ 65536) : Calls Try.prog 28 #[.pointer (some ⟨g, 0, none⟩), .slice A M.length c] W (RPe w g most u (fillL most L M) K (.int .i64 (fillN most L M : Int))) := by
  refine (fill_any g most h0 hm v L M A c W h.le h.r ?_ hMl).mono ?_
  · rcases hM with ⟨_, rfl⟩ | ⟨_, b, off, rfl, _, hb, hc⟩
    · exact .inl rfl
    · refine .inr ⟨b, off, rfl, ⟨?_, fun e => ?_⟩, Nat.lt_of_lt_of_le hb h.b.size, fun j hj => (h.b.cell (p := ⟨b, off + j, none⟩) hb).trans (hc j hj)⟩
      · have := h.gB; omega
      · have := h.vB b e; omega
  · rintro e w' ⟨v', rfl, hr, hmv⟩
    exact ⟨v', rfl, h.move hmv hr (fillL_le h.le)⟩
theorem RP.like (h : RP w g most v u L L W) (h0 : 0 < most) (hm : most ≤ 65536) (z : Int) : Calls Try.prog 29 #[.pointer (some ⟨g, 0, none⟩), u, .int .i64 (most : Int), .int .i64 z] W fun e w' => e = .returned (.bool true) ∧ RP w g most v u L L w' := by
  obtain ⟨A, c, rfl, _⟩ := h.k.form
  refine (rlike_any g most h0 hm v L A c z W h.r h.le ((h.k.ints rfl).mono (fun _ _ _ => trivial))).mono ?_
  rintro e w' ⟨rfl, hb⟩
  exact ⟨rfl, h.below hb⟩
def ROe (w : World) (g most : Nat) (v u : Value) (L K : List Int) (g0 : Nat) (r : Value) (e : Ending) (w' : World) : Prop := ∃ v0 L0, e = .returned r ∧ RO w g most v u L K g0 v0 L0 w'
theorem RO.push (h : RO w g most v u L K g0 v0 L0 W) (h0 : 0 < most) (hm : most ≤ 65536) (x : Int) : Calls Try.prog 25 #[.pointer (some ⟨g0, 0, none⟩), .int .i64 x] W fun e w' => ∃ r v1 L1, e = .returned r ∧ RO w g most v u L K g0 v1 L1 w' :=
  (push_any g0 most h0 hm v0 L0 x W h.l0 h.r0).mono (by
    rintro e w' ⟨v', rfl, hr, hmv⟩
    exact ⟨_, v', _, rfl, h.move hmv hr (pushL_le h.l0)⟩)
theorem RO.pop (h : RO w g most v u L K g0 v0 L0 W) (h0 : 0 < most) (hm : most ≤ 65536) : Calls Try.prog 24 #[.pointer (some ⟨g0, 0, none⟩)] W fun e w' => ∃ r v1 L1, e = .returned r ∧ RO w g most v u L K g0 v1 L1 w' :=
  (pop_any g0 most h0 v0 L0 W h.r0 (by have := h.l0; omega)).mono (by
    rintro e w' ⟨v', rfl, hr, hmv⟩
    exact ⟨_, v', _, rfl, h.move hmv hr (cutL_le h.l0)⟩)
theorem RP.cloned (h : RP w g most v u L K W) (h0 : 0 < most) (hm : most ≤ 65536) : Calls Try.prog 23 #[.pointer (some ⟨g, 0, none⟩)] W fun e w' => ∃ g' v', e = .returned (.pointer (some ⟨g', 0, none⟩)) ∧ RO w g' most v' u L K g v L w' :=
  (rclone_any g most h0 hm v L W h.r h.le).mono (by
    rintro e w' ⟨g', v', rfl, hr, hb, hg, hv⟩
    exact ⟨g', v', rfl, h.clone hr hb hg hv⟩)
def Stp2 (w : World) (g most : Nat) (v : Value) (L K : List Int) (x : Int) (ok : Bool) (W : World) (e : Ending) (w' : World) : Prop := ∃ u', e = .returned (.tuple #[u', .int .i64 x, .bool ok]) ∧ RP w g most v u' L K w' ∧ Below W.heap.size W w'
theorem RP.stepped (h : RP w g most v u L K W) {K' : List Int} {x : Int} {ok : Bool} {args : Array Value} (hs : Calls Try.prog 26 args W (StpIs W u K' x ok)) : Calls Try.prog 26 args W (Stp2 w g most v L K' x ok W) :=
  hs.mono (by
    rintro e w' ⟨u', rfl, hr, hb, hf⟩
    exact ⟨u', rfl, h.step hb hr hf, hb⟩)
end
end Go.Proofs.Ytkebgcalphajhaa
