/- A table beside the list that it should have. Conditions: at most 60 timers. -/
import Derived.Test.YtkebgcalphajhaaTdg
import Derived.Test.YtkebgcalphajhaaTcb
namespace Go.Proofs.Ytkebgcalphajhaa
open Go.RowKit Go.Lib
set_option maxRecDepth 100000
set_option maxHeartbeats 400000
/-- A table in block g with O, apart from a list L, both new since w; block s holds S. -/
structure TQ (w : World) (s : Nat) (S : Go.Obj) (g most : Nat) (v u : Value) (O L : List (Int × Nat)) (W : World) : Prop where
  b : Below w.heap.size w W
  t : Tab W g most v O
  r : RefAt W u L
  gB : w.heap.size ≤ g
  vB : FromB w.heap.size v
  uB : FromB w.heap.size u
  ug : u.ownBlock ≠ some g
  uv : ∀ b, u.ownBlock = some b → v.ownBlock ≠ some b
  sS : W.heap[s]? = some S
  sg : s ≠ g
  vs : v.ownBlock ≠ some s
section
variable {w W W' : World} {s g g' g0 most : Nat} {S : Go.Obj} {v u v' u' v0 v1 : Value} {O L O' L' O0 O1 : List (Int × Nat)}
theorem TQ.sl (h : TQ w s S g most v u O L W) : s < W.heap.size := (Array.getElem?_eq_some_iff.1 h.sS).1
theorem TQ.below (h : TQ w s S g most v u O L W) (hb : Below W.heap.size W W') : TQ w s S g most v u O L W' :=
  { h with b := h.b.trans (hb.mono h.b.size), t := Obj.bel h.t hb, r := RowAt.bel h.r hb, sS := (hb.block _ h.sl).trans h.sS }
theorem TQ.step (h : TQ w s S g most v u O L W) (hb : Below W.heap.size W W') (hr : RefAt W' u' L') (hf : FreshV W u u') : TQ w s S g most v u' O L' W' := by
  have hg := Obj.lt h.t
  have hv := (Obj.row h.t).lt
  have hs := h.b.size
  refine { h.below hb with r := hr, uB := fun k hk => ?_, ug := fun hk => ?_, uv := fun k hk hk2 => ?_ }
  · rcases hf k hk with e | e
    · exact h.uB k e
    · omega
  · rcases hf g hk with e | e
    · exact h.ug e
    · omega
  · rcases hf k hk with e | e
    · exact h.uv k e hk2
    · have := hv k hk2; omega
theorem TQ.move (h : TQ w s S g most v u O L W) (hm : Mov W W' g v v') (hr : Tab W' g most v' O') : TQ w s S g most v' u O' L W' := by
  have hu := RowAt.lt h.r
  have hs := h.sl
  refine { h with b := h.b.trans (hm.below h.b.size h.gB h.vB), t := hr, r := RowAt.mov h.r hm h.ug h.uv, vB := hm.base h.b.size h.vB, uv := fun k hk hk2 => ?_, sS := (hm.block s hs h.sg (fun e => h.vs e.symm)).trans h.sS, vs := fun e => ?_ }
  · rcases hm.fresh k hk2 with e | e
    · exact h.uv k hk e
    · have := hu k hk; omega
  · rcases hm.fresh s e with e1 | e1
    · exact h.vs e1
    · omega
/-- Behind a clone: the old table beside the new one. -/
structure TO (w : World) (s : Nat) (S : Go.Obj) (g most : Nat) (v u : Value) (O L : List (Int × Nat)) (g0 : Nat) (v0 : Value) (O0 : List (Int × Nat)) (W : World) : Prop where
  p : TQ w s S g most v u O L W
  t0 : Tab W g0 most v0 O0
  g0B : w.heap.size ≤ g0
  v0B : FromB w.heap.size v0
  gg : g ≠ g0
  v0g : v0.ownBlock ≠ some g
  vg0 : v.ownBlock ≠ some g0
  vv : ∀ b, v.ownBlock = some b → v0.ownBlock ≠ some b
  ug0 : u.ownBlock ≠ some g0
  uv0 : ∀ b, u.ownBlock = some b → v0.ownBlock ≠ some b
  sg0 : s ≠ g0
  v0s : v0.ownBlock ≠ some s
theorem TQ.clone (h : TQ w s S g most v u O L W) (hr : Tab W' g' most v' O) (hb : Below W.heap.size W W') (hg : W.heap.size ≤ g') (hv : FromB W.heap.size v') : TO w s S g' most v' u O L g v O W' := by
  have h1 := Obj.lt h.t
  have h2 := (Obj.row h.t).lt
  have h3 := RowAt.lt h.r
  have h4 := h.sl
  have hs := h.b.size
  have hB := h.below hb
  refine ⟨⟨hB.b, hr, hB.r, by omega, fun k hk => Nat.le_trans hs (hv k hk), h.uB, fun e => by have := h3 _ e; omega, fun k hk hk2 => by have := h3 k hk; have := hv k hk2; omega, hB.sS, by omega, fun e => by have := hv _ e; omega⟩, hB.t, h.gB, h.vB, by omega, fun e => by have := h2 _ e; omega, fun e => by have := hv _ e; omega, fun k hk hk2 => by have := hv k hk; have := h2 k hk2; omega, h.ug, h.uv, h.sg, h.vs⟩
theorem TO.move (h : TO w s S g most v u O L g0 v0 O0 W) (hm : Mov W W' g0 v0 v1) (hr : Tab W' g0 most v1 O1) : TO w s S g most v u O L g0 v1 O1 W' := by
  have h1 := Obj.lt h.p.t
  have h2 := (Obj.row h.p.t).lt
  have h3 := RowAt.lt h.p.r
  have h4 := h.p.sl
  have new : ∀ b, b < W.heap.size → v0.ownBlock ≠ some b → v1.ownBlock ≠ some b := fun b hb hne e => by
    rcases hm.fresh b e with e1 | e1
    · exact hne e1
    · omega
  exact ⟨{ h.p with b := h.p.b.trans (hm.below h.p.b.size h.g0B h.v0B), t := Obj.mov h.p.t hm h.gg h.v0g h.vg0 h.vv, r := RowAt.mov h.p.r hm h.ug0 h.uv0, sS := (hm.block s h4 h.sg0 (fun e => h.v0s e.symm)).trans h.p.sS }, hr, h.g0B, hm.base h.p.b.size h.v0B, h.gg, new g h1 h.v0g, h.vg0, fun k hk => new k (h2 k hk) (h.vv k hk), h.ug0, fun k hk => new k (h3 k hk) (h.uv0 k hk), h.sg0, new s h4 h.v0s⟩
end
/-- A table that has what the list has. -/
structure TP (w : World) (g most : Nat) (v u : Value) (L : List (Int × Nat)) (W : World) : Prop where
  b : Below w.heap.size w W
  t : Tab W g most v (ordT L)
  r : RefAt W u L
  gB : w.heap.size ≤ g
  vB : FromB w.heap.size v
  uB : FromB w.heap.size u
  ug : u.ownBlock ≠ some g
  uv : ∀ b, u.ownBlock = some b → v.ownBlock ≠ some b
/-- What is known of the list. -/
structure LG (most : Nat) (L : List (Int × Nat)) : Prop where
  le : L.length ≤ most
  uni : UniT L
  gd : ∀ t ∈ L, t.2 ≤ lastT
section
variable {w W W' : World} {s g g' g0 most : Nat} {S : Go.Obj} {v u v' u' v0 v1 vk : Value} {O L O' L' O0 O1 : List (Int × Nat)}
theorem TP.boxed (h : TP w g most v u L W) (S : Array Value) (T : TypeId) : TQ w W.heap.size (.cells S T (0, 0)) g most v u (ordT L) L (W.alloc (.cells S T)) := by
  have hb : Below W.heap.size W (W.alloc (.cells S T)) := (Below.refl _ W).alloc (Nat.le_refl _) _
  have h1 := Obj.lt h.t
  exact ⟨h.b.trans (hb.mono h.b.size), Obj.bel h.t hb, RowAt.bel h.r hb, h.gB, h.vB, h.uB, h.ug, h.uv, heap_alloc_new W _, by omega, fun e => by have := (Obj.row h.t).lt _ e; omega⟩
theorem TQ.plain (h : TQ w s S g most v u (ordT L) L W) : TP w g most v u L W := ⟨h.b, h.t, h.r, h.gB, h.vB, h.uB, h.ug, h.uv⟩
theorem LG.set (h : LG most L) (k : Int) (a : Nat) (ha : a ≤ lastT) : LG most (setT L most (k, a)) := by
  unfold setT
  by_cases hc : hasT L k = false ∧ most ≤ L.length
  · rw [if_pos hc]; exact h
  · rw [if_neg hc]
    refine ⟨?_, uni_cut_snoc h.uni (k, a), fun t ht => ?_⟩
    · have h1 := cut_length h.uni k
      have h2 := h.le
      show (cutT L k ++ [(k, a)]).length ≤ most
      rw [List.length_append, List.length_singleton]
      by_cases hh : hasT L k = true
      · rw [if_pos hh] at h1; omega
      · have : ¬ most ≤ L.length := fun x => hc ⟨by simpa using hh, x⟩
        rw [if_neg hh] at h1; omega
    · rcases List.mem_append.1 ht with ht | ht
      · exact h.gd t (List.mem_filter.1 ht).1
      · rw [List.mem_singleton.1 ht]; exact ha
theorem LG.filter (h : LG most L) (p : Int × Nat → Bool) : LG most (L.filter p) := ⟨Nat.le_trans (List.length_filter_le _ _) h.le, uni_filter h.uni p, fun t ht => h.gd t (List.mem_filter.1 ht).1⟩
theorem set_link (h : LG most L) (k : Int) (a : Nat) : setO (ordT L) most k a = ordT (setT L most (k, a)) ∧ setR (ordT L) most k = (setE L most (k, a) : Int) := by
  have hl := h.le
  unfold setO setR setT setE
  rw [hasT_ord, ordT_length]
  by_cases hc : hasT L k = false ∧ most ≤ L.length
  · rw [if_pos ⟨hc.1, by omega⟩, if_pos hc, if_pos ⟨hc.1, by omega⟩, if_pos hc]
    exact ⟨rfl, rfl⟩
  · rw [if_neg (fun x => hc ⟨x.1, by omega⟩), if_neg hc, if_neg (fun x => hc ⟨x.1, by omega⟩), if_neg hc]
    refine ⟨?_, rfl⟩
    rw [ordT_snoc, ordT_cut]
theorem due_link (h : LG most L) (now : Nat) : (ordT L).takeWhile (dueT now) = (ordT L).filter (dueT now) ∧ (ordT L).dropWhile (dueT now) = ordT (L.filter (fun t => !dueT now t)) := by
  have := due_take (ordT_srt L) (fun t ht => h.gd t ((mem_ordT L t).1 ht)) now
  exact ⟨this.1, this.2.trans (ordT_filter L _).symm⟩
theorem TQ.set (h : TQ w s S g most v u (ordT L) L W) (hg : LG most L) (h0 : 0 < most) (hm : most ≤ 65536) (k : Int) (a : Nat) : Calls Try.prog 9 #[.pointer (some ⟨g, 0, none⟩), .int .i64 k, .int .u64 (a : Int)] W fun e w' => ∃ v', e = .returned (.int .i64 (setE L most (k, a) : Int)) ∧ TQ w s S g most v' u (ordT (setT L most (k, a))) L w' := by
  have := set_any g most h0 hm v (ordT L) k a W h.t (ordT_srt L) (uni_ord hg.uni) (by rw [ordT_length]; exact hg.le)
  rw [(set_link hg k a).1, (set_link hg k a).2] at this
  exact this.mono (by
    rintro e w' ⟨v', rfl, ht, hmv⟩
    exact ⟨v', rfl, h.move hmv ht⟩)
theorem TQ.rset (h : TQ w s S g most v u O L W) (hg : LG most L) (hm : most ≤ 65536) (k : Int) (a : Nat) : Calls Try.prog 10 #[u, .int .i64 (most : Int), .agg #[.int .i64 k, .int .u64 (a : Int)]] W fun e w' => ∃ u', e = .returned (.tuple #[u', .int .i64 (setE L most (k, a) : Int)]) ∧ TQ w s S g most v u' O (setT L most (k, a)) w' := by
  unfold setE setT
  by_cases hc : hasT L k = false ∧ most ≤ L.length
  · rw [if_pos hc, if_pos hc]
    exact (rset_full u L most k a W h.r hc.1 hc.2).mono (by
      rintro e w' ⟨u', rfl, hb, hr, hf⟩
      exact ⟨u', rfl, h.step hb hr hf⟩)
  · rw [if_neg hc, if_neg hc]
    exact (rset_more u L most k a W h.r (by have := hg.le; omega) hc).mono (by
      rintro e w' ⟨u', rfl, hb, hr, hf⟩
      exact ⟨u', rfl, h.step hb hr hf⟩)
theorem TQ.find (h : TQ w s S g most v u O L W) (k : Int) : Calls Try.prog 11 #[u, .int .i64 k] W fun e w' => e = .returned (.int .i64 (plT L k)) ∧ w' = W := find_any u L k W h.r
theorem TQ.rcut (h : TQ w s S g most v u O L W) (hg : LG most L) (hm : most ≤ 65536) (k : Int) : Calls Try.prog 12 #[u, .int .i64 k] W fun e w' => ∃ u', e = .returned u' ∧ TQ w s S g most v u' O (cutT L k) w' :=
  (rcut_any u L k W h.r (by have := hg.le; omega)).mono (by
    rintro e w' ⟨u', rfl, hb, hr, hf⟩
    exact ⟨u', rfl, h.step hb hr (fun b hb' => .inr (hf b hb'))⟩)
theorem TQ.cancel (h : TQ w s S g most v u (ordT L) L' W) (hg : LG most L) (h0 : 0 < most) (hm : most ≤ 65536) (k : Int) : Calls Try.prog 13 #[.pointer (some ⟨g, 0, none⟩), .int .i64 k] W fun e w' => ∃ v', e = .returned (.bool (hasT L k)) ∧ TQ w s S g most v' u (ordT (cutT L k)) L' w' := by
  have := cancel_any g most h0 v (ordT L) k W h.t (uni_ord hg.uni) (by rw [ordT_length]; have := hg.le; omega)
  rw [← ordT_cut, hasT_ord] at this
  exact this.mono (by
    rintro e w' ⟨v', rfl, ht, hmv⟩
    exact ⟨v', rfl, h.move hmv ht⟩)
/-- A row of keys apart from the table. -/
structure Apart (W : World) (g : Nat) (v vk : Value) (K : List (Int × Nat)) : Prop where
  row : RowAt W 3 1 vk K.length (keysV K)
  ng : vk.ownBlock ≠ some g
  nv : ∀ b, vk.ownBlock = some b → v.ownBlock ≠ some b
theorem TQ.rdue (h : TQ w s S g most v u (ordT L) L W) (hg : LG most L) (hl : L.length ≤ 60000) (now : Nat) : Calls Try.prog 14 #[u, .int .u64 (now : Int)] W fun e w' => ∃ vk u', e = .returned (.tuple #[vk, u']) ∧ TQ w s S g most v u' (ordT L) (L.filter (fun t => !dueT now t)) w' ∧ Apart w' g v vk ((ordT L).filter (dueT now)) :=
  (rdue14 u L now W h.r hl).mono (by
    rintro e w' ⟨vk, vl, rfl, hb, hk, hkf, hr, hrf, _⟩
    refine ⟨vk, vl, rfl, h.step hb hr (fun b hb' => .inr (hrf b hb')), hk, fun e => ?_, fun b hb1 hb2 => ?_⟩
    · have := hkf _ e; have := Obj.lt h.t; omega
    · have := hkf _ hb1; have := (Obj.row h.t).lt _ hb2; omega)
theorem TQ.due (h : TQ w s S g most v u (ordT L) L' W) (hg : LG most L) (h0 : 0 < most) (hm : most ≤ 65536) (now : Nat) (hk : Apart W g v vk ((ordT L).filter (dueT now))) : Calls Try.prog 16 #[.pointer (some ⟨g, 0, none⟩), .int .u64 (now : Int)] W fun e w' => ∃ v' vp, e = .returned vp ∧ TQ w s S g most v' u (ordT (L.filter (fun t => !dueT now t))) L' w' ∧ RowAt w' 3 1 vp ((ordT L).filter (dueT now)).length (keysV ((ordT L).filter (dueT now))) ∧ RowAt w' 3 1 vk ((ordT L).filter (dueT now)).length (keysV ((ordT L).filter (dueT now))) := by
  have := tdue_any g most now h0 v (ordT L) W h.t (by rw [ordT_length]; have := hg.le; omega)
  rw [(due_link hg now).1, (due_link hg now).2] at this
  exact this.mono (by
    rintro e w' ⟨v', vp, rfl, hp, ht, hmv, _⟩
    exact ⟨v', vp, rfl, h.move hmv ht, hp, RowAt.mov hk.row hmv hk.ng hk.nv⟩)
theorem TQ.like (h : TQ w s S g most v u (ordT L) L W) (hg : LG most L) (h0 : 0 < most) (hl : L.length ≤ 60000) (z : Int) : Calls Try.prog 18 #[.pointer (some ⟨g, 0, none⟩), u, .int .i64 z] W fun e w' => e = .returned (.bool true) ∧ TQ w s S g most v u (ordT L) L w' :=
  (tlike_any g most h0 v u L z W h.t hl hg.uni h.r).mono (by
    rintro e w' ⟨rfl, hb⟩
    exact ⟨rfl, h.below hb⟩)
theorem TQ.cloned (h : TQ w s S g most v u (ordT L) L W) (hg : LG most L) (h0 : 0 < most) (hm : most ≤ 65536) : Calls Try.prog 17 #[.pointer (some ⟨g, 0, none⟩)] W fun e w' => ∃ g' v', e = .returned (.pointer (some ⟨g', 0, none⟩)) ∧ TO w s S g' most v' u (ordT L) L g v (ordT L) w' :=
  (tclone_any g most h0 hm v (ordT L) W h.t (by rw [ordT_length]; have := hg.le; omega)).mono (by
    rintro e w' ⟨g', v', rfl, ht, hb, hg', hv⟩
    exact ⟨g', v', rfl, h.clone ht hb hg' hv⟩)
theorem TO.set (h : TO w s S g' most v' u (ordT L) L g v (ordT L) W) (hg : LG most L) (h0 : 0 < most) (hm : most ≤ 65536) (k : Int) (a : Nat) : Calls Try.prog 9 #[.pointer (some ⟨g, 0, none⟩), .int .i64 k, .int .u64 (a : Int)] W fun e w' => ∃ r v1 O1, e = .returned r ∧ O1.length ≤ 100000 ∧ TO w s S g' most v' u (ordT L) L g v1 O1 w' := by
  have := set_any g most h0 hm v (ordT L) k a W h.t0 (ordT_srt L) (uni_ord hg.uni) (by rw [ordT_length]; exact hg.le)
  rw [(set_link hg k a).1] at this
  refine this.mono ?_
  rintro e w' ⟨v1, rfl, ht, hmv⟩
  refine ⟨_, v1, _, rfl, ?_, h.move hmv ht⟩
  rw [ordT_length]
  unfold setT
  split
  · have := hg.le; omega
  · rw [List.length_append]
    have := cut_le' L k
    have := hg.le
    show (cutT L k).length + 1 ≤ 100000
    omega
where cut_le' (L : List (Int × Nat)) (k : Int) : (cutT L k).length ≤ L.length := List.length_filter_le _ _
theorem TO.due (h : TO w s S g' most v' u O L g v O0 W) (h0 : 0 < most) (hl : O0.length ≤ 100000) (now : Nat) : Calls Try.prog 16 #[.pointer (some ⟨g, 0, none⟩), .int .u64 (now : Int)] W fun e w' => ∃ r v1 O1, e = .returned r ∧ TO w s S g' most v' u O L g v1 O1 w' :=
  (tdue_any g most now h0 v O0 W h.t0 hl).mono (by
    rintro e w' ⟨v1, vp, rfl, hp, ht, hmv, _⟩
    exact ⟨_, v1, _, rfl, h.move hmv ht⟩)
end
end Go.Proofs.Ytkebgcalphajhaa
