/- TimersOnce: a table and a map beside it, and what calls make of both. Conditions: at most 60 timers. -/
import Derived.Test.YtkebgcalphajhaaTca
import Derived.Test.YtkebgcalphajhaaTan
import Derived.Test.YtkebgcalphajhaaTah
import Derived.Test.YtkebgcalphajhaaRam
namespace Go.Proofs.Ytkebgcalphajhaa
open Go.RowKit Go.Maps
set_option maxRecDepth 100000
set_option maxHeartbeats 400000
/-- A table with O in block g, and a map with L in block mb; both new since w. -/
structure OP (w : World) (g mb : Nat) (v : Value) (D : DataW Unit) (O L : List (Int × Nat)) (W : World) : Prop where
  b : Below w.heap.size w W
  t : Tab W g 65536 v O
  vB : FromB w.heap.size v
  gB : w.heap.size ≤ g
  mB : w.heap.size ≤ mb
  m : W.ownsMap Try.prog 3 (plainElem Try.prog 27) mb L.length D
  tie : TieT L D
  srt : SrtT O
  uni : UniT O
  gd : GdT O
  lu : UniT L
  lg : GdT L
section
variable {w W W' : World} {g mb : Nat} {v v' : Value} {D D' : DataW Unit} {O O' L L' : List (Int × Nat)}
theorem OP.gm (h : OP w g mb v D O L W) : g ≠ mb := fun e => by
  obtain ⟨es, clock, h1, _⟩ := h.m
  have h2 := h.t.blk
  rw [e, h1] at h2
  cases h2
theorem OP.vm (h : OP w g mb v D O L W) : v.ownBlock ≠ some mb := map_not h.m (Obj.row h.t)
theorem OP.below (h : OP w g mb v D O L W) (hb : Below W.heap.size W W') : OP w g mb v D O L W' :=
  { h with b := h.b.trans (hb.mono h.b.size), t := Obj.bel h.t hb, m := map_same h.m (hb.block _ h.m.lt) }
/-- A call on the table. -/
theorem OP.moved (h : OP w g mb v D O L W) (ht : Tab W' g 65536 v' O') (hm : Mov W W' g v v') (hs : SrtT O') (hu : UniT O') (hg : GdT O') : OP w g mb v' D O' L W' :=
  { h with b := h.b.trans (hm.below h.b.size h.gB h.vB), t := ht, vB := hm.base h.b.size h.vB, m := map_same h.m (hm.block _ h.m.lt (fun e => h.gm e.symm) (fun e => h.vm e.symm)), srt := hs, uni := hu, gd := hg }
/-- An operation on the map. -/
theorem OP.turned {n : Nat} (h : OP w g mb v D O L W) (hm : W'.ownsMap Try.prog 3 (plainElem Try.prog 27) mb n D') (ht : W.mapTurned W' mb) (hti : TieT L' D') (hu : UniT L') (hg : GdT L') : OP w g mb v D' O L' W' := by
  have hgr := ht.grown
  have e1 : W'.ownsMap Try.prog 3 (plainElem Try.prog 27) mb L'.length D' := by
    obtain ⟨es, clock, h1, h2, h3, h4⟩ := hm
    refine ⟨es, clock, h1, h2, ?_, h4⟩
    have e2 := hti.size
    rw [h4] at e2
    have e3 : Maps.size (DataW.map ((es.toList.map (WideElems.rg Try.prog 3 (plainElem (H := Unit) Try.prog 27))).foldr DataW.insert [])) = es.size := by simp [Maps.size, length_sorted]
    omega
  exact { h with b := h.b.grown hgr h.b.size (fun k hk => by cases hk; exact h.mB), t := Obj.same h.t (hgr.block g (Obj.lt h.t) (fun e => h.gm (by injection e))) (fun b hb => hgr.block b ((Obj.row h.t).lt b hb) (fun e => h.vm (by rw [hb, e]))), m := e1, tie := hti, lu := hu, lg := hg }
theorem OP.keep {e k n : Nat} {u : Value} {xs : List Value} (h : OP w g mb v D O L W) (ht : W.mapTurned W' mb) (hr : RowAt W e k u n xs) : RowAt W' e k u n xs :=
  hr.same fun b hb => ht.grown.block b (hr.lt b hb) (fun e => map_not h.m hr (by rw [hb, e]))
/-- Cancel. -/
theorem OP.cancel (h : OP w g mb v D O L W) (k : Int) (hl : O.length ≤ 100) : Calls Try.prog 13 #[.pointer (some ⟨g, 0, none⟩), Value.int .i64 k] W fun e W' => ∃ v', e = .returned (.bool (hasT O k)) ∧ OP w g mb v' D (cutT O k) L W' ∧ Mov W W' g v v' :=
  (cancel_any g 65536 (by omega) v O k W h.t h.uni (by omega)).mono (by
    rintro e W' ⟨v', rfl, ht, hm⟩
    exact ⟨v', rfl, h.moved ht hm (cut_srt h.srt k) (uni_filter h.uni _) (fun t ht => h.gd t (List.mem_filter.1 ht).1), hm⟩)
/-- Set. -/
theorem OP.set (h : OP w g mb v D O L W) (k : Int) (a : Nat) (hl : O.length ≤ 100) (hwf : (Lit.int .i64 k).wf = true ∧ (Lit.int .u64 (a : Int)).wf = true ∧ a ≤ lastT) : Calls Try.prog 9 #[.pointer (some ⟨g, 0, none⟩), Value.int .i64 k, .int .u64 (a : Int)] W fun e W' => ∃ v', e = .returned (.int .i64 0) ∧ OP w g mb v' D (insT (cutT O k) (k, a)) L W' ∧ Mov W W' g v v' := by
  have := set_any g 65536 (by omega) (by omega) v O k a W h.t h.srt h.uni (by omega)
  unfold setO setR at this
  rw [if_neg (fun x => by omega), if_neg (fun x => by omega)] at this
  refine this.mono ?_
  rintro e W' ⟨v', rfl, ht, hm⟩
  exact ⟨v', rfl, h.moved ht hm (insT_srt (cut_srt h.srt k) _) (uni_put h.uni h.srt (k, a)) (gd_put h.gd h.srt (k, a) hwf), hm⟩
/-- Due. -/
theorem OP.due (h : OP w g mb v D O L W) (now : Nat) (hl : O.length ≤ 100) : Calls Try.prog 16 #[.pointer (some ⟨g, 0, none⟩), .int .u64 (now : Int)] W fun e W' => ∃ v' vk, e = .returned vk ∧ RowAt W' 3 1 vk (O.takeWhile (dueT now)).length (keysV (O.takeWhile (dueT now))) ∧ OP w g mb v' D (O.dropWhile (dueT now)) L W' :=
  (tdue_any g 65536 now (by omega) v O W h.t (by omega)).mono (by
    rintro e W' ⟨v', vk, rfl, hr, ht, hm, _⟩
    have hsub : (O.dropWhile (dueT now)).Sublist O := (List.dropWhile_suffix _).sublist
    exact ⟨v', vk, rfl, hr, h.moved ht hm (List.Pairwise.sublist hsub h.srt) (List.Sublist.nodup (List.Sublist.map _ hsub) h.uni) (fun t ht => h.gd t (hsub.subset ht))⟩)
/-- The operations on the map, as the walk meets them. -/
theorem OP.lookT {ops : Array Oper} {rest : List Oper} {o : Oper} {a : Act} {Q : Exit → Act → World → Prop} {k : Int} {t : Nat} (h : OP w g mb v D O ((k, t) :: L) W) (hg : o.guard = none) (m x : Operand) (hop : o.op = Op.lookup 48 m x true)
    (hm : a.eval m = .map (some mb)) (hx : a.eval x = .int .i64 k) (hQ : wpList Try.prog ops Q rest (a.put o.dst (.tuple #[.int .u64 (t : Int), .bool true])) W) : wpList Try.prog ops Q (o :: rest) a W :=
  wpList_lookup_own_ok_int W hg m x 48 hop 3 27 .u64 (int_keyed Try.underlying3) Try.underlying48 Try.underlying27 (by kernel_rfl) mb _ D hm h.m _ (kL k) hx (keyOf_int_mk Try.underlying3 (h.lg (k, t) (by simp)).1) (by
    intro c hc _
    have e1 := h.tie.at_ k t (by simp)
    rw [e1] at hc
    injection hc with hc
    injection hc with _ hc
    have e2 : Maps.has D (kL k) = true := by rw [h.tie.has]; simp [hasT]
    rw [e2, ← hc]
    exact hQ)
theorem OP.delT {ops : Array Oper} {rest : List Oper} {o : Oper} {a : Act} {Q : Exit → Act → World → Prop} (h : OP w g mb v D O L W) (k : Int) (hw : (Lit.int .i64 k).wf = true) (hg : o.guard = none) (m x : Operand) (hop : o.op = Op.call { callee := Callee.builtin Builtin.delete, args := #[m, x], argTypes := #[48, 3] })
    (hm : a.eval m = .map (some mb)) (hx : a.eval x = .int .i64 k) (hQ : ∀ W', OP w g mb v (D.del (kL k)) O (cutT L k) W' → W.mapTurned W' mb → wpList Try.prog ops Q rest (a.put o.dst (.tuple #[])) W') : wpList Try.prog ops Q (o :: rest) a W :=
  wpList_delete_own W hg m x 48 3 hop 27 (int_keyed Try.underlying3) Try.underlying48 _ mb _ D hm h.m _ (kL k) hx (keyOf_int_mk Try.underlying3 hw) (by
    intro W' h1 h2
    exact hQ W' (h.turned h1 h2 (tie_del h.tie h.lu k) (uni_filter h.lu _) (fun t ht => h.lg t (List.mem_filter.1 ht).1)) h2)
theorem OP.putT {ops : Array Oper} {rest : List Oper} {o : Oper} {a : Act} {Q : Exit → Act → World → Prop} (h : OP w g mb v D O L W) (hs : SrtT L) (hl : L.length ≤ 100) (k : Int) (t : Nat) (hw : (Lit.int .i64 k).wf = true ∧ (Lit.int .u64 (t : Int)).wf = true ∧ t ≤ lastT) (hg : o.guard = none) (m x y : Operand) (hop : o.op = Op.mapUpdate 48 m x y)
    (hm : a.eval m = .map (some mb)) (hx : a.eval x = .int .i64 k) (hy : a.eval y = .int .u64 (t : Int)) (hQ : ∀ W', OP w g mb v (D.put (kL k) (.lit (.int .u64 (t : Int)))) O (insT (cutT L k) (k, t)) W' → W.mapTurned W' mb → wpList Try.prog ops Q rest (a.put o.dst undef) W') : wpList Try.prog ops Q (o :: rest) a W :=
  wpList_mapUpdate_in W hg m x y 48 hop 3 27 (int_keyed Try.underlying3) Try.underlying48 _ mb _ D hm h.m (by unfold maxLen; omega) _ _ (kL k) hx hy (keyOf_int_mk Try.underlying3 hw.1) _ [] (plainElem_int Try.underlying27 hw.2.1) (by
    intro W' h1 h2
    exact hQ W' (h.turned h1 h2 (tie_put h.tie h.lu hs k t) (uni_put h.lu hs (k, t)) (gd_put h.lg hs (k, t) hw)) h2)
theorem OP.lenM (h : OP w g mb v D O L W) (ty : TypeId) : (Builtin.len_ #[48] ty #[.map (some mb)]).run Try.prog W = .ok (.int .i64 (L.length : Int)) W := by
  have := h.m.len Try.underlying48 ty
  rw [h.tie.size] at this
  exact this
/-- The head of the map's list is taken. -/
theorem OP.pop {k : Int} {t : Nat} (h : OP w g mb v D O (cutT ((k, t) :: L) k) W) (hu : UniT ((k, t) :: L)) : OP w g mb v D O L W := by
  have e := cut_split (P := []) (D := L) (k := k) (a := t) hu rfl
  rw [List.nil_append] at e
  rw [e] at h
  exact h
end
theorem op_new (w : World) : OP w w.heap.size (w.heap.size + 1) (.slice none 0 0) (.map []) [] [] ((w.alloc (.cells #[.int .i64 65536, .slice none 0 0] 77)).alloc (.map #[] 0)) := by
  have hb1 : Below w.heap.size w (w.alloc (.cells #[.int .i64 65536, .slice none 0 0] 77)) := (Below.refl _ w).alloc (Nat.le_refl _) _
  have hs : (w.alloc (.cells #[.int .i64 65536, .slice none 0 0] 77)).heap.size = w.heap.size + 1 := by simp
  have ht := tab_new 65536 w
  refine ⟨hb1.alloc hb1.size _, Obj.bel ht ((Below.refl _ _).alloc (Nat.le_refl _) _), fun k hk => by (cases hk), Nat.le_refl _, Nat.le_succ _, ?_, tie_nil, List.Pairwise.nil, by (unfold UniT; simp), fun t ht => (List.not_mem_nil ht).elim, by (unfold UniT; simp), fun t ht => (List.not_mem_nil ht).elim⟩
  rw [← hs]
  exact World.ownsMap_made _ _ _ _
end Go.Proofs.Ytkebgcalphajhaa
