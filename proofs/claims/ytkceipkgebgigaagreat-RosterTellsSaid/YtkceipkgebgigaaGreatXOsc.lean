/- A loop over a sequence whose body leaves at the first one that comes, and whose variable lies in a block of its own. No condition. Get of the program. Conditions: a length that an int holds. Get of the reference. Condition: a length that an int holds. -/
import Derived.Test.YtkceipkgebgigaaGreatProg
import Derived.Test.YtkceipkgebgigaaGreatXObc
import Derived.RangeFuncFrom
import Derived.RangeFuncLeaves
import Derived.Test.YtkceipkgebgigaaGreatXIil
section
namespace Go.Proofs.YtkceipkgebgigaaGreat
open Go.Shelf Go.RowKit Go.Lib Go.Great
set_option maxRecDepth 100000
set_option maxHeartbeats 400000
section
variable {F : Fence} {n : Nat} {P : Program}
theorem wpIn_first {α : Type} {g : Operand} {ps : Array Tmp} {assign body : Code} {Q : Exit → Act → World → Prop} {a : Act} {w : World}
    (hro : F.round = none) (h1 : 1 ≤ n) {gf : Nat} {lb : Array Value} (hg : a.eval g = .func (.func gf) #[] lb) (hFg : F.fn gf) (eg : ∀ args w, (callFunc gf args).run P w = .ok (.enter gf args) w)
    {encs : α → Array Value} {Kp : World → World → Prop} {S Sp : List α → Prop} {N : Nat} {w0 : World} (hseq : SeqStopsK F (n - 1) P gf lb encs Kp S Sp N w0) (hb0 : Below w0.heap.size w0 w) (hps : ∀ x, (encs x).size = ps.size)
    (T : α → Array Value) (hT : ∀ x, (ps.zip (encs x)).foldl (fun t (p, v) => t.setIfInBounds p v) a.tmps = T x)
    (I : World → Prop) (M : α → Act → World → Prop) (Ix : α → World → Prop)
    (hI : OwnFrom w.heap.size (fun (_ : Unit) W => I W)) (hM : OwnFrom w.heap.size (fun (p : α × Act) W => M p.1 p.2 W)) (hIx : OwnFrom w.heap.size Ix) (h0 : I w)
    (hassign : ∀ (l : Nat) (x : α) (W : World) (K : Act → World → Prop), I W → (∀ a1 W2, M x a1 W2 → KeepsOthers W W2 → K a1 W2) →
      assign.wpIn (F.inRound l) (n - 1 - 1) P (Exit.then K (fun _ _ _ => False)) { tmps := T x, defers := [] } W)
    (hbody : ∀ (l : Nat) (x : α) (a1 : Act) (W : World), M x a1 W → body.wpIn (F.inRound l) (n - 1 - 1) P (fun e _ W' => e = .ret ∧ KeepsOthers W W' ∧ Ix x W') a1 W)
    (hdone : ∀ (D : Nat) (W : World), w.heap.size ≤ D → S [] → I W → W.heap[D]? = some (.deferred (some [])) → Q .normal { a with defers := { target := .collected D, args := #[] } :: a.defers } W)
    (hstop : ∀ (D : Nat) (x : α) (W : World), w.heap.size ≤ D → Sp [x] → Ix x W → W.heap[D]? = some (.deferred (some [])) → Code.ret.wpIn F n P Q { a with defers := { target := .collected D, args := #[] } :: a.defers } W) :
    (Code.rangeFunc g ps assign body).wpIn F n P Q a w := by
  refine wpIn_rangeFunc (fun fn hfn => ?_)
  rw [hro]
  -- the loop's record, in its three states
  obtain ⟨R, hR⟩ : ∃ R : LoopState → Option Code → Loop, R = fun s j => { state := s, pending := j, fn, tmps := a.tmps, params := ps, assign, body, defers := w.heap.size } := ⟨_, rfl⟩
  have hen := run_enterLoop_outer (P := P) (w := w) fn a.tmps ps assign body
  rw [show ({ state := .ready, pending := none, fn, tmps := a.tmps, params := ps, assign, body, defers := w.heap.size } : Loop) = R .ready none by rw [hR]] at hen
  have sz1 : (w.alloc (.deferred (some []))).heap.size = w.heap.size + 1 := World.size_alloc _ _
  have hL : ((w.alloc (.deferred (some []))).alloc (.loop (R .ready none))).heap[w.heap.size + 1]? = some (.loop (R .ready none)) := by
    have := World.alloc_heap_new (w.alloc (.deferred (some []))) (.loop (R .ready none))
    rwa [sz1] at this
  have hD : ((w.alloc (.deferred (some []))).alloc (.loop (R .ready none))).heap[w.heap.size]? = some (.deferred (some [])) :=
    (Below.heap_alloc _ _ _ (by rw [sz1]; omega)).trans (World.alloc_heap_new w _)
  have hI1 : I ((w.alloc (.deferred (some []))).alloc (.loop (R .ready none))) := hI.alloc (s := ()) _ (hI.alloc (s := ()) _ h0)
  have hb1 : Below w0.heap.size w0 ((w.alloc (.deferred (some []))).alloc (.loop (R .ready none))) := (hb0.alloc hb0.size _).alloc (by rw [sz1]; have := hb0.size; omega) _
  have sz2 : w.heap.size ≤ ((w.alloc (.deferred (some []))).alloc (.loop (R .ready none))).heap.size := by simp; omega
  obtain ⟨W1, hW1⟩ : ∃ W1, W1 = (w.alloc (.deferred (some []))).alloc (.loop (R .ready none)) := ⟨_, rfl⟩
  rw [← hW1] at hen hL hD hI1 hb1 sz2
  clear hW1
  refine ⟨w.heap.size + 1, [{ target := .collected w.heap.size, args := #[] }], W1, { target := .fn (.func gf) lb, args := #[.func (.yield (w.heap.size + 1)) #[] #[]] }, W1, gf, #[.func (.yield (w.heap.size + 1)) #[] #[]] ++ lb, W1, hen, ?_, ?_, ?_, fun _ => h1, ?_⟩
  · simp only [resolve, hg]
    simp [go_sem]
  · intro f' hf'
    simp [Target.leads] at hf'
    subst hf'
    exact hFg
  · simp [invoke, go_sem, eg]
  have noc : ∀ {A : World} {row : Option Nat}, (∀ r, row = some r → W1.heap.size ≤ r ∧ ∃ o : Obj, A.heap[r]? = some o ∧ o.isWalk = true) → ∀ r, row = some r → w.heap.size ≤ r ∧ ∃ o : Obj, A.heap[r]? = some o ∧ o.isCells = false := fun hr r e => by
    obtain ⟨hB, o, ho, hw⟩ := hr r e
    exact ⟨by omega, o, ho, Obj.not_cells_of_walk hw⟩
  refine (hseq (w.heap.size + 1) (fun pre W => pre = [] ∧ I W ∧ W.heap[w.heap.size + 1]? = some (.loop (R .ready none)) ∧ W.heap[w.heap.size]? = some (.deferred (some [])))
    (fun pre W => ∃ x, pre = [x] ∧ Ix x W ∧ W.heap[w.heap.size + 1]? = some (.loop (R .done (some .ret))) ∧ W.heap[w.heap.size]? = some (.deferred (some []))) W1 hb1 ?_ ?_ ?_ ⟨rfl, hI1, hL, hD⟩).mono ?_
  · rintro s A B row ⟨q0, q1, q2, q3⟩ hgr hr
    exact ⟨q0, hI () A B row q1 hgr (noc hr), (grownBy_keeps hgr (fun r e => (hr r e).2) q2 rfl).trans q2, (grownBy_keeps hgr (fun r e => (hr r e).2) q3 rfl).trans q3⟩
  · rintro s A B row ⟨x, q0, q1, q2, q3⟩ hgr hr
    exact ⟨x, q0, hIx x A B row q1 hgr (noc hr), (grownBy_keeps hgr (fun r e => (hr r e).2) q2 rfl).trans q2, (grownBy_keeps hgr (fun r e => (hr r e).2) q3 rfl).trans q3⟩
  · rintro pre x W ⟨rfl, hi, hl, hd⟩ _
    have hy := run_yield (P := P) (args := encs x) hl (by rw [hR]; exact hps x)
    rw [hR] at hy
    refine ⟨fn, _, assign, body, hy, roundIn_of_wpIn hfn ?_⟩
    simp only [hT]
    refine hassign _ x W _ hi (fun a1 W2 hm hk2 => ?_)
    have hl2 := hk2.same _ _ hl rfl
    have hd2 := hk2.same _ _ hd rfl
    refine ⟨_, run_beginRound hl2 (by rw [hR]), ?_⟩
    have hlt := (Array.getElem?_eq_some_iff.1 hl2).1
    have hl3 : (W2.putObj (w.heap.size + 1) (.loop { R .ready none with state := .busy })).heap[w.heap.size + 1]? = some (.loop { R .ready none with state := .busy }) := World.putObj_heap_same hlt
    have hd3 : (W2.putObj (w.heap.size + 1) (.loop { R .ready none with state := .busy })).heap[w.heap.size]? = some (.deferred (some [])) := (World.putObj_heap_other (by omega)).trans hd2
    refine wpIn_mono (hbody _ x a1 _ (hM.putObj (s := (x, a1)) _ hm (by omega) hl2 rfl)) ?_
    rintro e a3 W3 ⟨rfl, hk3, hx3⟩
    have hl4 := hk3.same _ _ hl3 rfl
    have hd4 := hk3.same _ _ hd3 rfl
    refine ⟨_, _, run_endRound (some .ret) hl4, .inr ⟨rfl, x, rfl, hIx.putObj _ hx3 (by omega) hl4 rfl, ?_, (World.putObj_heap_other (by omega)).trans hd4⟩⟩
    rw [World.putObj_heap_same (Array.getElem?_eq_some_iff.1 hl4).1, hR]
    rfl
  · rintro e W2 ⟨⟨v, rfl⟩, ⟨xs, hS, rfl, hi, hl, hd⟩ | ⟨pre, hSp, x, rfl, hx, hl, hd⟩⟩
    · refine ⟨_, _, run_endLoop hl (by rw [hR]; simp), ?_⟩
      rw [hR]
      exact hdone _ _ (Nat.le_refl _) hS (hI.putObj (s := ()) _ hi (by omega) hl rfl) ((World.putObj_heap_other (by omega)).trans hd)
    · refine ⟨_, _, run_endLoop hl (by rw [hR]; simp), ?_⟩
      rw [hR]
      exact hstop _ x _ (Nat.le_refl _) hSp (hIx.putObj _ hx (by omega) hl rfl) ((World.putObj_heap_other (by omega)).trans hd)
end
end Go.Proofs.YtkceipkgebgigaaGreat
end
section
namespace Go.Proofs.YtkceipkgebgigaaGreat
open Go.Shelf Go.RowKit Go.Lib Go.Great
set_option maxRecDepth 100000
set_option maxHeartbeats 400000
/-- What Get tells. -/
def getV (L : List Ins) (p : List UInt8) : Ins × Bool := match L.filter (fun x => x.pub == p) with
  | [] => (zeroI, false)
  | x :: _ => (x, true)
theorem wpListIn_build28z {F : Fence} {n : Nat} {ops : Array Oper} {rest : List Oper} {o : Oper} {a : Act} {w : World} {Q : Exit → Act → World → Prop} (hw : Region.wanted o (yielded ops a.tmps) = true) (ho : o.op = .build 29 #[])
    (h : wpListIn F n Tryz.prog ops Q rest (a.put o.dst (.agg (encI zeroI).toArray)) w) : wpListIn F n Tryz.prog ops Q (o :: rest) a w :=
  BigFrame.wpListIn_want hw fun K hK => by
    refine ⟨fun f hf => by simp [Oper.about, ho] at hf, ?_⟩
    rw [Oper.semAt_plain F _ _ (by rw [ho]; intro c hc'; cases hc')]
    unfold execOp
    simp only [ho, List.map_toArray, List.map_nil, Sem.run_bind, build28z, Result.andThen_ok, Sem.run_pure]
    exact hK _ _ h
theorem results_two28 {fn : Func} {p u : Tmp} (h : fn.results = #[.cell p 29, .cell u 4]) (tmps : Array Value) (w : World) (b b' : Nat) (i : Ins) (x : Bool) (hp : tmps.getD p undef = .pointer (some ⟨b, 0, none⟩)) (hx : tmps.getD u undef = .pointer (some ⟨b', 0, none⟩))
    (hc : w.heap[b]? = some (.cells (encI i).toArray 29 (0, 0))) (hc' : w.heap[b']? = some (.cells #[.bool x] 4 (0, 0))) : (results fn tmps).run Tryz.prog w = .ok (.tuple #[.agg (encI i).toArray, .bool x]) w := by
  have h1 := load28 (row_range hc)
  have h2 : (loadVar 4 ⟨b', 0, none⟩).run Tryz.prog w = .ok (.bool x) w := by
    have hx : w.cell? ⟨b', 0, none⟩ = some (.bool x) := by simp [World.cell?, hc']
    go_simp
  have hp' : tmps[p]?.getD undef = .pointer (some ⟨b, 0, none⟩) := by simpa using hp
  have hx' : tmps[u]?.getD undef = .pointer (some ⟨b', 0, none⟩) := by simpa using hx
  simp [results, h, hp', hx', h1, h2, asAddr]
/-- What lies in the results' blocks. -/
structure GetW (w : World) (i : Ins) (x : Bool) (W : World) : Prop where
  be : Below w.heap.size w W
  h4 : W.heap[w.heap.size + 1]? = some (.cells (encI i).toArray 29 (0, 0))
  h5 : W.heap[w.heap.size + 1 + 1]? = some (.cells #[.bool x] 4 (0, 0))
theorem GetW.own {w : World} {i : Ins} {x : Bool} {B : Nat} (hB : w.heap.size ≤ B) {W W' : World} {row : Option Nat} (h : GetW w i x W) (hg : W.grownBy W' row) (hr : ∀ r, row = some r → B ≤ r ∧ ∃ o : Obj, W.heap[r]? = some o ∧ o.isCells = false) : GetW w i x W' :=
  ⟨h.be.grown hg h.be.size (fun k e => Nat.le_trans hB (hr k e).1), (grownBy_keeps_cells hg (fun r e => (hr r e).2) h.h4 rfl).trans h.h4, (grownBy_keeps_cells hg (fun r e => (hr r e).2) h.h5 rfl).trans h.h5⟩
theorem GetW.store {w W : World} {i j : Ins} {x y : Bool} (h : GetW w i x W) : W.there (w.heap.size + 1) 0 28 ∧ (W.setCells (w.heap.size + 1) 0 (encI j)).cell? ⟨w.heap.size + 1 + 1, 0, none⟩ = some (.bool x) ∧ (W.setCells (w.heap.size + 1) 0 (encI j)).frozen? ⟨w.heap.size + 1 + 1, 0, none⟩ = false ∧
    GetW w j y ((W.setCells (w.heap.size + 1) 0 (encI j)).setCell ⟨w.heap.size + 1 + 1, 0, none⟩ (.bool y)) ∧ KeepsOthers W ((W.setCells (w.heap.size + 1) 0 (encI j)).setCell ⟨w.heap.size + 1 + 1, 0, none⟩ (.bool y)) := by
  have ht := row_there h.h4
  rw [encI_length] at ht
  have hg : W.grownBy (W.setCells (w.heap.size + 1) 0 (encI j)) (some (w.heap.size + 1)) := grown_cells (encI j) 0 W (World.grownBy.refl W _)
  have h4 := heap_setCells_row (w.heap.size + 1) 29 (encI j) 0 (encI i) W h.h4 (by rw [encI_length, encI_length]; omega)
  rw [List.take_zero, List.nil_append, List.drop_of_length_le (by rw [encI_length, encI_length]; omega), List.append_nil] at h4
  have l5 := (Array.getElem?_eq_some_iff.1 h.h5).1
  have h5 : (W.setCells (w.heap.size + 1) 0 (encI j)).heap[w.heap.size + 1 + 1]? = some (.cells #[.bool x] 4 (0, 0)) := (hg.block _ l5 (by intro e; injection e with e; omega)).trans h.h5
  have hbx : Boxed (W.setCells (w.heap.size + 1) 0 (encI j)) (w.heap.size + 1 + 1) 4 (.bool x) := h5
  have hk1 : KeepsOthers W (W.setCells (w.heap.size + 1) 0 (encI j)) := KeepsOthers.of_grownBy hg (fun k o ek hk => by
    injection ek with ek
    rw [← ek, h.h4] at hk
    injection hk with hk
    subst hk
    rfl)
  refine ⟨ht, hbx.cell, hbx.frozen, ⟨?_, ?_, hbx.set _⟩, hk1.trans (KeepsOthers.setCell _ _ _)⟩
  · exact (below_cellsE (by omega) _ _ _ h.be).setCell (p := ⟨w.heap.size + 1 + 1, 0, none⟩) (by simp; omega) _
  · exact (Below.heap_setCell _ _ _ _ (by simp)).trans h4
theorem heap5 (w : World) (a b c d e : Obj) : let W := ((((w.alloc a).alloc b).alloc c).alloc d).alloc e
    W.heap[w.heap.size]? = some a ∧ W.heap[w.heap.size + 1]? = some b ∧ W.heap[w.heap.size + 1 + 1]? = some c ∧ W.heap[w.heap.size + 1 + 1 + 1]? = some d ∧ W.heap[w.heap.size + 1 + 1 + 1 + 1]? = some e ∧ Below w.heap.size w W ∧ W.heap.size = w.heap.size + 5 := by
  intro W
  refine ⟨?_, ?_, ?_, ?_, ?_, (((((Below.refl _ w).alloc (Nat.le_refl _) _).alloc (by simp) _).alloc (by simp; omega) _).alloc (by simp; omega) _).alloc (by simp; omega) _, by simp [W]⟩
  all_goals
    show (((((w.heap.push a).push b).push c).push d).push e)[_]? = _
    simp only [Array.getElem?_push, Array.size_push]
    repeat (first | rw [if_pos trivial] | rw [if_pos (by omega)] | rw [if_neg (by omega)])
/-- Where a round of Get stands. -/
def GetM (w : World) (T : Ins → Nat → Array Value) (x : Ins) (a1 : Act) (W : World) : Prop := GetW w zeroI false W ∧ ∃ b6, a1 = { tmps := T x b6, defers := [] } ∧ W.heap[b6]? = some (.cells (encI x).toArray 29 (0, 0))
theorem get_any (A : Option Addr) (c : Nat) (L : List Ins) (p : List UInt8) (hp : p.length = 20) (w : World) (hL : L.length ≤ 9223372036854775807) (hA : IAt w w.heap.size A L) :
    Calls Tryz.prog 10 #[.slice A L.length c, .agg (bcells p).toArray] w fun e w' => e = .returned (.tuple #[.agg (encI (getV L p).1).toArray, .bool (getV L p).2]) ∧ Below w.heap.size w w' := by
  have HCH := Lib.hid (fun W => chosen_any A L.length c (.func (.func 37) #[] #[.pointer (some ⟨w.heap.size, 0, none⟩)]) ⟨_, _, rfl⟩ W)
  have HP := Lib.hid hp
  have HL := Lib.hid hL
  have HA := Lib.hid hA
  obtain ⟨k1, k2, k3, k4, k5, kb, ks⟩ := heap5 w (.cells (bcells p).toArray 24) (.cells (encI zeroI).toArray 29) (.cells #[.bool false] 4) (.cells #[.slice A L.length c] 22) (.cells #[.func (.func 37) #[] #[.pointer (some ⟨w.heap.size, 0, none⟩)]] 47)
  obtain ⟨W5, hW5⟩ : ∃ W5, W5 = (((((w.alloc (.cells (bcells p).toArray 24)).alloc (.cells (encI zeroI).toArray 29)).alloc (.cells #[.bool false] 4)).alloc (.cells #[.slice A L.length c] 22)).alloc (.cells #[.func (.func 37) #[] #[.pointer (some ⟨w.heap.size, 0, none⟩)]] 47)) := ⟨_, rfl⟩
  have HW5 := Lib.hid hW5
  rw [← hW5] at k1 k2 k3 k4 k5 kb ks
  have HG : Hid (GetW w zeroI false W5) := Lib.hid ⟨kb, k2, k3⟩
  have HK := Lib.hid (And.intro k1 (And.intro k4 k5))
  have HKB := Lib.hid kb
  have HKS := Lib.hid ks
  have HNONE : Hid ([] = L.filter (fun x => x.pub == p) → getV L p = (zeroI, false)) := Lib.hid (fun h => by unfold getV; rw [← h])
  have HONE : Hid (∀ x, [x] <+: L.filter (fun x => x.pub == p) → getV L p = (x, true)) := Lib.hid (fun x h => by
    obtain ⟨t, ht⟩ := h
    unfold getV
    rw [← ht]
    rfl)
  clear hp hL hA k1 k2 k3 k4 k5 kb ks hW5
  refine (callsIn_wide (n := 20)).1 ?_
  refine callsIn_of_wp_marks Tryz.func10 rfl trivial ?_ rfl
  simp only [Tryz.ntmps10, List.size_toArray, List.length_cons, List.length_nil, Nat.reduceAdd, Nat.reduceSub, Array.replicate_succ, Array.replicate_zero, List.push_toArray, List.append_toArray, List.nil_append, List.cons_append]
  gi_wp2_with (first
    | (with_reducible refine wpListIn_alloc28 (o := ⟨some 4, _, _, _, _, _⟩) (w.heap.size + 1) (by simp) rfl 4 rfl rfl ?_)
    | (refine ⟨trivial, ?_⟩; gi_at_call 36; (with_reducible refine (callsIn_wide.2 (HCH.out _)).mono ?_); rintro e w' ⟨rfl, rfl⟩))
  rw [← HW5.out]
  obtain ⟨hk1, hk4, hk5⟩ := HK.out
  have hks := HKS.out
  have hsz : w.heap.size ≤ W5.heap.size := by omega
  refine wpIn_first (encs := fun x => #[.agg (encI x).toArray]) rfl (by omega) (gf := 73) (lb := #[.pointer (some ⟨w.heap.size + 1 + 1 + 1, 0, none⟩), .pointer (some ⟨w.heap.size + 1 + 1 + 1 + 1, 0, none⟩)]) rfl trivial (enters_of Tryz.func73 (by kernel_rfl) rfl)
    (chosen_stops (20 - 1) (by omega) A c L (fun x => x.pub == p) #[.pointer (some ⟨w.heap.size, 0, none⟩)] (w.heap.size + 1 + 1 + 1) (w.heap.size + 1 + 1 + 1 + 1) W5.heap.size W5 HL.out (Nat.le_refl _) (by omega) (by omega)
      (Boxed.cell hk4) (Boxed.cell hk5) ((HA.out.below HKB.out).more hsz) (fun x W hW => (get1_any x p HP.out w.heap.size W ((hW.block _ (by omega)).trans hk1)).mono (by rintro e w' ⟨rfl, hb⟩; exact ⟨rfl, hb⟩)))
    (Below.refl _ _) (fun _ => rfl) (fun x => #[.slice A L.length c, .agg (bcells p).toArray, undef, .pointer (some ⟨w.heap.size, 0, none⟩), .pointer (some ⟨w.heap.size + 1, 0, none⟩), .pointer (some ⟨w.heap.size + 1 + 1, 0, none⟩), undef, .slice A L.length c, .func (.func 37) #[] #[.pointer (some ⟨w.heap.size, 0, none⟩)], .func (.func 73) #[] #[.pointer (some ⟨w.heap.size + 1 + 1 + 1, 0, none⟩), .pointer (some ⟨w.heap.size + 1 + 1 + 1 + 1, 0, none⟩)], .agg (encI x).toArray, undef, undef]) (fun x => by simp) (GetW w zeroI false)
    (GetM w (fun x b6 => #[.slice A L.length c, .agg (bcells p).toArray, undef, .pointer (some ⟨w.heap.size, 0, none⟩), .pointer (some ⟨w.heap.size + 1, 0, none⟩), .pointer (some ⟨w.heap.size + 1 + 1, 0, none⟩), .pointer (some ⟨b6, 0, none⟩), .slice A L.length c, .func (.func 37) #[] #[.pointer (some ⟨w.heap.size, 0, none⟩)], .func (.func 73) #[] #[.pointer (some ⟨w.heap.size + 1 + 1 + 1, 0, none⟩), .pointer (some ⟨w.heap.size + 1 + 1 + 1 + 1, 0, none⟩)], .agg (encI x).toArray, undef, undef]))
    (fun x => GetW w x true)
    (fun _ _ _ _ h hg hr => h.own hsz hg hr)
    (fun q A B row h hg hr => by
      obtain ⟨h1, b6, e6, h6⟩ := h
      exact ⟨h1.own hsz hg hr, b6, e6, (grownBy_keeps_cells hg (fun r e => (hr r e).2) h6 rfl).trans h6⟩)
    (fun _ _ _ _ h hg hr => h.own hsz hg hr) HG.out ?assign ?body ?done ?stop
  case assign =>
    intro l x W K hI hK
    have hsem := Oper.semAt_some l
    have HI := Lib.hid hI
    have HKK := Lib.hid hK
    clear hI hK
    gi_wp2_with (first
      | (with_reducible refine wpListIn_alloc28 (o := ⟨some 6, _, _, _, _, _⟩) W.heap.size rfl rfl 6 rfl rfl ?_)
      | ((with_reducible refine wpListIn_store28n (o := ⟨none, _, _, _, _, _⟩) rfl (.tmp 6) (.tmp 10) rfl W.heap.size rfl zeroI x ?_ ?_ ?_); rfl; rfl))
    exact HKK.out _ _ ⟨HI.out.own hsz (World.grownBy_alloc W _ none) (fun r e => by cases e), W.heap.size, rfl, heap_alloc_new W _⟩ (KeepsOthers.alloc W _)
  case body =>
    rintro l x a1 W ⟨hg, b6, rfl, h6⟩
    have hsem := Oper.semAt_some l
    obtain ⟨ht, hc5, hf5, hg2, hk2⟩ := hg.store (j := x) (y := true)
    have HT := Lib.hid ht
    have HG2 := Lib.hid hg2
    have HK2 := Lib.hid hk2
    have H6 := Lib.hid (load28 (row_range h6))
    clear ht hg2 hk2 hg h6
    gi_wp2_with (first
      | ((with_reducible refine wpListIn_loadV (o := ⟨some 11, _, _, _, _, _⟩) rfl 29 (.tmp 6) rfl _ ?_ _ H6.out ?_); rfl)
      | ((with_reducible refine wpListIn_store28 (o := ⟨none, _, _, _, _, _⟩) rfl (.tmp 4) (.tmp 11) rfl (w.heap.size + 1) x ?_ ?_ HT.out ?_); rfl; rfl))
    exact ⟨HK2.out, HG2.out⟩
  case done =>
    rintro D W hD hS hg hK
    obtain ⟨ht, hc5, hf5, hg2, hk2⟩ := hg.store (j := zeroI) (y := false)
    have HT := Lib.hid ht
    have HG2 := Lib.hid hg2
    have HKD := Lib.hid (hk2.same D _ hK rfl)
    have HV := Lib.hid (HNONE.out hS)
    clear ht hg2 hk2 hg hK hS
    gi_wp2_with (first
      | (with_reducible refine wpListIn_build28z (o := ⟨some 12, _, _, _, _, _⟩) rfl rfl ?_)
      | ((with_reducible refine wpListIn_store28 (o := ⟨none, _, _, _, _, _⟩) rfl (.tmp 4) (.tmp 12) rfl (w.heap.size + 1) zeroI ?_ ?_ HT.out ?_); rfl; rfl))
    refine ⟨by simp, .inl ⟨_, _, rfl, run_takeDeferred HKD.out, ?_⟩⟩
    have hgD := HG2.out.own hsz (grownBy_putObj' _ D (.deferred none)) (fun r e => by cases e; exact ⟨hD, _, HKD.out, rfl⟩)
    refine ⟨_, results_two28 rfl _ _ (w.heap.size + 1) (w.heap.size + 1 + 1) zeroI false rfl rfl hgD.h4 hgD.h5, ?_, hgD.be⟩
    rw [HV.out]
  case stop =>
    rintro D x W hD hS hg hK
    have HV := Lib.hid (HONE.out x hS)
    have HKD := Lib.hid hK
    have HG2 := Lib.hid hg
    clear hS hg hK
    gi_wp2
    refine ⟨by simp, .inl ⟨_, _, rfl, run_takeDeferred HKD.out, ?_⟩⟩
    have hgD := HG2.out.own hsz (grownBy_putObj' _ D (.deferred none)) (fun r e => by cases e; exact ⟨hD, _, HKD.out, rfl⟩)
    refine ⟨_, results_two28 rfl _ _ (w.heap.size + 1) (w.heap.size + 1 + 1) x true rfl rfl hgD.h4 hgD.h5, ?_, hgD.be⟩
    rw [HV.out]
end Go.Proofs.YtkceipkgebgigaaGreat
end
section
namespace Go.Proofs.YtkceipkgebgigaaGreat
open Go.Shelf Go.RowKit Go.Lib Go.Great
set_option maxRecDepth 100000
set_option maxHeartbeats 400000
theorem filter_none {L : List Ins} {q : Ins → Bool} {k : Nat} (hk : k ≤ L.length) (h : ∀ j, j < k → q L[j]! = false) : (L.take k).filter q = [] := by
  rw [List.filter_eq_nil_iff]
  intro x hx
  obtain ⟨j, hj, rfl⟩ := List.getElem_of_mem hx
  rw [List.length_take] at hj
  have := h j (by omega)
  rw [getElem!_pos L j (by omega)] at this
  rw [List.getElem_take, this]
  decide
theorem getV_hit {L : List Ins} {p : List UInt8} {k : Nat} (hk : k < L.length) (h : ∀ j, j < k → (L[j]!.pub == p) = false) (he : (L[k]!.pub == p) = true) : getV L p = (L[k]!, true) := by
  have e := filter_at L (fun x => x.pub == p) k hk
  rw [filter_none (q := fun x => x.pub == p) (by omega) h] at e
  simp only [he, if_true, List.nil_append, List.singleton_append] at e
  unfold getV
  rw [e]
theorem getV_none {L : List Ins} {p : List UInt8} (h : ∀ j, j < L.length → (L[j]!.pub == p) = false) : getV L p = (zeroI, false) := by
  have e := filter_none (L := L) (q := fun x => x.pub == p) (Nat.le_refl _) h
  rw [List.take_length] at e
  unfold getV
  rw [e]
theorem results_cell2z {fn : Func} {p u : Tmp} (h : fn.results = #[.cell p 29, .tmp u]) (tmps : Array Value) (w : World) (b : Nat) (i : Ins) (x : Value) (hp : tmps.getD p undef = .pointer (some ⟨b, 0, none⟩)) (hx : tmps.getD u undef = x)
    (hc : w.heap[b]? = some (.cells (encI i).toArray 29 (0, 0))) : (results fn tmps).run Tryz.prog w = .ok (.tuple #[.agg (encI i).toArray, x]) w := by
  have h1 := load28 (row_range hc)
  have hp' : tmps[p]?.getD undef = .pointer (some ⟨b, 0, none⟩) := by simpa using hp
  have hx' : tmps[u]?.getD undef = x := by simpa using hx
  simp [results, h, hp', hx', h1, asAddr]
theorem rget_any (A : Option Addr) (c : Nat) (L : List Ins) (p : List UInt8) (hp : p.length = 20) (w : World) (hL : L.length ≤ 9223372036854775807) (hA : IAt w w.heap.size A L) :
    Calls Tryz.prog 11 #[.slice A L.length c, .agg (bcells p).toArray] w fun e w' => e = .returned (.tuple #[.agg (encI (getV L p).1).toArray, .bool (getV L p).2]) ∧ Below w.heap.size w w' := by
  obtain ⟨k1, k2, hb⟩ := heap2 w (.cells (bcells p).toArray 24) (.cells (encI zeroI).toArray 29)
  obtain ⟨w2, hw2⟩ : ∃ y, y = (w.alloc (.cells (bcells p).toArray 24)).alloc (.cells (encI zeroI).toArray 29) := ⟨_, rfl⟩
  have HW2 := Lib.hid hw2
  rw [← hw2] at k1 k2 hb
  have l1 := (Array.getElem?_eq_some_iff.1 k1).1
  have l2 := (Array.getElem?_eq_some_iff.1 k2).1
  have HP : Hid (∀ W, Below w2.heap.size w2 W → (loadVar 24 ⟨w.heap.size, 0, none⟩).run Tryz.prog W = .ok (.agg (bcells p).toArray) W) := Lib.hid (fun W hW => run_loadVar_mid W w.heap.size 0 24 (bcells p) _ (row_range ((hW.block _ l1).trans k1)) Tryz.underlying24 rfl (by rw [bcells_length, hp]; exact size23i))
  have HLD : Hid (∀ k, k < L.length → ∃ b off, A = some ⟨b, off, none⟩ ∧ ∀ W, Below w2.heap.size w2 W → (loadVar 29 ⟨b, off + k * 28, none⟩).run Tryz.prog W = .ok (.agg (encI L[k]!).toArray) W ∧ (loadVar 24 ⟨b, off + k * 28, none⟩).run Tryz.prog W = .ok (.agg (bcells L[k]!.pub).toArray) W) := Lib.hid (fun k hk => by
    rcases hA with rfl | ⟨g, off, rfl, hg, hr⟩
    · simp at hk
    · refine ⟨g, off, rfl, fun W hW => ?_⟩
      have hbw := hb.trans (hW.mono hb.size)
      exact ⟨row_load hr hg hbw hk, load23 (row_at (rangeAt_below hr (hbw.block g hg)) hk)⟩)
  have HST : Hid (∀ W (x : Ins), Below w2.heap.size w2 W → W.there (w.heap.size + 1) 0 28 ∧ Below w.heap.size w (W.setCells (w.heap.size + 1) 0 (encI x)) ∧ (W.setCells (w.heap.size + 1) 0 (encI x)).heap[w.heap.size + 1]? = some (.cells (encI x).toArray 29 (0, 0))) := Lib.hid (fun W x hW => by
    have h2 := (hW.block _ l2).trans k2
    have ht := row_there h2
    rw [encI_length] at ht
    have h4 := heap_setCells_row (w.heap.size + 1) 29 (encI x) 0 (encI zeroI) W h2 (by rw [encI_length, encI_length]; omega)
    rw [List.take_zero, List.nil_append, List.drop_of_length_le (by rw [encI_length, encI_length]; omega), List.append_nil] at h4
    exact ⟨ht, below_cellsE (by omega) _ _ _ (hb.trans (hW.mono hb.size)), h4⟩)
  have HHIT : Hid (∀ k, k < L.length → (∀ j, j < k → (L[j]!.pub == p) = false) → (L[k]!.pub == p) = true → getV L p = (L[k]!, true)) := Lib.hid (fun k hk h he => getV_hit hk h he)
  have HNO : Hid ((∀ j, j < L.length → (L[j]!.pub == p) = false) → getV L p = (zeroI, false)) := Lib.hid (fun h => getV_none h)
  have HLP : Hid (∀ k : Nat, (L[k]!).pub.length = 20) := Lib.hid (fun k => (L[k]!).hp)
  have HPP := Lib.hid hp
  have HBZ := Lib.hid build28z
  generalize hV : getV L p = V at *
  generalize hn : L.length = n at *
  clear k1 k2 l1 l2 hb hw2 hA hp hV
  go_enter Tryz.func11, Tryz.ntmps11
  go_upto_region 1 with (first | (with_reducible refine wpList_alloc28 (o := ⟨some 4, _, _, _, _, _⟩) (w.heap.size + 1) (by simp) rfl 4 rfl rfl ?_))
  rw [← HW2.out]
  go_wp2
  go_loopw [6] (fun i wr => ∃ k : Nat, i = .int .i64 (k : Int) ∧ k ≤ n ∧ (∀ j, j < k → (L[j]!.pub == p) = false) ∧ Below w2.heap.size w2 wr) (fun i _ => n - (RowKit.intOf i).toNat)
  case atStart => exact ⟨0, rfl, by omega, fun j hj => by omega, Below.refl _ _⟩
  case round =>
    obtain ⟨k, rfl, hk, hF, hbr⟩ := hrel
    have HD := Lib.hid hF
    clear hF
    by_cases hlt : k < n
    · have hlt' : (k : Int) < (n : Int) := by omega
      obtain ⟨b, off, rfl, hld⟩ := HLD.out k hlt
      have HQY : Hid (∀ q : Kept wr.heap.size wr, (loadVar 24 ⟨b, off + k * 28, none⟩).run Tryz.prog q.val = .ok (.agg (bcells L[k]!.pub).toArray) q.val) := Lib.hid (fun q => (hld _ (hbr.trans (q.property.mono hbr.size))).2)
      have HQP : Hid (∀ q : Kept wr.heap.size wr, (loadVar 24 ⟨w.heap.size, 0, none⟩).run Tryz.prog q.val = .ok (.agg (bcells p).toArray) q.val) := Lib.hid (fun q => HP.out _ (hbr.trans (q.property.mono hbr.size)))
      have HL29 : Hid (∀ W, Below wr.heap.size wr W → (loadVar 29 ⟨b, off + k * 28, none⟩).run Tryz.prog W = .ok (.agg (encI L[k]!).toArray) W) := Lib.hid (fun W hW => (hld _ (hbr.trans (hW.mono hbr.size))).1)
      have HBW : Hid (∀ W, Below wr.heap.size wr W → Below w2.heap.size w2 W) := Lib.hid (fun W hW => hbr.trans (hW.mono hbr.size))
      have HHK := HHIT.out k hlt HD.out
      have HDK : Hid ((L[k]!.pub == p) = false → ∀ j, j < k + 1 → (L[j]!.pub == p) = false) := Lib.hid (fun h j hj => by
        rcases Nat.lt_or_ge j k with h' | h'
        · exact HD.out j h'
        · obtain rfl : j = k := by omega
          exact h)
      have heq := fun W => eq23 L[k]!.pub p (HLP.out k) HPP.out W 9998
      clear HLD HP HHIT HNO HD hld hbr HLP
      generalize L[k]! = Y at *
      cases he : (Y.pub == p)
      · rw [he] at heq
        have HX := Lib.hid (HDK.out he)
        clear HHK HDK he HST HL29
        go_upto_region 4 with fail
        refine wp_region_kept wr.heap.size wr (Below.refl _ _) (by kernel_rfl) (by kernel_rfl) ?_
        repeat (first
          | (go_big_quiet_want; (with_reducible refine quiet_loadV 24 (.tmp 16) rfl _ ?_ _ HQY.out ?_); rfl; simp only [Act.put, List.setIfInBounds_toArray, List.set_cons_zero, List.set_cons_succ]; go_big_quiet_on)
          | (go_big_quiet_want; (with_reducible refine quiet_loadV 24 (.tmp 3) rfl _ ?_ _ HQP.out ?_); rfl; simp only [Act.put, List.setIfInBounds_toArray, List.set_cons_zero, List.set_cons_succ]; go_big_quiet_on)
          | go_big_quiet_step (fail))
        refine wpQuiet_nil ?_
        rintro wk ⟨⟨_, hwk⟩, rfl⟩
        have HB := Lib.hid (HBW.out _ hwk)
        clear hwk
        go_wp2
        go_roundw
        case rel => exact ⟨k + 1, by go_num, by omega, HX.out, HB.out⟩
        case measure => simp [RowKit.intOf]; omega
      · rw [he] at heq
        have HX := Lib.hid (HHK he)
        clear HHK HDK he
        go_upto_region 4 with fail
        refine wp_region_kept wr.heap.size wr (Below.refl _ _) (by kernel_rfl) (by kernel_rfl) ?_
        repeat (first
          | (go_big_quiet_want; (with_reducible refine quiet_loadV 24 (.tmp 16) rfl _ ?_ _ HQY.out ?_); rfl; simp only [Act.put, List.setIfInBounds_toArray, List.set_cons_zero, List.set_cons_succ]; go_big_quiet_on)
          | (go_big_quiet_want; (with_reducible refine quiet_loadV 24 (.tmp 3) rfl _ ?_ _ HQP.out ?_); rfl; simp only [Act.put, List.setIfInBounds_toArray, List.set_cons_zero, List.set_cons_succ]; go_big_quiet_on)
          | go_big_quiet_step (fail))
        refine wpQuiet_nil ?_
        rintro wk ⟨⟨_, hwk⟩, rfl⟩
        have hst := HST.out _ Y (HBW.out _ hwk)
        have hl := Lib.hid (HL29.out _ hwk)
        clear hwk HST HL29 HBW
        go_wp2_with (first
          | ((with_reducible refine wpList_loadV (op := ⟨some 23, _, _, _, _, _⟩) rfl 29 (.tmp 22) rfl _ ?_ _ hl.out ?_); rfl)
          | ((with_reducible refine wpList_store28 (o := ⟨none, _, _, _, _, _⟩) rfl (.tmp 4) (.tmp 23) rfl (w.heap.size + 1) Y ?_ ?_ hst.1 ?_); rfl; rfl))
        refine bodyPost_ret (results_cell2z rfl _ _ (w.heap.size + 1) Y (.bool true) rfl rfl hst.2.2) rfl ?_
        exact ⟨by rw [HX.out], hst.2.1⟩
    · obtain rfl : k = n := by omega
      have HX := Lib.hid (HNO.out HD.out)
      have hst := HST.out _ zeroI hbr
      clear HLD HP HHIT HNO HD hbr HLP HST
      go_wp2_with (first
        | ((with_reducible refine wpList_buildV (o := ⟨some 24, _, _, _, _, _⟩) rfl 29 _ rfl _ ?_ _ (HBZ.out _) ?_); (simp only [List.map_toArray, List.map_nil]))
        | ((with_reducible refine wpList_store28 (o := ⟨none, _, _, _, _, _⟩) rfl (.tmp 4) (.tmp 24) rfl (w.heap.size + 1) zeroI ?_ ?_ hst.1 ?_); rfl; rfl))
      refine bodyPost_ret (results_cell2z rfl _ _ (w.heap.size + 1) zeroI (.bool false) rfl rfl hst.2.2) rfl ?_
      exact ⟨by rw [HX.out], hst.2.1⟩
end Go.Proofs.YtkceipkgebgigaaGreat
end
