/- A reader whose bytes lie below a bound; Take of it. Conditions: at most 900,000 bytes. Contract of next of package contact. Conditions: at most 900,000 bytes. Contract of next of package contact. Conditions: at most 900,000 bytes. -/
import Derived.Test.YtbfhfnbhfeedbaaXCdg
section
namespace Go.Proofs.Ytbfhfnbhfeedbaa
open Go.Shelf Go.RowKit Go.Lib Go.Sort Go.Great
set_option maxRecDepth 100000
set_option maxHeartbeats 1000000
/-- A reader whose bytes lie in a block below B. -/
def RdrB (w : World) (g : Nat) (s : St) (B : Nat) : Prop :=
  ∃ A c, w.heap[g]? = some (.cells #[.slice A s.ys.length c, .bool true, .bool s.bad] 127 (0, 0)) ∧ BAt w B A s.ys ∧ s.ys.length ≤ c ∧ (s.bad = true → s.ys = []) ∧ s.ys.length ≤ 900000 ∧ B ≤ w.heap.size
section
variable {w w' : World} {g B : Nat} {s : St}
theorem RdrB.rs (h : RdrB w g s B) : RdrS w g s := by
  obtain ⟨A, c, hh, hx, hc, hb, hl, hB⟩ := h
  exact ⟨⟨A, c, hh, hx.more hB, hc⟩, hb, hl⟩
theorem RdrS.rb (h : RdrS w g s) : RdrB w g s w.heap.size := by
  obtain ⟨⟨A, c, hh, hx, hc⟩, hb, hl⟩ := h
  exact ⟨A, c, hh, hx, hc, hb, hl, Nat.le_refl _⟩
/-- The reader's block and all below B stay. -/
theorem RdrB.keep (h : RdrB w g s B) (hg : w'.heap[g]? = w.heap[g]?) (hs : w.heap.size ≤ w'.heap.size) (hk : ∀ i, i < B → i ≠ g → w'.heap[i]? = w.heap[i]?) : RdrB w' g s B := by
  obtain ⟨A, c, hh, hx, hc, hb, hl, hB⟩ := h
  refine ⟨A, c, hg.trans hh, ?_, hc, hb, hl, by omega⟩
  rcases hx with hx | ⟨g', off, rfl, hlt, hcell⟩
  · exact .inl hx
  · refine .inr ⟨g', off, rfl, hlt, fun j hj => ?_⟩
    rw [← hcell j hj]
    have : w'.heap[g']? = w.heap[g']? := by
      by_cases e : g' = g
      · rw [e]; exact hg
      · exact hk g' hlt e
    simp only [World.cell?, this]
theorem RdrB.lt (h : RdrB w g s B) : g < w.heap.size := h.rs.lt
theorem RdrB.below (h : RdrB w g s B) (hb : Below w.heap.size w w') : RdrB w' g s B := by
  obtain ⟨A, c, _, _, _, _, _, hB⟩ := id h
  exact h.keep (hb.block g h.lt) hb.size (fun i hi _ => hb.block i (by omega))
def TakePB (w : World) (g : Nat) (s : St) (n : Int) (B : Nat) (e : Ending) (w' : World) : Prop :=
  ∃ v, e = .returned v ∧ w'.ownsRow w.heap.size 5 1 v (takeV s n).length (bcells (takeV s n)) ∧ RdrB w' g (takeS s n) B ∧ w.grownBy w' (some g)
theorem take_anyB (h : RdrB w g s B) (n : Int) (hw : n ≤ 9223372036854775807) : Calls Try.prog 47 #[.pointer (some ⟨g, 0, none⟩), .int .i64 n] w (TakePB w g s n B) := by
  have hS := h.rs
  have HB := Lib.hid (bad_any hS)
  obtain ⟨A, c, hh, hxB, hc, hbd, hlen, hBw⟩ := id h
  have hx := hxB.more hBw
  have c0 := cell_of_row w g 0 _ 127 (0, 0) hh
  simp at c0
  have hf := fun i => frozen_of_row w g i _ 127 hh
  by_cases hb : s.bad = true
  · have hno : ¬ takeOk s n := fun hk => hb.symm.trans hk.1 |> fun h => by cases h
    have R : TakePB w g s n B (.returned (.slice none 0 0)) w := by
      refine ⟨_, rfl, by simp only [takeV, if_neg hno]; exact World.ownsRow_nil _ _ _ _, ?_, World.grownBy.refl w _⟩
      simp only [takeS, if_neg hno]
      have e : s = ⟨[], true⟩ := by cases s; simp only [St.mk.injEq] at *; exact ⟨hbd hb, hb⟩
      rw [← e]
      exact h
    have HR := Lib.hid R
    rw [hb] at HB
    clear hh hx h R hb hno hxB hS hbd
    go_enter Try.func47, Try.ntmps47
    go_wp2_with (go_at_call 53; (with_reducible refine (HB.out).mono ?_); rintro e w1 ⟨rfl, rfl⟩)
    go_ret
    exact HR.out
  · have hb' : s.bad = false := by simpa using hb
    rw [hb'] at HB
    by_cases hk : 0 ≤ n ∧ n ≤ s.ys.length
    · obtain ⟨k, rfl⟩ : ∃ k : Nat, n = k := ⟨n.toNat, by omega⟩
      have hok : takeOk s (k : Int) := ⟨hb', hk⟩
      have HN := Lib.hid (cut_yes g c s.ys.length k A w c0 (hf 0) hlen hc (by omega))
      have hhd : BAt w w.heap.size (headA A c) (s.ys.take k) := hx.head hc
      have hx1 : BAt (w.setCell ⟨g, 0, none⟩ (.slice (cutA A c k) (s.ys.length - k) (c - k))) (w.setCell ⟨g, 0, none⟩ (.slice (cutA A c k) (s.ys.length - k) (c - k))).heap.size (headA A c) (s.ys.take k) := by
        have := hhd.set (j := 0) (.slice (cutA A c k) (s.ys.length - k) (c - k)) (hhd.ne hh (by simp) (by simp) (by simp))
        simpa [World.setCell] using this
      have HC := Lib.hid (clone_len (headA A c) k c (s.ys.take k) _ hx1 (by rw [List.length_take]; omega) (by rw [List.length_take]; omega))
      have R : ∀ e w', OwnB (w.setCell ⟨g, 0, none⟩ (.slice (cutA A c k) (s.ys.length - k) (c - k))) (s.ys.take k) e w' → TakePB w g s k B e w' := by
        rintro e w' ⟨v, he, ho, hbl⟩
        have e1 : (w.setCell ⟨g, 0, none⟩ (.slice (cutA A c k) (s.ys.length - k) (c - k))).heap.size = w.heap.size := by simp [World.setCell]
        refine ⟨v, he, ?_, ?_, grownBy_trans (grownBy_setCell (World.grownBy.refl w _) 0 _) (grownBy_of_below hbl (Nat.le_refl _) _)⟩
        · simp only [takeV, if_pos hok, Int.toNat_natCast]
          rw [e1] at ho
          exact ho
        · simp only [takeS, if_pos hok, Int.toNat_natCast]
          rw [hb'] at hh
          have h1 : RdrB (w.setCell ⟨g, 0, none⟩ (.slice (cutA A c k) (s.ys.length - k) (c - k))) g ⟨s.ys.drop k, false⟩ B := by
            refine ⟨cutA A c k, c - k, ?_, ?_, by simp only [List.length_drop]; omega, by simp, by simp only [List.length_drop]; omega, by rw [e1]; exact hBw⟩
            · have s0 := heap_setCell_same w g 0 _ 127 (.slice (cutA A c k) (s.ys.length - k) (c - k)) hh
              simp only [List.length_drop]
              simpa using s0
            · have hx' : BAt w B (cutA A c k) (s.ys.drop k) := hxB.cut (by omega) hc
              have := hx'.set (j := 0) (.slice (cutA A c k) (s.ys.length - k) (c - k)) (hx'.ne hh (by simp) (by simp) (by simp))
              simpa [World.setCell] using this
          exact h1.below hbl
      have HR := Lib.hid R
      clear hh hx h R hb hb' hok hhd hx1 hxB hS hbd
      go_enter Try.func47, Try.ntmps47
      go_wp2_with (first
        | (go_at_call 53; (with_reducible refine (HB.out).mono ?_); rintro e w1 ⟨rfl, rfl⟩)
        | (go_at_call 81; (with_reducible refine (HN.out).mono ?_); rintro e w1 ⟨rfl, rfl⟩)
        | (go_at_call 55; (with_reducible refine (HC.out).mono ?_); rintro e w1 ⟨v1, rfl, ho1, hb1⟩))
      go_ret
      exact HR.out _ _ ⟨v1, rfl, ho1, hb1⟩
    · have hno : ¬ takeOk s n := fun h' => hk h'.2
      refine (take_any hS n hw).mono ?_
      rintro e w' ⟨v, rfl, ho, hr, hg⟩
      refine ⟨v, rfl, ho, ?_, hg⟩
      have hB2 : B ≤ w'.heap.size := Nat.le_trans hBw hg.size
      simp only [takeS, if_neg hno] at hr ⊢
      obtain ⟨⟨A', c', hh', _, hc'⟩, _, _⟩ := hr
      exact ⟨A', c', hh', .inl rfl, hc', fun _ => rfl, by simp, hB2⟩
end
end Go.Proofs.Ytbfhfnbhfeedbaa
end
section
namespace Go.Proofs.Ytbfhfnbhfeedbaa
open Go.Shelf Go.RowKit Go.Lib Go.Sort Go.Great
set_option maxRecDepth 100000
set_option maxHeartbeats 1000000
/-- What next tells. -/
def nxOk (s : St) : Prop := (takeV s 20).length = 20 ∧ (takeV (takeS s 20) 6).length = 6 ∧ getN ((takeV (takeS s 20) 6).take 4) ≠ 0 ∧ getN (((takeV (takeS s 20) 6).drop 4).take 2) ≠ 0
instance (s : St) : Decidable (nxOk s) := by unfold nxOk; exact inferInstance
theorem getN_lt' (xs : List UInt8) (n : Nat) (h : xs.length ≤ n) : getN xs < 256 ^ n := by
  have h1 : getN xs < 256 ^ xs.length := getN_lt xs
  exact Nat.lt_of_lt_of_le h1 (Nat.pow_le_pow_right (by omega) h)
def nxC (s : St) : Con := if h : nxOk s then ⟨(takeV s 20, getN ((takeV (takeS s 20) 6).take 4), getN (((takeV (takeS s 20) 6).drop 4).take 2)), ⟨h.1, getN_lt' _ 4 (by rw [List.length_take]; omega), getN_lt' _ 2 (by rw [List.length_take]; omega)⟩⟩ else default
def nxS (s : St) : St := takeS (takeS s 20) 6
theorem takeV_len (s : St) (n : Nat) : (takeV s n).length = n ∨ takeV s n = [] := by
  unfold takeV
  split
  · rename_i h
    left
    have := h.2.2
    rw [List.length_take]
    simp only [Int.toNat_natCast]
    omega
  · exact .inr rfl
theorem heap_setCells_row (g : Nat) (t : TypeId) : ∀ (vs : List Value) (o : Nat) (cs : List Value) (w : World), w.heap[g]? = some (.cells cs.toArray t (0, 0)) → o + vs.length ≤ cs.length → (w.setCells g o vs).heap[g]? = some (.cells (cs.take o ++ vs ++ cs.drop (o + vs.length)).toArray t (0, 0)) := by
  intro vs
  induction vs with
  | nil => intro o cs w h _; simp [World.setCells, h]
  | cons v vs ih =>
    intro o cs w h hl
    rw [List.length_cons] at hl
    have h1 := heap_setCell_same w g o _ t v h
    rw [List.setIfInBounds_toArray] at h1
    rw [World.setCells, ih (o + 1) (cs.set o v) _ h1 (by rw [List.length_set]; omega)]
    have e : cs.set o v = (cs.take o ++ [v]) ++ cs.drop (o + 1) := by
      rw [List.set_eq_take_append_cons_drop, if_pos (by omega), List.append_assoc]
      rfl
    have hl1 : (cs.take o ++ [v]).length = o + 1 := by rw [List.length_append, List.length_take, List.length_singleton]; omega
    rw [e, List.take_append_of_le_length (by omega), List.take_of_length_le (by omega), List.drop_append, List.drop_of_length_le (by omega), List.nil_append, List.drop_drop, hl1, List.length_cons]
    rw [show o + 1 + (o + 1 + vs.length - (o + 1)) = o + (vs.length + 1) by omega, List.append_assoc (cs.take o) [v] vs]
    rfl
end Go.Proofs.Ytbfhfnbhfeedbaa
end
section
namespace Go.Proofs.Ytbfhfnbhfeedbaa
open Go.Shelf Go.RowKit Go.Lib Go.Sort Go.Great
set_option maxRecDepth 1000000
set_option maxHeartbeats 2000000
theorem size5c : (Try.prog.info? 5).map (·.size) = some 1 := by kernel_rfl
theorem build60 (W : World) : (Instr.build 60 #[]).run Try.prog W = .ok (.agg (encC default).toArray) W := by kernel_rfl
theorem grown_cells {g : Nat} {W : World} : ∀ (vs : List Value) (o : Nat) (W1 : World), W.grownBy W1 (some g) → W.grownBy (W1.setCells g o vs) (some g)
  | [], _, _, h => h
  | _ :: vs, o, W1, h => grown_cells vs (o + 1) _ (grownBy_setCell h o _)
theorem encC_all (c : Con) : (encC c).toArray.all (·.oneCell') = true := by
  rw [Array.all_eq_true_iff_forall_mem]
  intro v hv
  exact encC_one c v (by simpa using hv)
theorem step_copy_row {P : Program} {ops : Array Oper} {o : Oper} {a : Act} {w : World} {K : Act → World → Prop} {Q : Exit → Act → World → Prop} {E : Prop} (hgd : o.guard = none) (dd : Nat) (hdd : o.dst = some dd) (d s : Operand) (dT sT : TypeId)
    (ho : o.op = .call { callee := .builtin .copy, args := #[d, s], argTypes := #[dT, sT] }) (elem : TypeId) (hu : P.underlying dT = some (.slice elem)) (hsz : (P.info? elem).map (·.size) = some 1)
    (dp sp : Option Addr) (dLen dCap sLen sCap : Nat) (hd : a.eval d = .slice dp dLen dCap) (hs : a.eval s = .slice sp sLen sCap)
    (g off : Nat) (cur : List Value) (t : TypeId) (hg : w.heap[g]? = some (.cells cur.toArray t (0, 0))) (cs : List Value) (hn : cs.length = Nat.min sLen dLen)
    (hpos : 0 < cs.length → dp = some ⟨g, off, none⟩ ∧ ∃ ad, sp = some ad ∧ ∀ j v, cs[j]? = some v → w.cell? (ad.add j) = some v)
    (hfit : off + cs.length ≤ cur.length) (h1 : ∀ v ∈ cs, v.oneCell' = true)
    (h : ∀ w', w'.heap[g]? = some (.cells (splice cur off cs).toArray t (0, 0)) → w.grownBy w' (some g) → K (a.put (some dd) (goInt cs.length)) w') :
    if Region.wanted o (yielded ops a.tmps) = true then Oper.wp P o a w K Q else E := by
  have hw : Region.wanted o (yielded ops a.tmps) = true := by simp [Region.wanted, hgd]
  rw [if_pos hw]
  rw [← hdd] at h
  by_cases h0 : cs.length = 0
  · obtain rfl : cs = [] := List.eq_nil_of_length_eq_zero h0
    have hrun := run_copy_none (P := P) w dT sT o.type elem dp sp dLen dCap sLen sCap hu hsz (by simpa using hn.symm)
    unfold Oper.wp
    simp [execOp, ho, resolve, invoke, builtin, hd, hs, hrun, Result.andThen]
    exact h w (by simpa [splice] using hg) (World.grownBy.refl w _)
  · obtain ⟨rfl, ad, rfl, hsrc⟩ := hpos (by omega)
    have hrun := run_copy_row (P := P) w dT sT o.type elem g off dLen dCap ad sLen sCap cur.toArray t cs hu hsz hg hn hsrc (by simpa using hfit) h1
    unfold Oper.wp
    simp [execOp, ho, resolve, invoke, builtin, hd, hs, hrun, Result.andThen]
    exact h _ (by simpa [splice] using setRow_heap w g _ _ t _ hg) ⟨rfl, rfl, rfl, by simp, fun k _ hk => setRow_other w g k _ (fun e => hk (by simp [e]))⟩
theorem size58 {h p : Nat} : (Try.prog.info? 58).map (·.size) = some (adr h p).size := by show _ = some 2; kernel_rfl
theorem adr_all (h p : Nat) : (adr h p).all (·.oneCell') = true := by unfold adr; simp [Value.oneCell']
/-- While next runs: r is the block of what is told, q that of the contact. -/
structure NXW (w : World) (g B r q : Nat) (s : St) (cq : List Value) (W : World) : Prop where
  rd : RdrB W g s B
  hr : W.heap[r]? = some (.cells (encC default).toArray 60 (0, 0))
  hq : W.heap[q]? = some (.cells cq.toArray 60 (0, 0))
  gr : w.grownBy W (some g)
  hg : g < w.heap.size
  hB : B ≤ w.heap.size
  rw : w.heap.size ≤ r
  qw : w.heap.size ≤ q
  rq : r ≠ q
section
variable {w W W' : World} {g B r q : Nat} {s s' : St} {cq cq' : List Value}
theorem NXW.lt (n : NXW w g B r q s cq W) : r < W.heap.size ∧ q < W.heap.size := ⟨(Array.getElem?_eq_some_iff.1 n.hr).1, (Array.getElem?_eq_some_iff.1 n.hq).1⟩
theorem NXW.bel (n : NXW w g B r q s cq W) (hb : Below W.heap.size W W') : NXW w g B r q s cq W' :=
  ⟨n.rd.below hb, (hb.block r n.lt.1).trans n.hr, (hb.block q n.lt.2).trans n.hq, grownBy_trans n.gr (grown_of_bel hb _), n.hg, n.hB, n.rw, n.qw, n.rq⟩
theorem NXW.read (n : NXW w g B r q s cq W) (h : RdrB W' g s' B) (hg : W.grownBy W' (some g)) : NXW w g B r q s' cq W' :=
  ⟨h, (hg.block r n.lt.1 (by intro e; injection e with e; have := n.hg; have := n.rw; omega)).trans n.hr, (hg.block q n.lt.2 (by intro e; injection e with e; have := n.hg; have := n.qw; omega)).trans n.hq, grownBy_trans n.gr hg, n.hg, n.hB, n.rw, n.qw, n.rq⟩
/-- The contact's block changes. -/
theorem NXW.put (n : NXW w g B r q s cq W) (hq : W'.heap[q]? = some (.cells cq'.toArray 60 (0, 0))) (hg : W.grownBy W' (some q)) : NXW w g B r q s cq' W' where
  rd := n.rd.keep (hg.block g n.rd.lt (by intro e; injection e with e; have := n.hg; have := n.qw; omega)) hg.size (fun i hi _ => hg.block i (by have := n.rd.lt; have := n.gr.size; have := n.hB; omega) (by intro e; injection e with e; have := n.hB; have := n.qw; omega))
  hr := (hg.block r n.lt.1 (by intro e; injection e with e; have := n.rq; omega)).trans n.hr
  hq := hq
  gr := ⟨hg.os.trans n.gr.os, hg.tape.trans n.gr.tape, hg.output.trans n.gr.output, Nat.le_trans n.gr.size hg.size, fun i hi hne => (hg.block i (Nat.lt_of_lt_of_le hi n.gr.size) (by intro e; injection e with e; have := n.qw; omega)).trans (n.gr.block i hi hne)⟩
  hg := n.hg
  hB := n.hB
  rw := n.rw
  qw := n.qw
  rq := n.rq
theorem NXW.take (n : NXW w g B r q s cq W) (k : Int) (hk : k ≤ 9223372036854775807) : Calls Try.prog 47 #[.pointer (some ⟨g, 0, none⟩), .int .i64 k] W fun e W' => ∃ A c, e = .returned (.slice A (takeV s k).length c) ∧ NXW w g B r q (takeS s k) cq W' ∧ BAt W' W'.heap.size A (takeV s k) := by
  refine (take_anyB n.rd k hk).mono ?_
  rintro e W' ⟨v, rfl, ho, hr, hg⟩
  obtain ⟨A, c, rfl, hA, _⟩ := own_bat ho
  exact ⟨A, c, rfl, n.read hr hg, hA⟩
end
/-- What next answers. -/
def NxIs (w : World) (g B : Nat) (s : St) (e : Ending) (w' : World) : Prop := e = .returned (.agg (encC (nxC s)).toArray) ∧ RdrB w' g (nxS s) B ∧ w.grownBy w' (some g)
theorem next_any {w : World} {g B : Nat} {s : St} (h : RdrB w g s B) (hB : B ≤ w.heap.size) : Calls Try.prog 77 #[.pointer (some ⟨g, 0, none⟩)] w (NxIs w g B s) := by
  obtain ⟨hr0, hq0, hb0⟩ := heap2 w (.cells (encC default).toArray 60) (.cells (encC default).toArray 60)
  have hs1 : (w.alloc (.cells (encC default).toArray 60)).heap.size = w.heap.size + 1 := by simp
  obtain ⟨W0, hW0⟩ : ∃ W0, W0 = (w.alloc (.cells (encC default).toArray 60)).alloc (.cells (encC default).toArray 60) := ⟨_, rfl⟩
  rw [← hW0] at hr0 hq0 hb0
  have n0 : NXW w g B w.heap.size (w.heap.size + 1) s (encC default) W0.drew := by
    have hbd : Below w.heap.size w W0.drew := hb0.drew
    exact ⟨h.below hbd, hr0, hq0, grown_of_bel hbd _, h.lt, hB, Nat.le_refl _, by omega, by omega⟩
  obtain ⟨q, hq⟩ : ∃ q, q = w.heap.size + 1 := ⟨_, rfl⟩
  rw [← hq] at n0
  have N0 := Lib.hid n0
  obtain ⟨V1, hV1⟩ : ∃ V, V = takeV s 20 := ⟨_, rfl⟩
  obtain ⟨V2, hV2⟩ : ∃ V, V = takeV (takeS s 20) 6 := ⟨_, rfl⟩
  have H1 : Hid (∀ W, NXW w g B w.heap.size q s (encC default) W → Calls Try.prog 47 #[.pointer (some ⟨g, 0, none⟩), .int .i64 20] W fun e W' => ∃ A c, e = .returned (.slice A V1.length c) ∧ NXW w g B w.heap.size q (takeS s 20) (encC default) W' ∧ BAt W' W'.heap.size A V1) := Lib.hid (fun W n => by rw [hV1]; exact n.take 20 (by omega))
  have HV1 : Hid ((bcells V1).length = Nat.min V1.length 20 ∧ ∀ (W' : World) (A : Option Addr), BAt W' W'.heap.size A V1 → 0 < (bcells V1).length → ∃ ad, A = some ad ∧ ∀ j v, (bcells V1)[j]? = some v → W'.cell? (ad.add j) = some v) := by
    refine Lib.hid ⟨?_, fun W' A hA hp => hA.cells hp⟩
    rw [bcells_length]
    have := takeV_len s 20
    rw [show ((20 : Nat) : Int) = 20 from rfl, ← hV1] at this
    rcases this with h | h
    · rw [h]; rfl
    · rw [h]; rfl
  have HV1L : Hid (0 + (bcells V1).length ≤ (encC default).length) := Lib.hid (by
    rw [bcells_length, encC_length]
    have := takeV_len s 20
    rw [show ((20 : Nat) : Int) = 20 from rfl, ← hV1] at this
    rcases this with h | h
    · rw [h]; omega
    · rw [h]; simp)
  obtain ⟨cq, hcq⟩ : ∃ cq, cq = splice (encC default) 0 (bcells V1) := ⟨_, rfl⟩
  have H3 : Hid (∀ w2 w3, NXW w g B w.heap.size q (takeS s 20) (encC default) w2 → w3.heap[q]? = some (.cells (splice (encC default) 0 (bcells V1)).toArray 60 (0, 0)) → w2.grownBy w3 (some q) → NXW w g B w.heap.size q (takeS s 20) cq w3) := Lib.hid (fun w2 w3 n hq hg => by rw [hcq]; exact n.put hq hg)
  have H4 : Hid (∀ W, NXW w g B w.heap.size q (takeS s 20) cq W → Calls Try.prog 47 #[.pointer (some ⟨g, 0, none⟩), .int .i64 6] W fun e W' => ∃ A c, e = .returned (.slice A V2.length c) ∧ NXW w g B w.heap.size q (nxS s) cq W' ∧ BAt W' W'.heap.size A V2) := Lib.hid (fun W n => by rw [hV2]; exact n.take 6 (by omega))
  have hl2 : V2.length ≤ 6 := by
    have := takeV_len (takeS s 20) 6
    rw [show ((6 : Nat) : Int) = 6 from rfl, ← hV2] at this
    rcases this with h | h
    · omega
    · rw [h]; simp
  have H5 : Hid (∀ W A c, NXW w g B w.heap.size q (nxS s) cq W → BAt W W.heap.size A V2 → Calls Try.prog 101 #[.slice A V2.length c] W fun e W' => e = .returned (readV V2) ∧ NXW w g B w.heap.size q (nxS s) cq W') := Lib.hid (fun W A c n hA => (read_any A c V2 (by omega) W hA).mono (by rintro e W' ⟨rfl, hb⟩; exact ⟨rfl, n.bel hb⟩))
  have H6 : Hid (∀ (W : World) (o : Obj), NXW w g B w.heap.size q (nxS s) cq W → NXW w g B w.heap.size q (nxS s) cq (W.alloc o)) := Lib.hid (fun W o n => n.bel ((Below.refl _ W).alloc (Nat.le_refl _) _))
  -- the end: the told block takes the contact
  have H9 : Hid (∀ (W : World) (c : Con) (cx : List Value), c = nxC s → NXW w g B w.heap.size q (nxS s) cx W → W.there w.heap.size 0 (encC c).toArray.size ∧ (W.setCells w.heap.size 0 (encC c)).rangeAt w.heap.size 0 (encC c) ∧ NxIs w g B s (.returned (.agg (encC c).toArray)) (W.setCells w.heap.size 0 (encC c))) := by
    refine Lib.hid (fun W c cx hc n => ?_)
    have ht : W.there w.heap.size 0 (encC c).length := by
      have := row_there n.hr
      rw [encC_length] at this
      rw [encC_length]
      exact this
    refine ⟨by rw [List.size_toArray]; exact ht, World.rangeAt_setCells_same W w.heap.size 0 (encC c) ht, by rw [hc], ?_, ?_⟩
    · have hgc : W.grownBy (W.setCells w.heap.size 0 (encC c)) (some w.heap.size) := grown_cells (encC c) 0 W (World.grownBy.refl W _)
      exact n.rd.keep (hgc.block g n.rd.lt (by intro e; injection e with e; have := n.hg; omega)) hgc.size (fun i hi _ => hgc.block i (by have := n.gr.size; have := n.hB; omega) (by intro e; injection e with e; have := n.hB; omega))
    · have hgc : W.grownBy (W.setCells w.heap.size 0 (encC c)) (some w.heap.size) := grown_cells (encC c) 0 W (World.grownBy.refl W _)
      exact ⟨hgc.os.trans n.gr.os, hgc.tape.trans n.gr.tape, hgc.output.trans n.gr.output, Nat.le_trans n.gr.size hgc.size, fun i hi hne => (hgc.block i (Nat.lt_of_lt_of_le hi n.gr.size) (by intro e; injection e with e; omega)).trans (n.gr.block i hi hne)⟩
  have HBU := Lib.hid (fun W => build60 W)
  have HW := Lib.hid hW0
  have HQ := Lib.hid hq
  have HS1 := Lib.hid hs1
  by_cases hok : nxOk s
  · obtain ⟨ho, hho⟩ : ∃ n, n = getN (V2.take 4) := ⟨_, rfl⟩
    obtain ⟨po, hpo⟩ : ∃ n, n = getN ((V2.drop 4).take 2) := ⟨_, rfl⟩
    have hok2 := hok
    unfold nxOk at hok2
    rw [← hV1, ← hV2] at hok2
    have hrv : readV V2 = .tuple #[.agg #[.int .u32 (ho : Int), .int .u16 (po : Int)], .int .i64 0] := by
      unfold readV
      rw [if_pos hok2.2, ← hho, ← hpo]
      rfl
    have henc : encC (nxC s) = bcells V1 ++ [.int .u32 (ho : Int), .int .u16 (po : Int)] := by
      unfold nxC
      rw [dif_pos hok]
      unfold encC
      simp only
      rw [← hV1, ← hV2, ← hho, ← hpo]
    have H7 : Hid (∀ W, NXW w g B w.heap.size q (nxS s) cq W → W.there q 20 (adr ho po).size ∧ NXW w g B w.heap.size q (nxS s) (encC (nxC s)) (W.setCells q 20 (adr ho po).toList)) := by
      refine Lib.hid (fun W n => ?_)
      have hcl : cq = bcells V1 ++ [.int .u32 0, .int .u16 0] := by
        rw [hcq]
        unfold splice
        rw [List.take_zero, List.nil_append, bcells_length, hok2.1]
        rfl
      have hlen : cq.length = 22 := by rw [hcl, List.length_append, bcells_length, hok2.1]; rfl
      have hth := row_there n.hq
      rw [hlen] at hth
      refine ⟨fun j hj => ?_, ?_⟩
      · have hj2 : j < 2 := hj
        have := hth (20 + j) (by omega)
        rwa [Nat.zero_add] at this
      · refine n.put ?_ (grown_cells _ _ _ (World.grownBy.refl W _))
        have := heap_setCells_row q 60 [.int .u32 (ho : Int), .int .u16 (po : Int)] 20 cq W n.hq (by rw [hlen]; simp)
        show (W.setCells q 20 [.int .u32 (ho : Int), .int .u16 (po : Int)]).heap[q]? = _
        rw [this, henc]
        refine congrArg (fun l : List Value => some (Obj.cells l.toArray 60 (0, 0))) ?_
        rw [List.drop_of_length_le (by rw [hlen]; simp), List.append_nil, hcl, List.take_append_of_le_length (by rw [bcells_length, hok2.1]; omega), List.take_of_length_le (by rw [bcells_length, hok2.1]; omega)]
    have hob : (ho : Int) < 4294967296 := by have := getN_lt' (V2.take 4) 4 (by rw [List.length_take]; omega); rw [hho]; omega
    have hpb : (po : Int) < 65536 := by have := getN_lt' ((V2.drop 4).take 2) 2 (by rw [List.length_take]; omega); rw [hpo]; omega
    rw [hrv] at H5
    clear hr0 hq0 hb0 n0 hW0 hV1 hV2 hcq hok hok2 hrv h hq hs1 hl2 henc hho hpo
    go_enter Try.func77, Try.ntmps77
    go_upto_region 2 with (first
      | (with_reducible refine wpList_alloc60 (o := ⟨some 2, _, _, _, _, _⟩) rfl 2 rfl rfl ?_)
      | (with_reducible refine wpList_alloc60 (o := ⟨some 3, _, _, _, _, _⟩) rfl 3 rfl rfl ?_))
    (try rw [HS1.out])
    (try rw [← HQ.out])
    rw [← HW.out]
    clear HW
    refine wp_region_noPanic ?_
    refine wp_region_held_drew (S := fun _ => True) (by kernel_rfl) trivial (fun hHeld => ?_)
    refine takeH_at 0 6 (v := ?_) rfl rfl (by kernel_rfl) (by kernel_rfl) (by kernel_rfl) (fun _ _ _ h => h) (Or.inl ⟨by rfl, ?_⟩) (by trivial) ?_
    rotate_left
    · (intro wx hSw; (try dsimp only at hSw); go_simp) <;> with_reducible rfl
    simp only [Act.put, List.setIfInBounds_toArray, List.set_cons_zero, List.set_cons_succ]
    refine takeH_at 1 7 (v := ?_) rfl rfl (by kernel_rfl) (by kernel_rfl) (by kernel_rfl) (fun _ _ _ h => h) (Or.inl ⟨by rfl, ?_⟩) (by trivial) ?_
    rotate_left
    · (intro wx hSw; (try dsimp only at hSw); go_simp) <;> with_reducible rfl
    simp only [Act.put, List.setIfInBounds_toArray, List.set_cons_zero, List.set_cons_succ]
    refine takeH_at 2 8 (v := ?_) rfl rfl (by kernel_rfl) (by kernel_rfl) (by kernel_rfl) (fun _ _ _ h => h) (Or.inl ⟨by rfl, ?_⟩) (by trivial) ?_
    rotate_left
    · (intro wx hSw; (try dsimp only at hSw); go_simp) <;> with_reducible rfl
    simp only [Act.put, List.setIfInBounds_toArray, List.set_cons_zero, List.set_cons_succ]
    refine wpAnyH_ready (rs := [3]) (by kernel_rfl) (by simp) ?_
    refine AllReadyH.cons rfl (fun K hK => ?_) ?_
    · go_simp
      go_wp2_with (go_at_call 47; (with_reducible refine (H1.out _ N0.out).mono ?_); rintro e2 w2 ⟨A2, c2, rfl, n2, hA2⟩)
      refine hK.out _ _ (by trivial) (fun hHeld => ?_)
      clear hK K
      refine wpAnyH_ready (rs := [4]) (by kernel_rfl) (by simp) ?_
      refine AllReadyH.cons rfl (fun K hK => ?_) ?_
      · refine step_copy_row rfl 10 rfl (.tmp 7) (.tmp 9) 22 22 rfl 5 Try.underlying22 size5c (some ⟨q, 0, none⟩) _ 20 20 V1.length c2 rfl rfl q 0 (encC default) 60 n2.hq (bcells V1) (HV1.out.1) (fun hp => ⟨rfl, HV1.out.2 _ _ hA2 hp⟩) HV1L.out (bcells_oneC _) ?_
        intro w3 hq3 hg3
        refine hK.out _ _ (by trivial) (fun hHeld => ?_)
        clear hK K
        refine wpAnyH_done (by kernel_rfl) ?_ _
        refine NoPanic.normal ?_
        simp only [Act.put, List.setIfInBounds_toArray, List.set_cons_zero, List.set_cons_succ]
        have n3 := H3.out _ _ n2 hq3 hg3
        clear n2 hq3 hg3 H1 H3 N0 HV1 HV1L hA2
        go_upto_region 6 with (first
          | (go_at_call 47; (with_reducible refine (H4.out _ n3).mono ?_); rintro e4 w4 ⟨A4, c4, rfl, n4, hA4⟩)
          | (go_at_call 101; (with_reducible refine (H5.out _ _ _ n4 hA4).mono ?_); rintro e5 w5 ⟨rfl, n5⟩))
        have n6 := H6.out _ (.cells #[.int .u32 (ho : Int), .int .u16 (po : Int)] 58) n5
        have HLD4 := Lib.hid (load58 (row_range (cs := [.int .u32 (ho : Int), .int .u16 (po : Int)]) (heap_alloc_new w5 (.cells #[.int .u32 (ho : Int), .int .u16 (po : Int)] 58))))
        generalize w5.alloc (.cells #[.int .u32 (ho : Int), .int .u16 (po : Int)] 58) = W6 at n6 HLD4 ⊢
        generalize w5.heap.size = b5 at HLD4 ⊢
        obtain ⟨h71, n7⟩ := H7.out _ n6
        obtain ⟨h91, h92, h93⟩ := H9.out _ _ _ rfl n7
        have HLD7 := Lib.hid (load60 (row_range n7.hq))
        have H71 := Lib.hid h71
        have H91 := Lib.hid h91
        have H92 := Lib.hid h92
        have H93 := Lib.hid h93
        have HSZ8 : Hid ((Try.prog.info? 60).map (·.size) = some (encC (nxC s)).toArray.size) := Lib.hid (by rw [List.size_toArray, encC_length]; exact size60)
        have HAL8 := Lib.hid (encC_all (nxC s))
        have HSZ9 : Hid ((Try.prog.info? 60).map (·.size) = some (encC (nxC s)).length) := Lib.hid (by rw [encC_length]; exact size60)
        clear h71 n7 h91 h92 h93 n6 n5 n4 n3 hA4 H4 H5 H6 H7 H9
        generalize encC (nxC s) = EC at *
        generalize hW8 : (W6.setCells q 20 (adr ho po).toList) = W7 at *
        go_wp2_with (first
          | ((with_reducible refine wpList_loadV (op := ⟨some 20, _, _, _, _, _⟩) rfl 58 (.tmp 4) rfl ⟨b5, 0, none⟩ ?_ _ HLD4.out ?_); rfl)
          | ((with_reducible refine wpList_store_mid (op := ⟨none, _, _, _, _, _⟩) rfl 58 (.tmp 21) (.tmp 20) rfl q 20 (adr ho po) ?_ ?_ H71.out size58 (adr_all ho po) ?_); rfl; rfl; rw [hW8])
          | ((with_reducible refine wpList_loadV (op := ⟨some 22, _, _, _, _, _⟩) rfl 60 (.tmp 3) rfl ⟨q, 0, none⟩ ?_ _ HLD7.out ?_); rfl)
          | ((with_reducible refine wpList_store_mid (op := ⟨none, _, _, _, _, _⟩) rfl 60 (.tmp 2) (.tmp 22) rfl w.heap.size 0 EC.toArray ?_ ?_ H91.out HSZ8.out HAL8.out ?_); rfl; rfl))
        refine bodyPost_ret (v := .agg EC.toArray) ?_ rfl ?_
        · exact results_cell1 (p := 2) (ty := 60) rfl _ _ w.heap.size 0 EC _ rfl H92.out Try.underlying60 rfl HSZ9.out
        · exact H93.out
      exact AllReadyH.nil
    exact AllReadyH.nil
  · have hrv : readV V2 = .tuple #[.agg #[.int .u32 0, .int .u16 0], .int .i64 10] := by
      unfold readV
      rw [if_neg]
      · rfl
      · intro h6
        apply hok
        unfold nxOk
        rw [← hV2]
        refine ⟨?_, h6⟩
        have := takeV_len s 20
        rw [show ((20 : Nat) : Int) = 20 from rfl] at this
        rcases this with h | h
        · exact h
        · exfalso
          have h20 : ¬ takeOk s 20 := by
            intro hk
            unfold takeV at h
            rw [if_pos hk] at h
            have h1 := hk.2.2
            have := congrArg List.length h
            rw [List.length_take, List.length_nil] at this
            simp only [show (20 : Int).toNat = 20 from rfl] at this
            omega
          have hs2 : takeS s 20 = ⟨[], true⟩ := by unfold takeS; rw [if_neg h20]
          have : V2 = [] := by
            rw [hV2, hs2]
            unfold takeV
            rw [if_neg (by intro hk; exact absurd hk.1 (by simp))]
          rw [this] at h6
          simp at h6
    have HNC : Hid (default = nxC s) := Lib.hid (by unfold nxC; rw [dif_neg hok])
    rw [hrv] at H5
    clear hr0 hq0 hb0 n0 hW0 hV1 hV2 hcq hok hrv h hq hs1 hl2
    go_enter Try.func77, Try.ntmps77
    go_upto_region 2 with (first
      | (with_reducible refine wpList_alloc60 (o := ⟨some 2, _, _, _, _, _⟩) rfl 2 rfl rfl ?_)
      | (with_reducible refine wpList_alloc60 (o := ⟨some 3, _, _, _, _, _⟩) rfl 3 rfl rfl ?_))
    (try rw [HS1.out])
    (try rw [← HQ.out])
    rw [← HW.out]
    clear HW
    refine wp_region_noPanic ?_
    refine wp_region_held_drew (S := fun _ => True) (by kernel_rfl) trivial (fun hHeld => ?_)
    refine takeH_at 0 6 (v := ?_) rfl rfl (by kernel_rfl) (by kernel_rfl) (by kernel_rfl) (fun _ _ _ h => h) (Or.inl ⟨by rfl, ?_⟩) (by trivial) ?_
    rotate_left
    · (intro wx hSw; (try dsimp only at hSw); go_simp) <;> with_reducible rfl
    simp only [Act.put, List.setIfInBounds_toArray, List.set_cons_zero, List.set_cons_succ]
    refine takeH_at 1 7 (v := ?_) rfl rfl (by kernel_rfl) (by kernel_rfl) (by kernel_rfl) (fun _ _ _ h => h) (Or.inl ⟨by rfl, ?_⟩) (by trivial) ?_
    rotate_left
    · (intro wx hSw; (try dsimp only at hSw); go_simp) <;> with_reducible rfl
    simp only [Act.put, List.setIfInBounds_toArray, List.set_cons_zero, List.set_cons_succ]
    refine takeH_at 2 8 (v := ?_) rfl rfl (by kernel_rfl) (by kernel_rfl) (by kernel_rfl) (fun _ _ _ h => h) (Or.inl ⟨by rfl, ?_⟩) (by trivial) ?_
    rotate_left
    · (intro wx hSw; (try dsimp only at hSw); go_simp) <;> with_reducible rfl
    simp only [Act.put, List.setIfInBounds_toArray, List.set_cons_zero, List.set_cons_succ]
    refine wpAnyH_ready (rs := [3]) (by kernel_rfl) (by simp) ?_
    refine AllReadyH.cons rfl (fun K hK => ?_) ?_
    · go_simp
      go_wp2_with (go_at_call 47; (with_reducible refine (H1.out _ N0.out).mono ?_); rintro e2 w2 ⟨A2, c2, rfl, n2, hA2⟩)
      refine hK.out _ _ (by trivial) (fun hHeld => ?_)
      clear hK K
      refine wpAnyH_ready (rs := [4]) (by kernel_rfl) (by simp) ?_
      refine AllReadyH.cons rfl (fun K hK => ?_) ?_
      · refine step_copy_row rfl 10 rfl (.tmp 7) (.tmp 9) 22 22 rfl 5 Try.underlying22 size5c (some ⟨q, 0, none⟩) _ 20 20 V1.length c2 rfl rfl q 0 (encC default) 60 n2.hq (bcells V1) (HV1.out.1) (fun hp => ⟨rfl, HV1.out.2 _ _ hA2 hp⟩) HV1L.out (bcells_oneC _) ?_
        intro w3 hq3 hg3
        refine hK.out _ _ (by trivial) (fun hHeld => ?_)
        clear hK K
        refine wpAnyH_done (by kernel_rfl) ?_ _
        refine NoPanic.normal ?_
        simp only [Act.put, List.setIfInBounds_toArray, List.set_cons_zero, List.set_cons_succ]
        have n3 := H3.out _ _ n2 hq3 hg3
        clear n2 hq3 hg3 H1 H3 N0 HV1 HV1L hA2
        go_wp2_with (first
          | (go_at_call 47; (with_reducible refine (H4.out _ n3).mono ?_); rintro e4 w4 ⟨A4, c4, rfl, n4, hA4⟩)
          | (go_at_call 101; (with_reducible refine (H5.out _ _ _ n4 hA4).mono ?_); rintro e5 w5 ⟨rfl, n5⟩)
          | ((with_reducible refine wpList_buildV (o := ⟨some 19, _, _, _, _, _⟩) rfl 60 #[] rfl #[] ?_ _ (HBU.out _) ?_); rfl)
          | ((with_reducible refine wpList_store_mid (op := ⟨none, _, _, _, _, _⟩) rfl 60 (.tmp 2) (.tmp 19) rfl w.heap.size 0 (encC default).toArray ?_ ?_ (H9.out _ _ _ HNC.out (H6.out _ _ n5)).1 ?_ ?_ ?_); rfl; rfl; kernel_rfl; exact encC_all default))
        refine bodyPost_ret (v := .agg (encC default).toArray) ?_ rfl ?_
        · exact results_cell1 (p := 2) (ty := 60) rfl _ _ w.heap.size 0 (encC default) _ rfl (H9.out _ _ _ HNC.out (H6.out _ _ n5)).2.1 Try.underlying60 rfl (by rw [encC_length]; exact size60)
        · exact (H9.out _ _ _ HNC.out (H6.out _ _ n5)).2.2
      exact AllReadyH.nil
    exact AllReadyH.nil
end Go.Proofs.Ytbfhfnbhfeedbaa
end
