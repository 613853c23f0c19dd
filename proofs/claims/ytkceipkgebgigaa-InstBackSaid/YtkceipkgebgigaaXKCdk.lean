/- A reader whose bytes lie below a bound; Take of it. Conditions: at most 900,000 bytes. Contract of next of package contact. Conditions: at most 900,000 bytes. Contract of next of package contact. Conditions: at most 900,000 bytes. One, Plain and Same of the statements on contacts. Conditions: at most 10,000 contacts. Contract of slices.DeleteFunc at contacts. Conditions: at most 10,000 contacts. Bytes, List and Without of the reference. Conditions: at most 10,000 contacts. The walk of the statement ContactBack: it answers true. Conditions: the bytes ahead and behind are fewer than 2^47 each. ReadList of the reference. Conditions: at most 900,000 bytes. The walk of the statement ContactTells: it answers true. No condition. -/
import Derived.Test.YtkceipkgebgigaaXERefa
import Derived.Test.YtkceipkgebgigaaXJPWords
import Derived.Test.YtkceipkgebgigaaXEOcta
import Derived.Test.YtkceipkgebgigaaXKPPPShab
import Derived.Lib.ConvBytes
section
namespace Go.Proofs.Ytkceipkgebgigaa
open Go.Shelf Go.RowKit Go.Lib Go.Sort Go.Great
set_option maxRecDepth 100000
set_option maxHeartbeats 1000000
/-- A reader whose bytes lie in a block below B. -/
def RdrB (w : World) (g : Nat) (s : St) (B : Nat) : Prop :=
  ∃ A c, w.heap[g]? = some (.cells #[.slice A s.ys.length c, .bool true, .bool s.bad] 87 (0, 0)) ∧ BAt w B A s.ys ∧ s.ys.length ≤ c ∧ (s.bad = true → s.ys = []) ∧ s.ys.length ≤ 900000 ∧ B ≤ w.heap.size
section
variable {w w' : World} {g B : Nat} {s : St}
theorem RdrB.rs (h : RdrB w g s B) : RdrS w g s := by
  obtain ⟨A, c, hh, hx, hc, hb, hl, hB⟩ := h
  exact ⟨⟨A, c, hh, hx.more hB, hc⟩, hb, hl⟩
theorem RdrS.rb (h : RdrS w g s) : RdrB w g s w.heap.size := by
  obtain ⟨⟨A, c, hh, hx, hc⟩, hb, hl⟩ := h
  exact ⟨A, c, hh, hx, hc, hb, hl, Nat.le_refl _⟩
/-- The reader's block and all below B stay. -/
theorem RdrB.keep (h : RdrB w g s B) (hg : w'.heap[g]? = w.heap[g]?) (hs : w.heap.size ≤ w'.heap.size) (hk : ∀ i, i < B → i ≠ g → w'.heap[i]? = w.heap[i]?) : RdrB w' g s B := by
  obtain ⟨A, c, hh, hx, hc, hb, hl, hB⟩ := h
  refine ⟨A, c, hg.trans hh, ?_, hc, hb, hl, by omega⟩
  rcases hx with hx | ⟨g', off, rfl, hlt, hcell⟩
  · exact .inl hx
  · refine .inr ⟨g', off, rfl, hlt, fun j hj => ?_⟩
    rw [← hcell j hj]
    have : w'.heap[g']? = w.heap[g']? := by
      by_cases e : g' = g
      · rw [e]; exact hg
      · exact hk g' hlt e
    simp only [World.cell?, this]
theorem RdrB.lt (h : RdrB w g s B) : g < w.heap.size := h.rs.lt
theorem RdrB.below (h : RdrB w g s B) (hb : Below w.heap.size w w') : RdrB w' g s B := by
  obtain ⟨A, c, _, _, _, _, _, hB⟩ := id h
  exact h.keep (hb.block g h.lt) hb.size (fun i hi _ => hb.block i (by omega))
def TakePB (w : World) (g : Nat) (s : St) (n : Int) (B : Nat) (e : Ending) (w' : World) : Prop :=
  ∃ v, e = .returned v ∧ w'.ownsRow w.heap.size 5 1 v (takeV s n).length (bcells (takeV s n)) ∧ RdrB w' g (takeS s n) B ∧ w.grownBy w' (some g)
theorem take_anyB (h : RdrB w g s B) (n : Int) (hw : n ≤ 9223372036854775807) : Calls Try.prog 96 #[.pointer (some ⟨g, 0, none⟩), .int .i64 n] w (TakePB w g s n B) := by
  have hS := h.rs
  have HB := Lib.hid (bad_any hS)
  obtain ⟨A, c, hh, hxB, hc, hbd, hlen, hBw⟩ := id h
  have hx := hxB.more hBw
  have c0 := cell_of_row w g 0 _ 87 (0, 0) hh
  simp at c0
  have hf := fun i => frozen_of_row w g i _ 87 hh
  by_cases hb : s.bad = true
  · have hno : ¬ takeOk s n := fun hk => hb.symm.trans hk.1 |> fun h => by cases h
    have R : TakePB w g s n B (.returned (.slice none 0 0)) w := by
      refine ⟨_, rfl, by simp only [takeV, if_neg hno]; exact World.ownsRow_nil _ _ _ _, ?_, World.grownBy.refl w _⟩
      simp only [takeS, if_neg hno]
      have e : s = ⟨[], true⟩ := by cases s; simp only [St.mk.injEq] at *; exact ⟨hbd hb, hb⟩
      rw [← e]
      exact h
    have HR := Lib.hid R
    rw [hb] at HB
    clear hh hx h R hb hno hxB hS hbd
    go_enter Try.func96, Try.ntmps96
    go_wp2_with (go_at_call 33; (with_reducible refine (HB.out).mono ?_); rintro e w1 ⟨rfl, rfl⟩)
    go_ret
    exact HR.out
  · have hb' : s.bad = false := by simpa using hb
    rw [hb'] at HB
    by_cases hk : 0 ≤ n ∧ n ≤ s.ys.length
    · obtain ⟨k, rfl⟩ : ∃ k : Nat, n = k := ⟨n.toNat, by omega⟩
      have hok : takeOk s (k : Int) := ⟨hb', hk⟩
      have HN := Lib.hid (cut_yes g c s.ys.length k A w c0 (hf 0) hlen hc (by omega))
      have hhd : BAt w w.heap.size (headA A c) (s.ys.take k) := hx.head hc
      have hx1 : BAt (w.setCell ⟨g, 0, none⟩ (.slice (cutA A c k) (s.ys.length - k) (c - k))) (w.setCell ⟨g, 0, none⟩ (.slice (cutA A c k) (s.ys.length - k) (c - k))).heap.size (headA A c) (s.ys.take k) := by
        have := hhd.set (j := 0) (.slice (cutA A c k) (s.ys.length - k) (c - k)) (hhd.ne hh (by simp) (by simp) (by simp))
        simpa [World.setCell] using this
      have HC := Lib.hid (clone_len (headA A c) k c (s.ys.take k) _ hx1 (by rw [List.length_take]; omega) (by rw [List.length_take]; omega))
      have R : ∀ e w', OwnB (w.setCell ⟨g, 0, none⟩ (.slice (cutA A c k) (s.ys.length - k) (c - k))) (s.ys.take k) e w' → TakePB w g s k B e w' := by
        rintro e w' ⟨v, he, ho, hbl⟩
        have e1 : (w.setCell ⟨g, 0, none⟩ (.slice (cutA A c k) (s.ys.length - k) (c - k))).heap.size = w.heap.size := by simp [World.setCell]
        refine ⟨v, he, ?_, ?_, grownBy_trans (grownBy_setCell (World.grownBy.refl w _) 0 _) (grownBy_of_below hbl (Nat.le_refl _) _)⟩
        · simp only [takeV, if_pos hok, Int.toNat_natCast]
          rw [e1] at ho
          exact ho
        · simp only [takeS, if_pos hok, Int.toNat_natCast]
          rw [hb'] at hh
          have h1 : RdrB (w.setCell ⟨g, 0, none⟩ (.slice (cutA A c k) (s.ys.length - k) (c - k))) g ⟨s.ys.drop k, false⟩ B := by
            refine ⟨cutA A c k, c - k, ?_, ?_, by simp only [List.length_drop]; omega, by simp, by simp only [List.length_drop]; omega, by rw [e1]; exact hBw⟩
            · have s0 := heap_setCell_same w g 0 _ 87 (.slice (cutA A c k) (s.ys.length - k) (c - k)) hh
              simp only [List.length_drop]
              simpa using s0
            · have hx' : BAt w B (cutA A c k) (s.ys.drop k) := hxB.cut (by omega) hc
              have := hx'.set (j := 0) (.slice (cutA A c k) (s.ys.length - k) (c - k)) (hx'.ne hh (by simp) (by simp) (by simp))
              simpa [World.setCell] using this
          exact h1.below hbl
      have HR := Lib.hid R
      clear hh hx h R hb hb' hok hhd hx1 hxB hS hbd
      go_enter Try.func96, Try.ntmps96
      go_wp2_with (first
        | (go_at_call 33; (with_reducible refine (HB.out).mono ?_); rintro e w1 ⟨rfl, rfl⟩)
        | (go_at_call 112; (with_reducible refine (HN.out).mono ?_); rintro e w1 ⟨rfl, rfl⟩)
        | (go_at_call 66; (with_reducible refine (HC.out).mono ?_); rintro e w1 ⟨v1, rfl, ho1, hb1⟩))
      go_ret
      exact HR.out _ _ ⟨v1, rfl, ho1, hb1⟩
    · have hno : ¬ takeOk s n := fun h' => hk h'.2
      refine (take_any hS n hw).mono ?_
      rintro e w' ⟨v, rfl, ho, hr, hg⟩
      refine ⟨v, rfl, ho, ?_, hg⟩
      have hB2 : B ≤ w'.heap.size := Nat.le_trans hBw hg.size
      simp only [takeS, if_neg hno] at hr ⊢
      obtain ⟨⟨A', c', hh', _, hc'⟩, _, _⟩ := hr
      exact ⟨A', c', hh', .inl rfl, hc', fun _ => rfl, by simp, hB2⟩
end
end Go.Proofs.Ytkceipkgebgigaa
end
section
namespace Go.Proofs.Ytkceipkgebgigaa
open Go.Shelf Go.RowKit Go.Lib Go.Sort Go.Great
set_option maxRecDepth 100000
set_option maxHeartbeats 1000000
theorem getN_lt' (xs : List UInt8) (n : Nat) (h : xs.length ≤ n) : getN xs < 256 ^ n := by
  have h1 : getN xs < 256 ^ xs.length := getN_lt xs
  exact Nat.lt_of_lt_of_le h1 (Nat.pow_le_pow_right (by omega) h)
theorem takeV_len (s : St) (n : Nat) : (takeV s n).length = n ∨ takeV s n = [] := by
  unfold takeV
  split
  · rename_i h
    left
    have := h.2.2
    rw [List.length_take]
    simp only [Int.toNat_natCast]
    omega
  · exact .inr rfl
theorem heap_setCells_row (g : Nat) (t : TypeId) : ∀ (vs : List Value) (o : Nat) (cs : List Value) (w : World), w.heap[g]? = some (.cells cs.toArray t (0, 0)) → o + vs.length ≤ cs.length → (w.setCells g o vs).heap[g]? = some (.cells (cs.take o ++ vs ++ cs.drop (o + vs.length)).toArray t (0, 0)) := by
  intro vs
  induction vs with
  | nil => intro o cs w h _; simp [World.setCells, h]
  | cons v vs ih =>
    intro o cs w h hl
    rw [List.length_cons] at hl
    have h1 := heap_setCell_same w g o _ t v h
    rw [List.setIfInBounds_toArray] at h1
    rw [World.setCells, ih (o + 1) (cs.set o v) _ h1 (by rw [List.length_set]; omega)]
    have e : cs.set o v = (cs.take o ++ [v]) ++ cs.drop (o + 1) := by
      rw [List.set_eq_take_append_cons_drop, if_pos (by omega), List.append_assoc]
      rfl
    have hl1 : (cs.take o ++ [v]).length = o + 1 := by rw [List.length_append, List.length_take, List.length_singleton]; omega
    rw [e, List.take_append_of_le_length (by omega), List.take_of_length_le (by omega), List.drop_append, List.drop_of_length_le (by omega), List.nil_append, List.drop_drop, hl1, List.length_cons]
    rw [show o + 1 + (o + 1 + vs.length - (o + 1)) = o + (vs.length + 1) by omega, List.append_assoc (cs.take o) [v] vs]
    rfl
end Go.Proofs.Ytkceipkgebgigaa
end
section
namespace Go.Proofs.Ytkceipkgebgigaa
set_option maxRecDepth 100000
open Go.Shelf Go.RowKit Go.Lib Go.Sort Go.Great
set_option maxRecDepth 1000000
set_option maxHeartbeats 2000000
theorem grown_cells {g : Nat} {W : World} : ∀ (vs : List Value) (o : Nat) (W1 : World), W.grownBy W1 (some g) → W.grownBy (W1.setCells g o vs) (some g)
  | [], _, _, h => h
  | _ :: vs, o, W1, h => grown_cells vs (o + 1) _ (grownBy_setCell h o _)
theorem step_copy_row {P : Program} {ops : Array Oper} {o : Oper} {a : Act} {w : World} {K : Act → World → Prop} {Q : Exit → Act → World → Prop} {E : Prop} (hgd : o.guard = none) (dd : Nat) (hdd : o.dst = some dd) (d s : Operand) (dT sT : TypeId)
    (ho : o.op = .call { callee := .builtin .copy, args := #[d, s], argTypes := #[dT, sT] }) (elem : TypeId) (hu : P.underlying dT = some (.slice elem)) (hsz : (P.info? elem).map (·.size) = some 1)
    (dp sp : Option Addr) (dLen dCap sLen sCap : Nat) (hd : a.eval d = .slice dp dLen dCap) (hs : a.eval s = .slice sp sLen sCap)
    (g off : Nat) (cur : List Value) (t : TypeId) (hg : w.heap[g]? = some (.cells cur.toArray t (0, 0))) (cs : List Value) (hn : cs.length = Nat.min sLen dLen)
    (hpos : 0 < cs.length → dp = some ⟨g, off, none⟩ ∧ ∃ ad, sp = some ad ∧ ∀ j v, cs[j]? = some v → w.cell? (ad.add j) = some v)
    (hfit : off + cs.length ≤ cur.length) (h1 : ∀ v ∈ cs, v.oneCell' = true)
    (h : ∀ w', w'.heap[g]? = some (.cells (splice cur off cs).toArray t (0, 0)) → w.grownBy w' (some g) → K (a.put (some dd) (goInt cs.length)) w') :
    if Region.wanted o (yielded ops a.tmps) = true then Oper.wp P o a w K Q else E := by
  have hw : Region.wanted o (yielded ops a.tmps) = true := by simp [Region.wanted, hgd]
  rw [if_pos hw]
  rw [← hdd] at h
  by_cases h0 : cs.length = 0
  · obtain rfl : cs = [] := List.eq_nil_of_length_eq_zero h0
    have hrun := run_copy_none (P := P) w dT sT o.type elem dp sp dLen dCap sLen sCap hu hsz (by simpa using hn.symm)
    unfold Oper.wp
    simp [execOp, ho, resolve, invoke, builtin, hd, hs, hrun, Result.andThen]
    exact h w (by simpa [splice] using hg) (World.grownBy.refl w _)
  · obtain ⟨rfl, ad, rfl, hsrc⟩ := hpos (by omega)
    have hrun := run_copy_row (P := P) w dT sT o.type elem g off dLen dCap ad sLen sCap cur.toArray t cs hu hsz hg hn hsrc (by simpa using hfit) h1
    unfold Oper.wp
    simp [execOp, ho, resolve, invoke, builtin, hd, hs, hrun, Result.andThen]
    exact h _ (by simpa [splice] using setRow_heap w g _ _ t _ hg) ⟨rfl, rfl, rfl, by simp, fun k _ hk => setRow_other w g k _ (fun e => hk (by simp [e]))⟩
section
variable {w W W' : World} {g B r q : Nat} {s s' : St} {cq cq' : List Value}
end
end Go.Proofs.Ytkceipkgebgigaa
end
section
namespace Go.Proofs.Ytkceipkgebgigaa
open Go.Shelf Go.RowKit Go.Lib Go.Sort Go.Great
set_option maxRecDepth 100000
set_option maxHeartbeats 1000000
theorem own_belC {base e size n : Nat} {v : Value} {xs : List Value} {w w' : World} (h : w.ownsRow base e size v n xs) (hb : Below w.heap.size w w') : w'.ownsRow base e size v n xs :=
  h.kept (grown_of_bel hb none) (by cases v.ownBlock <;> simp)
end Go.Proofs.Ytkceipkgebgigaa
end
section
namespace Go.Proofs.Ytkceipkgebgigaa
open Go.Shelf Go.RowKit Go.Lib Go.Sort Go.Great
set_option maxRecDepth 100000
set_option maxHeartbeats 1000000
/-- A call of a function's value. -/
theorem callV_run {P : Program} {o : Oper} {a : Act} {w : World} (f : Nat) (caps : Array Value) (x : Operand) {xs : Array Operand} {ts : Array TypeId} (ho : o.op = .call { callee := .value x, args := xs, argTypes := ts })
    (hx : a.eval x = .func (.func f) #[] caps) (eg : ∀ args w, (callFunc f args).run P w = .ok (.enter f args) w) (args : Array Value) (hargs : xs.map a.eval = args) : (execOp a.eval o).run P w = .ok (.enter f (args ++ caps)) w := by
  unfold execOp
  simp only [ho, resolve, invoke, Sem.run_bind, hx]
  simp only [Deferred.ofValue, Sem.run_pure, Result.andThen_ok, Array.empty_append, hargs, eg]
theorem wpList_callV {P : Program} {ops : Array Oper} {rest : List Oper} {o : Oper} {a : Act} {w : World} {Q : Exit → Act → World → Prop} (hgd : o.guard = none) (f : Nat) (caps : Array Value) (x : Operand) {xs : Array Operand} {ts : Array TypeId} (ho : o.op = .call { callee := .value x, args := xs, argTypes := ts })
    (hx : a.eval x = .func (.func f) #[] caps) (eg : ∀ args w, (callFunc f args).run P w = .ok (.enter f args) w) (args : Array Value) (hargs : xs.map a.eval = args)
    (h : Calls P f (args ++ caps) w fun e w' => ∃ v, e = .returned v ∧ wpList P ops Q rest (a.put o.dst v) w') : wpList P ops Q (o :: rest) a w :=
  wpList_plain hgd fun _ hK => by
    unfold Oper.wp
    rw [callV_run f caps x ho hx eg args hargs]
    simp only [Oper.upon]
    exact h.mono (by rintro e w'' ⟨v, rfl, h1⟩; exact hK _ _ h1)
section
end
end Go.Proofs.Ytkceipkgebgigaa
end
section
namespace Go.Proofs.Ytkceipkgebgigaa
open Go.Shelf Go.RowKit Go.Lib Go.Sort Go.Great
set_option maxRecDepth 100000
set_option maxHeartbeats 1000000
theorem run_build_noneB (w : World) : (Instr.buildSlice 30 0 #[]).run Try.prog w = .ok (.slice (some ⟨w.heap.size, 0, none⟩) 0 0) (w.alloc (.cells #[] 5)) := by kernel_rfl
theorem step_noneB {ops : Array Oper} {o : Oper} {a : Act} {w : World} {K : Act → World → Prop} {Q : Exit → Act → World → Prop} {E : Prop} (hgd : o.guard = none) (d : Nat) (hd : o.dst = some d) (ho : o.op = .buildSlice 30 0 #[])
    (h : K (a.put (some d) (.slice (some ⟨w.heap.size, 0, none⟩) 0 0)) (w.alloc (.cells #[] 5))) : if Region.wanted o (yielded ops a.tmps) = true then Oper.wp Try.prog o a w K Q else E := by
  have hw : Region.wanted o (yielded ops a.tmps) = true := by simp [Region.wanted, hgd]
  rw [if_pos hw]
  unfold Oper.wp execOp
  simp only [ho, List.map_toArray, List.map_nil, Sem.run_bind, run_build_noneB, Result.andThen_ok, Sem.run_pure]
  show K (a.put o.dst _) _
  rw [hd]
  exact h
theorem step_appB {ops : Array Oper} {o : Oper} {a : Act} {w : World} {K : Act → World → Prop} {Q : Exit → Act → World → Prop} {E : Prop} (hgd : o.guard = none) (d : Nat) (hd : o.dst = some d) (s x : Operand)
    (ho : o.op = .call { callee := .builtin .append, args := #[s, x], argTypes := #[30, 30] })
    (base : Nat) (v : Value) (L : List UInt8) (hs : a.eval s = v) (hown : w.ownsRow base 5 1 v L.length (bcells L)) (y : Value) (M : List UInt8) (hx : a.eval x = y) (hr : Src Try.prog 1 30 y M.length (bcells M) w) (h63 : L.length + M.length ≤ 10000000) (hbase : base ≤ w.heap.size)
    (h : ∀ v' w', w'.ownsRow base 5 1 v' (L ++ M).length (bcells (L ++ M)) → w.grownBy w' v.ownBlock → K (a.put (some d) v') w') :
    if Region.wanted o (yielded ops a.tmps) = true then Oper.wp Try.prog o a w K Q else E := by
  have hw : Region.wanted o (yielded ops a.tmps) = true := by simp [Region.wanted, hgd]
  rw [if_pos hw]
  obtain ⟨i0, hi, hz0, hz1, hz2⟩ := info5b
  obtain ⟨v', w', hrun, h2, h3, _⟩ := run_append_srcK w base 30 30 o.type 5 i0 _ 1 1 undBs hi hz0 hz1 hz2 rfl v L.length (bcells L) hown y M.length (bcells M) hr (by simp only [maxLen]; omega) (by omega) hbase
  unfold Oper.wp execOp
  simp only [ho, resolve, invoke, builtin, Sem.run_bind, Sem.run_pure, Result.andThen_ok, List.map_toArray, List.map_cons, List.map_nil, hs, hx, hrun]
  show K (a.put o.dst _) _
  rw [hd]
  refine h v' w' ?_ h3
  rw [List.length_append, bcells_app]
  exact h2
theorem below_ownB {B : Nat} {W0 w w' : World} {ob : Option Nat} (hb : Below B W0 w) (hBw : B ≤ w.heap.size) (hg : w.grownBy w' ob) (ho : ∀ k, ob = some k → B ≤ k) : Below B W0 w' :=
  ⟨hg.os.trans hb.os, hg.tape.trans hb.tape, hg.output.trans hb.output, Nat.le_trans hb.size hg.size, fun i hi => (hg.block i (by omega) (by intro e; have := ho i (by first | exact e | exact e.symm); omega)).trans (hb.block i hi)⟩
theorem ownNone {w : World} {base : Nat} (e size : TypeId) (hb : base ≤ w.heap.size) : (w.alloc (.cells #[] e)).ownsRow base e size (.slice (some ⟨w.heap.size, 0, none⟩) 0 0) 0 [] :=
  ⟨by simp, .inr ⟨w.heap.size, 0, #[], rfl, hb, heap_alloc_new w (.cells #[] e), Nat.le_refl _, by simp [maxLen], by simp, by simp⟩⟩
theorem run_build_byte (n : Nat) (hn : n < 256) (w : World) : (Instr.buildSlice 30 1 #[(0, .int .u8 (n : Int))]).run Try.prog w = .ok (.slice (some ⟨w.heap.size, 0, none⟩) 1 1) (w.alloc (.cells #[.int .u8 (n : Int)] 5)) := by kernel_rfl
end Go.Proofs.Ytkceipkgebgigaa
end
section
namespace Go.Proofs.Ytkceipkgebgigaa
open Go.Shelf Go.RowKit Go.Lib Go.Sort Go.Great
set_option maxRecDepth 100000
set_option maxHeartbeats 2000000
theorem quiet_valV {P : Program} {B : Nat} {W0 : World} {o : Oper} {a : Act} {K : Act → Prop} (v : Value) (hl : ∀ n : Kept B W0, (execOp a.eval o).run P n.val = .ok (.value v) n.val)
    (hk : K (a.put o.dst v)) : o.quiet P a (fun w' => ∃ n : Kept B W0, w' = n.val) K :=
  ⟨v, fun w ⟨n, hn⟩ => by
    subst hn
    unfold Oper.quietAt
    rw [hl n]
    exact ⟨rfl, rfl⟩, hk⟩
theorem quiet_convV {P : Program} {B : Nat} {W0 : World} {o : Oper} {a : Act} {K : Act → Prop} (s d : TypeId) (x : Operand) (ho : o.op = .convert s d x) (u v : Value) (hx : a.eval x = u) (hl : ∀ n : Kept B W0, (convert s d u).run P n.val = .ok v n.val)
    (hk : K (a.put o.dst v)) : o.quiet P a (fun w' => ∃ n : Kept B W0, w' = n.val) K :=
  quiet_valV v (fun n => by
    unfold execOp
    simp only [ho, hx, Sem.run_bind, hl n, Result.andThen_ok, Sem.run_pure]) hk
theorem quiet_headV {B : Nat} {W0 : World} {o : Oper} {a : Act} {K : Act → Prop} (x y : Operand) (ho : o.op = .slice 30 x none (some y) none) (A : Option Addr) (n c k : Nat) (hx : a.eval x = .slice A n c) (hy : a.eval y = .int .i64 (k : Int)) (hkc : k ≤ c)
    (hk : K (a.put o.dst (.slice (headA A c) k c))) : o.quiet Try.prog a (fun w' => ∃ n : Kept B W0, w' = n.val) K :=
  quiet_valV (.slice (headA A c) k c) (fun m => by
    have := run_head A n c k hkc m.val
    unfold execOp
    simp only [ho, hx, hy, Sem.run_bind, Option.map_some, Option.map_none, run_sliceAt_slice m.val 30 _ _ _ _ under22, this, Result.andThen_ok, Sem.run_pure]) hk
section
variable {w W W' : World} {g : Nat} {s s' : St}
end
end Go.Proofs.Ytkceipkgebgigaa
end
section
namespace Go.Proofs.Ytkceipkgebgigaa
open Go.Shelf Go.RowKit Go.Lib Go.Sort Go.Great
set_option maxRecDepth 100000
set_option maxHeartbeats 1000000
/-- The reference's reader, its bytes below a bound. -/
def RRB (w : World) (h : Nat) (A : Option Addr) (c : Nat) (xs : List UInt8) (s : St) (B : Nat) : Prop :=
  ∃ k : Nat, w.heap[h]? = some (.cells #[.slice A xs.length c, .int .i64 (k : Int), .bool s.bad] 47 (0, 0)) ∧ BAt w B A xs ∧ k ≤ xs.length ∧ xs.length ≤ c ∧ xs.length ≤ 900000 ∧ (s.bad = true → k = xs.length) ∧ s.ys = xs.drop k ∧ B ≤ w.heap.size
section
variable {w w' : World} {h c B : Nat} {A : Option Addr} {xs : List UInt8} {s s' : St}
theorem RRB.rs (r : RRB w h A c xs s B) : RRS w h A c xs s := by
  obtain ⟨k, h1, h2, h3, h4, h5, h6, h7, h8⟩ := r
  exact ⟨k, ⟨h1, h2.more h8, h3, h4, h5, h6⟩, h7⟩
theorem RRS.rb (r : RRS w h A c xs s) : RRB w h A c xs s w.heap.size := by
  obtain ⟨k, ⟨h1, h2, h3, h4, h5, h6⟩, h7⟩ := r
  exact ⟨k, h1, h2, h3, h4, h5, h6, h7, Nat.le_refl _⟩
theorem RRB.lt (r : RRB w h A c xs s B) : h < w.heap.size := by
  obtain ⟨k, h1, _⟩ := r
  exact (Array.getElem?_eq_some_iff.1 h1).1
theorem RRB.keep (r : RRB w h A c xs s B) (hg : w'.heap[h]? = w.heap[h]?) (hs : w.heap.size ≤ w'.heap.size) (hk : ∀ i, i < B → w'.heap[i]? = w.heap[i]?) : RRB w' h A c xs s B := by
  obtain ⟨k, h1, h2, h3, h4, h5, h6, h7, h8⟩ := r
  refine ⟨k, hg.trans h1, ?_, h3, h4, h5, h6, h7, by omega⟩
  rcases h2 with h2 | ⟨g', off, rfl, hlt, hcell⟩
  · exact .inl h2
  · refine .inr ⟨g', off, rfl, hlt, fun j hj => ?_⟩
    rw [← hcell j hj]
    simp only [World.cell?, hk g' hlt]
theorem RRB.bel (r : RRB w h A c xs s B) (hb : Below w.heap.size w w') : RRB w' h A c xs s B := by
  obtain ⟨k, _, _, _, _, _, _, _, h8⟩ := id r
  exact r.keep (hb.block h r.lt) hb.size (fun i hi => hb.block i (by omega))
theorem RRB.read (r : RRB w h A c xs s B) (n : RRS w' h A c xs s') (hg : w.grownBy w' (some h)) : RRB w' h A c xs s' B := by
  obtain ⟨k, h1, h2, h3, h4, h5, h6, h7, h8⟩ := r
  obtain ⟨k', ⟨g1, g2, g3, g4, g5, g6⟩, g7⟩ := n
  exact ⟨k', g1, h2.grown h8 hg (h2.ne h1 (by simp) (by simp) (by simp)), g3, g4, g5, g6, g7, by have := hg.size; omega⟩
end
/-- Num, Take of a reader that s says. -/
theorem rrnum_s {w : World} {h c : Nat} {A : Option Addr} {xs : List UInt8} {s : St} (r : RRS w h A c xs s) (n : Int) (hn : n ≤ 9223372036854775807) : Calls Try.prog 70 #[.pointer (some ⟨h, 0, none⟩), .int .i64 n] w (RNumP w h A c xs s n) := by
  obtain ⟨k, hr, hy⟩ := r
  have e1 := St.eta s hy rfl
  have := rrnum_any hr n hn
  rwa [← e1] at this
theorem rrtake_s {w : World} {h c : Nat} {A : Option Addr} {xs : List UInt8} {s : St} (r : RRS w h A c xs s) (n : Int) (hn : n ≤ 9223372036854775807) : Calls Try.prog 69 #[.pointer (some ⟨h, 0, none⟩), .int .i64 n] w (RTakeP w h A c xs s n) := by
  obtain ⟨k, hr, hy⟩ := r
  have e1 := St.eta s hy rfl
  have := rrtake_any hr n hn
  rwa [← e1] at this
theorem takeS_neg (s : St) : takeS s (-1) = ⟨[], true⟩ := by
  unfold takeS
  rw [if_neg (by intro hk; have := hk.2.1; omega)]
section
end
end Go.Proofs.Ytkceipkgebgigaa
end
section
namespace Go.Proofs.Ytkceipkgebgigaa
open Go.Shelf Go.RowKit Go.Lib Go.Sort Go.Great
set_option maxRecDepth 100000
set_option maxHeartbeats 2000000
/-- Two that may come now, and nothing else may ahead of both. -/
theorem diamond {P : Program} {md : Region.Mode} {ops : Array Oper} {Q : Exit → Act → World → Prop} {S : World → Prop} (i j di dj : Nat) {oi oj : Oper} {fuel : Nat} {listed : Array Bool} {a : Act} {w : World}
    (hi : ops[i]? = some oi) (hj : ops[j]? = some oj) (hdi : oi.dst = some di) (hdj : oj.dst = some dj)
    (hs : Region.noSelect ops = true) (hr : Region.ready md ops listed = [i, j]) (hri : Region.ready md ops (listed.setIfInBounds i true) = [j]) (hrj : Region.ready md ops (listed.setIfInBounds j true) = [i])
    (hne : i ≠ j) (hij : oi.apart ops oj = true) (hji : oj.apart ops oi = true) (wi : Region.wanted oi (yielded ops a.tmps) = true) (wj : Region.wanted oj (yielded ops a.tmps) = true)
    (X Y : Value → World → Prop) (hX : ∀ v w w', Below w.heap.size w w' → X v w → X v w') (hY : ∀ v w w', Below w.heap.size w w' → Y v w → Y v w')
    (li : Loose P oi a S X) (lj : Loose P oj a S Y) (hw : S w)
    (h : ∀ u v w', S w' → Below w.heap.size w w' → X u w' → Y v w' → wpAnyH P md ops Q S fuel ((listed.setIfInBounds i true).setIfInBounds j true) ((a.put (some di) u).put (some dj) v) w') : wpAnyH P md ops Q S (fuel + 1 + 1) listed a w := by
  refine wpAnyH_ready hr (by simp) ?_
  refine AllReadyH.cons hi (fun K hK => ?_) (AllReadyH.cons hj (fun K hK => ?_) AllReadyH.nil)
  · rw [if_pos wi]
    refine li.wp hw (fun u w1 hs1 hb1 hx => hK.out _ _ hs1 (fun _ => ?_))
    refine wpAnyH_ready hri (by simp) (AllReadyH.cons hj (fun K hK => ?_) AllReadyH.nil)
    rw [if_pos (by rw [wanted_put oj a oi.dst u (Oper.apart_spec hij).1]; exact wj)]
    refine (lj.put hs hj hij u).wp hs1 (fun v w2 hs2 hb2 hy => hK.out _ _ hs2 (fun _ => ?_))
    rw [hdi, hdj]
    exact h u v w2 hs2 (hb1.trans (hb2.mono hb1.size)) (hX _ _ _ hb2 hx) hy
  · rw [if_pos wj]
    refine lj.wp hw (fun v w1 hs1 hb1 hy => hK.out _ _ hs1 (fun _ => ?_))
    refine wpAnyH_ready hrj (by simp) (AllReadyH.cons hi (fun K hK => ?_) AllReadyH.nil)
    rw [if_pos (by rw [wanted_put oi a oj.dst v (Oper.apart_spec hji).1]; exact wi)]
    refine (li.put hs hi hji v).wp hs1 (fun u w2 hs2 hb2 hx => hK.out _ _ hs2 (fun _ => ?_))
    rw [Array.setIfInBounds_comm _ _ (Ne.symm hne), hdi, hdj]
    have e := Act.put_comm a u v (Oper.apart_spec hij).2.1
    rw [hdi, hdj] at e
    first
      | (rw [e]; exact h u v w2 hs2 (hb1.trans (hb2.mono hb1.size)) hx (hY _ _ _ hb2 hy))
      | (rw [← e]; exact h u v w2 hs2 (hb1.trans (hb2.mono hb1.size)) hx (hY _ _ _ hb2 hy))
theorem looseR_imp {P : Program} {w : World} {S : World → Prop} {X Y : Value → World → Prop} {r : Result Next} (hXY : ∀ v w', X v w' → Y v w') (h : LooseR P w S X r) : LooseR P w S Y r := by
  cases r with
  | halt x w' => exact h
  | ok n w' =>
    cases n <;> simp only [LooseR] at h ⊢
    case value v => exact ⟨h.1, h.2.1, hXY _ _ h.2.2⟩
    case enter f args => exact ⟨h.1, h.2.mono (by rintro e w'' ⟨v, rfl, h1, h2, h3⟩; exact ⟨v, rfl, h1, h2, hXY _ _ h3⟩)⟩
theorem wpAnyH_mono {P : Program} {md : Region.Mode} {ops : Array Oper} {Q : Exit → Act → World → Prop} {S S' : World → Prop} (hSS : ∀ w, S' w → S w) : ∀ (fuel : Nat) (listed : Array Bool) (a : Act) (w : World), wpAnyH P md ops Q S' fuel listed a w → wpAnyH P md ops Q S fuel listed a w
  | 0, _, _, _, h => h
  | fuel + 1, _, _, _, h => ⟨h.1, fun i hi => wpOp_mono (fun a' w' h' => ⟨hSS _ h'.1, wpAnyH_mono hSS fuel _ a' w' h'.2⟩) (h.2 i hi)⟩
theorem exec_convB {ρ : Operand → Value} {o : Oper} (x : Operand) (ho : o.op = .convert 30 9 x) (u : Value) (hx : ρ x = u) (s : ByteArray) (W : World) (hc : (convert 30 9 u).run Try.prog W = .ok (.string s) W) : (execOp ρ o).run Try.prog W = .ok (.value (.string s)) W := by
  unfold execOp
  simp only [ho, hx, Sem.run_bind, hc, Result.andThen_ok, Sem.run_pure]
section
end
end Go.Proofs.Ytkceipkgebgigaa
end
