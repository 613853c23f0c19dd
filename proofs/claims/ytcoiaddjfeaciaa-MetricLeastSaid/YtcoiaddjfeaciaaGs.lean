/- Two operations of a region that may come in either order, each of which makes memory: plain lemmas over any program. No condition. Contract of Rank of package metric. Conditions: fewer than 50000 ids. Contract of Insert of package metric. Conditions: fewer than 40000 ids. -/
import Derived.Test.YtcoiaddjfeaciaaGb
import Derived.Below
import Derived.Test.YtcoiaddjfeaciaaGr
import Derived.Test.YtcoiaddjfeaciaaGq
section
namespace Go.Proofs.Ytcoiaddjfeaciaa
set_option maxRecDepth 100000
open Go.RowKit

def LooseR (P : Program) (w : World) (S : World → Prop) (X : Value → World → Prop) : Result Next → Prop
  | .ok (.value v) w' => S w' ∧ Below w.heap.size w w' ∧ X v w'
  | .ok (.enter f args) w' => w' = w ∧ Calls P f args w (fun e w'' => ∃ v, e = .returned v ∧ S w'' ∧ Below w.heap.size w w'' ∧ X v w'')
  | _ => False
/-- In every world of S the operation yields a value, and leaves a world of S that keeps what stood; of the two X holds. -/
def Loose (P : Program) (o : Oper) (a : Act) (S : World → Prop) (X : Value → World → Prop) : Prop := ∀ w, S w → LooseR P w S X ((execOp a.eval o).run P w)
theorem LooseR.wp {P : Program} {o : Oper} {a : Act} {S : World → Prop} {X : Value → World → Prop} {w : World} (this : LooseR P w S X ((execOp a.eval o).run P w)) {K : Act → World → Prop} {Q : Exit → Act → World → Prop}
    (hK : ∀ v w', S w' → Below w.heap.size w w' → X v w' → K (a.put o.dst v) w') : o.wp P a w K Q := by
  unfold Oper.wp
  generalize (execOp a.eval o).run P w = r at *
  cases r with
  | halt x w' => cases this
  | ok n w' =>
    cases n <;> simp only [LooseR] at this <;> simp only [Oper.upon]
    case value v => exact hK v w' this.1 this.2.1 this.2.2
    case enter f args =>
      obtain ⟨rfl, hc⟩ := this
      exact hc.mono (by rintro e w'' ⟨v, rfl, h1, h2, h3⟩; exact hK v w'' h1 h2 h3)
theorem Loose.wp {P : Program} {o : Oper} {a : Act} {S : World → Prop} {X : Value → World → Prop} (h : Loose P o a S X) {w : World} (hw : S w) {K : Act → World → Prop} {Q : Exit → Act → World → Prop}
    (hK : ∀ v w', S w' → Below w.heap.size w w' → X v w' → K (a.put o.dst v) w') : o.wp P a w K Q := LooseR.wp (h w hw) hK
theorem Loose.put {P : Program} {ops : Array Oper} {o o' : Oper} {a : Act} {S : World → Prop} {X : Value → World → Prop} (h : Loose P o a S X) (hs : Region.noSelect ops = true) {i : Nat} (hi : ops[i]? = some o) (hap : o'.apart ops o = true) (u : Value) : Loose P o (a.put o'.dst u) S X := by
  obtain ⟨h1, _, _⟩ := Oper.apart_spec hap
  intro w hw
  rw [execOp_put o (fun cs b => Region.noSelect_spec hs i o cs b hi) a o'.dst u h1]
  exact h w hw

/-- Two that may come now, and nothing else may ahead of both. -/
theorem diamond {P : Program} {md : Region.Mode} {ops : Array Oper} {Q : Exit → Act → World → Prop} {S : World → Prop} (i j di dj : Nat) {oi oj : Oper} {fuel : Nat} {listed : Array Bool} {a : Act} {w : World}
    (hi : ops[i]? = some oi) (hj : ops[j]? = some oj) (hdi : oi.dst = some di) (hdj : oj.dst = some dj)
    (hs : Region.noSelect ops = true) (hr : Region.ready md ops listed = [i, j]) (hri : Region.ready md ops (listed.setIfInBounds i true) = [j]) (hrj : Region.ready md ops (listed.setIfInBounds j true) = [i])
    (hne : i ≠ j) (hij : oi.apart ops oj = true) (hji : oj.apart ops oi = true) (wi : Region.wanted oi (yielded ops a.tmps) = true) (wj : Region.wanted oj (yielded ops a.tmps) = true)
    (X Y : Value → World → Prop) (hX : ∀ v w w', Below w.heap.size w w' → X v w → X v w') (hY : ∀ v w w', Below w.heap.size w w' → Y v w → Y v w')
    (li : Loose P oi a S X) (lj : Loose P oj a S Y) (hw : S w)
    (h : ∀ u v w', S w' → Below w.heap.size w w' → X u w' → Y v w' → wpAnyH P md ops Q S fuel ((listed.setIfInBounds i true).setIfInBounds j true) ((a.put (some di) u).put (some dj) v) w') : wpAnyH P md ops Q S (fuel + 1 + 1) listed a w := by
  refine wpAnyH_ready hr (by simp) ?_
  refine AllReadyH.cons hi (fun K hK => ?_) (AllReadyH.cons hj (fun K hK => ?_) AllReadyH.nil)
  · rw [if_pos wi]
    refine li.wp hw (fun u w1 hs1 hb1 hx => hK.out _ _ hs1 (fun _ => ?_))
    refine wpAnyH_ready hri (by simp) (AllReadyH.cons hj (fun K hK => ?_) AllReadyH.nil)
    rw [if_pos (by rw [wanted_put oj a oi.dst u (Oper.apart_spec hij).1]; exact wj)]
    refine (lj.put hs hj hij u).wp hs1 (fun v w2 hs2 hb2 hy => hK.out _ _ hs2 (fun _ => ?_))
    rw [hdi, hdj]
    exact h u v w2 hs2 (hb1.trans (hb2.mono hb1.size)) (hX _ _ _ hb2 hx) hy
  · rw [if_pos wj]
    refine lj.wp hw (fun v w1 hs1 hb1 hy => hK.out _ _ hs1 (fun _ => ?_))
    refine wpAnyH_ready hrj (by simp) (AllReadyH.cons hi (fun K hK => ?_) AllReadyH.nil)
    rw [if_pos (by rw [wanted_put oi a oj.dst v (Oper.apart_spec hji).1]; exact wi)]
    refine (li.put hs hi hji v).wp hs1 (fun u w2 hs2 hb2 hx => hK.out _ _ hs2 (fun _ => ?_))
    rw [Array.setIfInBounds_comm _ _ (Ne.symm hne), hdi, hdj]
    have e := Act.put_comm a u v (Oper.apart_spec hij).2.1
    rw [hdi, hdj] at e
    first
      | (rw [e]; exact h u v w2 hs2 (hb1.trans (hb2.mono hb1.size)) hx (hY _ _ _ hb2 hy))
      | (rw [← e]; exact h u v w2 hs2 (hb1.trans (hb2.mono hb1.size)) hx (hY _ _ _ hb2 hy))
/-- One that alone may come now. -/
theorem single {P : Program} {md : Region.Mode} {ops : Array Oper} {Q : Exit → Act → World → Prop} {S : World → Prop} (i di : Nat) {oi : Oper} {fuel : Nat} {listed : Array Bool} {a : Act} {w : World}
    (hi : ops[i]? = some oi) (hdi : oi.dst = some di) (hr : Region.ready md ops listed = [i]) (wi : Region.wanted oi (yielded ops a.tmps) = true)
    (X : Value → World → Prop) (li : LooseR P w S X ((execOp a.eval oi).run P w))
    (h : ∀ u w', S w' → Below w.heap.size w w' → X u w' → wpAnyH P md ops Q S fuel (listed.setIfInBounds i true) (a.put (some di) u) w') : wpAnyH P md ops Q S (fuel + 1) listed a w := by
  refine wpAnyH_ready hr (by simp) (AllReadyH.cons hi (fun K hK => ?_) AllReadyH.nil)
  rw [if_pos wi]
  refine LooseR.wp li (fun u w1 hs1 hb1 hx => hK.out _ _ hs1 (fun _ => ?_))
  rw [hdi]
  exact h u w1 hs1 hb1 hx
theorem looseR_call {P : Program} {o : Oper} {a : Act} {w : World} {S : World → Prop} {X : Value → World → Prop} (f : Nat) {xs : Array Operand} {ts : Array TypeId} (ho : o.op = .call { callee := .value (.func f), args := xs, argTypes := ts })
    (eg : ∀ args w, (callFunc f args).run P w = .ok (.enter f args) w) (args : Array Value) (hargs : xs.map a.eval = args)
    (h : Calls P f args w fun e w'' => ∃ v, e = .returned v ∧ S w'' ∧ Below w.heap.size w w'' ∧ X v w'') : LooseR P w S X ((execOp a.eval o).run P w) := by
  have : (execOp a.eval o).run P w = .ok (.enter f args) w := by
    unfold execOp
    simp only [ho, resolve, invoke, hargs, Sem.run_bind]
    rw [show a.eval (.func f) = .func (.func f) #[] #[] from rfl]
    simp only [Deferred.ofValue, Sem.run_pure, Result.andThen_ok, Array.empty_append, Array.append_empty, eg]
  rw [this]
  exact ⟨rfl, h⟩
theorem loose_call {P : Program} {o : Oper} {a : Act} {S : World → Prop} {X : Value → World → Prop} (f : Nat) {xs : Array Operand} {ts : Array TypeId} (ho : o.op = .call { callee := .value (.func f), args := xs, argTypes := ts })
    (eg : ∀ args w, (callFunc f args).run P w = .ok (.enter f args) w) (args : Array Value) (hargs : xs.map a.eval = args)
    (h : ∀ w, S w → Calls P f args w fun e w'' => ∃ v, e = .returned v ∧ S w'' ∧ Below w.heap.size w w'' ∧ X v w'') : Loose P o a S X := fun w hw => looseR_call f ho eg args hargs (h w hw)
end Go.Proofs.Ytcoiaddjfeaciaa
end
section
namespace Go.Proofs.Ytcoiaddjfeaciaa
set_option maxRecDepth 100000
set_option maxHeartbeats 1000000
open Go.RowKit Go.Lib Go.Great

theorem yieldsIf_loadQ {P : Program} {ops : Array Oper} {S : World → Prop} {op : Oper} {a : Act} (hw : Region.wanted op (yielded ops a.tmps) = true) (ty : TypeId) (x : Operand) (ho : op.op = .load ty x) (p : Addr) (hx : a.eval x = .pointer (some p)) (v : Value) (hl : ∀ w, S w → (loadVar ty p).run P w = .ok v w) : YieldsIf P ops S op v a :=
  .inl ⟨hw, fun w hw' => by
    unfold execOp
    simp only [ho, hx, Instr.loadAt, Instr.sureAddr, Sem.run_bind, Sem.run_pure, Result.andThen_ok, hl w hw']⟩
/-- v is a slice of M's ids, each once, the nearest one first. -/
def SrtIs (t : IDv) (M : List IDv) (len : Nat) (v : Value) (W : World) : Prop := ∃ A c out, v = .slice A out.length c ∧ IsSet (kM t) out M ∧ out.length ≤ len ∧ out.length ≤ c ∧ IAt W W.heap.size A out
theorem SrtIs.keep {t : IDv} {M : List IDv} {len : Nat} (v : Value) (w w' : World) (hb : Below w.heap.size w w') (h : SrtIs t M len v w) : SrtIs t M len v w' := by
  obtain ⟨A, c, out, h1, h2, h3, h4, h5⟩ := h
  exact ⟨A, c, out, h1, h2, h3, h4, (h5.below hb).more hb.size⟩
/-- v is the closure that measures to t. -/
def NearIs (t : IDv) (v : Value) (W : World) : Prop := ∃ p, v = nearF p ∧ p < W.heap.size ∧ W.rangeAt p 0 (encID t)
theorem NearIs.keep {t : IDv} (v : Value) (w w' : World) (hb : Below w.heap.size w w') (h : NearIs t v w) : NearIs t v w' := by
  obtain ⟨p, h1, h2, h3⟩ := h
  exact ⟨p, h1, Nat.lt_of_lt_of_le h2 hb.size, range_keep h3 (hb.block p h2)⟩
def TupIs (t x : IDv) (M : List IDv) (v : Value) : Prop := ∃ (S : List IDv) (b : Bool), IsSet (kM t) S M ∧ v = .tuple #[.int .i64 (rankK (kM t) x S : Int), .bool b]
def RankIs (t x : IDv) (M : List IDv) (e : Ending) : Prop := ∃ S : List IDv, IsSet (kM t) S M ∧ e = .returned (.int .i64 (rankK (kM t) x S : Int))

theorem mrank_any (t x : IDv) (A : Option Addr) (c : Nat) (L : List IDv) (w : World) (hL : L.length ≤ 50000) (hA : IAt w w.heap.size A L) :
    Calls Try.prog 51 #[.agg (encID t).toArray, .agg (encID x).toArray, .slice A L.length c] w fun e w' => RankIs t x L e ∧ Below w.heap.size w w' := by
  obtain ⟨h1, h2, hb0⟩ := heap2 w (.cells (encID t).toArray 26) (.cells (encID x).toArray 26)
  obtain ⟨W0, hW0⟩ : ∃ W0, W0 = (w.alloc (.cells (encID t).toArray 26)).alloc (.cells (encID x).toArray 26) := ⟨_, rfl⟩
  rw [← hW0] at h1 h2 hb0
  have g1 := (Array.getElem?_eq_some_iff.1 h1).1
  have g2 := (Array.getElem?_eq_some_iff.1 h2).1
  have HLT : Hid (∀ W, Below W0.heap.size W0 W → (loadVar 26 ⟨w.heap.size, 0, none⟩).run Try.prog W = .ok (.agg (encID t).toArray) W) := Lib.hid (fun W h => range_load26 (range_keep (row_range h1) (h.block _ g1)))
  have HLX : Hid (∀ W, Below W0.heap.size W0 W → (loadVar 26 ⟨w.heap.size + 1, 0, none⟩).run Try.prog W = .ok (.agg (encID x).toArray) W) := Lib.hid (fun W h => range_load26 (range_keep (row_range h2) (h.block _ g2)))
  have HA : Hid (∀ W, Below W0.heap.size W0 W → IAt W W.heap.size A L) := Lib.hid (fun W h => (((hA.below hb0).more hb0.size).below h).more h.size)
  obtain ⟨n, hn⟩ : ∃ n, n = L.length := ⟨_, rfl⟩
  have HM : Hid (∀ W, Below W0.heap.size W0 W → Calls Try.prog 47 #[.agg (encID t).toArray, .slice A n c] W fun e w' => ∃ v, e = .returned v ∧ Below W0.heap.size W0 w' ∧ Below W.heap.size W w' ∧ SrtIs t L n v w') := Lib.hid (fun W h => by
    rw [hn]
    refine (msort_any t A c L W hL (HA.out W h)).mono ?_
    rintro e w' ⟨A', c', out, rfl, k1, k2, k3, k4, k5⟩
    exact ⟨_, rfl, h.trans (k5.mono h.size), k5, A', c', out, rfl, k1, k2, k3, k4⟩)
  have HNR : Hid (∀ W, Below W0.heap.size W0 W → Calls Try.prog 75 #[.agg (encID t).toArray] W fun e w' => ∃ v, e = .returned v ∧ Below W0.heap.size W0 w' ∧ Below W.heap.size W w' ∧ NearIs t v w') := Lib.hid (fun W h => by
    refine (nearer_any t W).mono ?_
    rintro e w' ⟨rfl, rfl⟩
    have hb : Below W.heap.size W (W.alloc (.cells (encID t).toArray 26)) := (Below.refl _ W).alloc (Nat.le_refl _) _
    exact ⟨_, rfl, h.trans (hb.mono h.size), hb, W.heap.size, rfl, by simp, row_range (heap_alloc_new W _)⟩)
  have HBS : Hid (∀ u v W1, SrtIs t L n u W1 → NearIs t v W1 → Below W0.heap.size W0 W1 → Calls Try.prog 76 #[u, .agg (encID x).toArray, v] W1 fun e w' => ∃ r, e = .returned r ∧ Below W0.heap.size W0 w' ∧ Below W1.heap.size W1 w' ∧ TupIs t x L r) := Lib.hid (fun u v W1 hu hv h => by
    obtain ⟨A', c', out, rfl, k1, k2, k3, k4⟩ := hu
    obtain ⟨p, rfl, k5, k6⟩ := hv
    refine (bsearch_any t x A' c' p out W1 (by omega) k1.1 k4 k5 k6).mono ?_
    rintro e w' ⟨⟨b, rfl⟩, k7⟩
    exact ⟨_, rfl, h.trans (k7.mono h.size), k7, out, b, k1, rfl⟩)
  have HSa : Hid (Below W0.heap.size W0 W0.drew) := Lib.hid (Below.refl _ _).drew
  have HW := Lib.hid hW0
  have HB0 := Lib.hid hb0
  rw [← hn]
  generalize (encID t).toArray = T at HLT HM HNR HW ⊢
  generalize (encID x).toArray = X at HLX HBS HW ⊢
  clear hA h1 h2 hb0 hW0 g1 g2 hn hL HA
  go_enter Try.func51, Try.ntmps51
  go_upto_region 1 with fail
  rw [← HW.out]
  refine wp_region_noPanic ?_
  refine wp_region_held_drew (S := fun w' => Below W0.heap.size W0 w') (by kernel_rfl) HSa.out (fun hHeld => ?_)
  refine takeH_at 0 10 (v := .agg T) rfl rfl (by kernel_rfl) (by kernel_rfl) (by kernel_rfl) (fun _ _ _ h => h) (yieldsIf_loadQ (by rfl) 26 (.tmp 3) rfl _ rfl _ HLT.out) (by assumption) ?_
  simp only [Act.put, List.setIfInBounds_toArray, List.set_cons_zero, List.set_cons_succ]
  refine takeH_at 1 11 (v := ?_) rfl rfl (by kernel_rfl) (by kernel_rfl) (by kernel_rfl) (fun _ _ _ h => h) (Or.inl ⟨by rfl, ?_⟩) (by assumption) ?_
  rotate_left
  · (intro wx hSw; clear hSw; go_simp) <;> with_reducible rfl
  simp only [Act.put, List.setIfInBounds_toArray, List.set_cons_zero, List.set_cons_succ]
  refine takeH_at 3 13 (v := .agg X) rfl rfl (by kernel_rfl) (by kernel_rfl) (by kernel_rfl) (fun _ _ _ h => h) (yieldsIf_loadQ (by rfl) 26 (.tmp 4) rfl _ rfl _ HLX.out) (by assumption) ?_
  simp only [Act.put, List.setIfInBounds_toArray, List.set_cons_zero, List.set_cons_succ]
  refine takeH_at 4 14 (v := .agg T) rfl rfl (by kernel_rfl) (by kernel_rfl) (by kernel_rfl) (fun _ _ _ h => h) (yieldsIf_loadQ (by rfl) 26 (.tmp 3) rfl _ rfl _ HLT.out) (by assumption) ?_
  simp only [Act.put, List.setIfInBounds_toArray, List.set_cons_zero, List.set_cons_succ]
  refine single 2 12 rfl rfl (by kernel_rfl) (by rfl) (SrtIs t L n) (looseR_call 47 rfl (enters_of Try.func47 (by kernel_rfl) rfl) _ (by simp only [List.map_toArray, List.map_cons, List.map_nil]; rfl) (HM.out _ hHeld)) ?_
  intro u w1 hS1 hb1 hu
  simp only [Act.put, List.setIfInBounds_toArray, List.set_cons_zero, List.set_cons_succ]
  refine single 5 15 rfl rfl (by kernel_rfl) (by rfl) (NearIs t) (looseR_call 75 rfl (enters_of Try.func75 (by kernel_rfl) rfl) _ (by simp only [List.map_toArray, List.map_cons, List.map_nil]; rfl) (HNR.out _ hS1)) ?_
  intro v w2 hS2 hb2 hv
  simp only [Act.put, List.setIfInBounds_toArray, List.set_cons_zero, List.set_cons_succ]
  refine single 6 16 rfl rfl (by kernel_rfl) (by rfl) (fun r _ => TupIs t x L r) (looseR_call 76 rfl (enters_of Try.func76 (by kernel_rfl) rfl) _ (by simp only [List.map_toArray, List.map_cons, List.map_nil]; rfl) (HBS.out u v w2 (SrtIs.keep _ _ _ hb2 hu) hv hS2)) ?_
  intro r w3 hS3 hb3 hr
  obtain ⟨M, b, hM, rfl⟩ := hr
  generalize hk : rankK (kM t) x M = k
  have HK := Lib.hid hk
  clear hk
  simp only [Act.put, List.setIfInBounds_toArray, List.set_cons_zero, List.set_cons_succ]
  refine takeH_at 7 9 (v := ?_) rfl rfl (by kernel_rfl) (by kernel_rfl) (by kernel_rfl) (fun _ _ _ h => h) (Or.inl ⟨by rfl, ?_⟩) (by assumption) ?_
  rotate_left
  · (intro wx hSw; clear hSw; go_simp) <;> with_reducible rfl
  simp only [Act.put, List.setIfInBounds_toArray, List.set_cons_zero, List.set_cons_succ]
  refine takeH_at 8 17 (v := ?_) rfl rfl (by kernel_rfl) (by kernel_rfl) (by kernel_rfl) (fun _ _ _ h => h) (Or.inl ⟨by rfl, ?_⟩) (by assumption) ?_
  rotate_left
  · (intro wx hSw; clear hSw; go_simp) <;> with_reducible rfl
  simp only [Act.put, List.setIfInBounds_toArray, List.set_cons_zero, List.set_cons_succ]
  refine takeH_at 9 18 (v := ?_) rfl rfl (by kernel_rfl) (by kernel_rfl) (by kernel_rfl) (fun _ _ _ h => h) (Or.inl ⟨by rfl, ?_⟩) (by assumption) ?_
  rotate_left
  · (intro wx hSw; clear hSw; go_simp) <;> with_reducible rfl
  simp only [Act.put, List.setIfInBounds_toArray, List.set_cons_zero, List.set_cons_succ]
  refine takeH_at 10 7 (v := ?_) rfl rfl (by kernel_rfl) (by kernel_rfl) (by kernel_rfl) (fun _ _ _ h => h) (Or.inl ⟨by rfl, ?_⟩) (by assumption) ?_
  rotate_left
  · (intro wx hSw; clear hSw; go_simp) <;> with_reducible rfl
  simp only [Act.put, List.setIfInBounds_toArray, List.set_cons_zero, List.set_cons_succ]
  refine takeH_at 11 8 (v := ?_) rfl rfl (by kernel_rfl) (by kernel_rfl) (by kernel_rfl) (fun _ _ _ h => h) (Or.inl ⟨by rfl, ?_⟩) (by assumption) ?_
  rotate_left
  · (intro wx hSw; clear hSw; go_simp) <;> with_reducible rfl
  simp only [Act.put, List.setIfInBounds_toArray, List.set_cons_zero, List.set_cons_succ]
  refine wpAnyH_done (by kernel_rfl) ?_ _
  refine NoPanic.normal ?_
  have HF := Lib.hid (HB0.out.trans (hS3.mono HB0.out.size))
  have HM2 := Lib.hid hM
  clear hS1 hS2 hS3 hb1 hb2 hb3 hu hv hM HM HNR HBS
  go_wp2
  go_ret
  exact ⟨⟨M, HM2.out, by rw [HK.out]; rfl⟩, HF.out⟩
end Go.Proofs.Ytcoiaddjfeaciaa
end
section
namespace Go.Proofs.Ytcoiaddjfeaciaa
set_option maxRecDepth 100000
set_option maxHeartbeats 1000000
open Go.RowKit Go.Lib Go.Great

/-- v is a row of one's own. -/
def OwnIs (base : Nat) (e : TypeId) (L : List IDv) (v : Value) (W : World) : Prop := W.ownsRow base e 20 v L.length (flatI L)
theorem OwnIs.keep {base : Nat} {e : TypeId} {L : List IDv} (v : Value) (w w' : World) (hb : Below w.heap.size w w') (h : OwnIs base e L v w) : OwnIs base e L v w' :=
  World.ownsRow.kept h (grownBy_of_below hb (Nat.le_refl _) none) (by cases v.ownBlock <;> simp)
/-- v is a new row of one id. -/
def OneIs (e : TypeId) (x : IDv) (v : Value) (W : World) : Prop := ∃ g, v = .slice (some ⟨g, 0, none⟩) 1 1 ∧ W.heap[g]? = some (.cells (encID x).toArray e (0, 0))
theorem OneIs.keep {e : TypeId} {x : IDv} (v : Value) (w w' : World) (hb : Below w.heap.size w w') (h : OneIs e x v w) : OneIs e x v w' := by
  obtain ⟨g, h1, h2⟩ := h
  exact ⟨g, h1, (hb.block g (Array.getElem?_eq_some_iff.1 h2).1).trans h2⟩
theorem OneIs.src {t e : TypeId} (hT : IdT t e) {x : IDv} {v : Value} {W : World} (h : OneIs e x v W) : Src Try.prog 20 t v 1 (flatI [x]) W := by
  obtain ⟨g, rfl, h2⟩ := h
  refine Src.ofSlice _ hT.und _ 1 1 (flatI [x]) (by rw [flatI_length]; rfl) (fun j u hu => ?_) (flatI_one _)
  rw [Addr.add_mid]
  rw [flatI_one'] at hu
  exact row_range h2 j u hu
theorem loose_one {t e : TypeId} (hT : IdT t e) (x : IDv) {o : Oper} {a : Act} {S : World → Prop} (hS : ∀ w, S w → S (w.alloc (.cells (encID x).toArray e))) (y : Operand) (ho : o.op = .buildSlice t 1 #[(0, y)]) (hy : a.eval y = .agg (encID x).toArray) : Loose Try.prog o a S (OneIs e x) := by
  intro w hw
  have : (execOp a.eval o).run Try.prog w = .ok (.value (.slice (some ⟨w.heap.size, 0, none⟩) 1 1)) (w.alloc (.cells (encID x).toArray e)) := by
    unfold execOp
    simp only [ho, List.map_toArray, List.map_cons, List.map_nil, hy, Sem.run_bind, run_build_one hT, Result.andThen_ok, Sem.run_pure]
  rw [this]
  exact ⟨hS w hw, (Below.refl _ w).alloc (Nat.le_refl _) _, w.heap.size, rfl, heap_alloc_new w _⟩
theorem step_appT {t e : TypeId} (hT : IdT t e) {ops : Array Oper} {o : Oper} {a : Act} {w : World} {K : Act → World → Prop} {Q : Exit → Act → World → Prop} {E : Prop} (hw : Region.wanted o (yielded ops a.tmps) = true) (d : Nat) (hd : o.dst = some d) (s x : Operand)
    (ho : o.op = .call { callee := .builtin .append, args := #[s, x], argTypes := #[t, t] })
    (base : Nat) (v : Value) (L : List IDv) (hs : a.eval s = v) (hown : OwnIs base e L v w) (y : Value) (M : List IDv) (hx : a.eval x = y) (hr : Src Try.prog 20 t y M.length (flatI M) w) (h63 : L.length + M.length ≤ 100000) (hbase : base ≤ w.heap.size)
    (h : ∀ v' w', OwnIs base e (L ++ M) v' w' → w.grownBy w' v.ownBlock → (v'.ownBlock = v.ownBlock ∨ v'.ownBlock = some w.heap.size) → K (a.put (some d) v') w') :
    if Region.wanted o (yielded ops a.tmps) = true then Oper.wp Try.prog o a w K Q else E := by
  rw [if_pos hw]
  refine wp_append_ids hT w s x ho base v L.length L hs hown y M.length M hx hr h63 hbase (fun v' w' h2 h3 h4 => ?_)
  rw [hd]
  refine h v' w' ?_ h3 h4
  unfold OwnIs
  rw [List.length_append]
  exact h2
theorem own_bel2 {base : Nat} {e : TypeId} {L : List IDv} {v : Value} {W0 w w' : World} (h : OwnIs base e L v w) (hb : Below base W0 w) (hbase : base ≤ w.heap.size) (hg : w.grownBy w' v.ownBlock) : Below base W0 w' :=
  hb.grown hg hbase (fun k hk => (World.ownsRow.lt h k hk).1)

/-- What Insert tells. -/
def InsIs (t : IDv) (L : List IDv) (x : IDv) (n : Int) (base : Nat) (e : Ending) (w : World) : Prop := ∃ v S, e = .returned (.tuple #[v, .bool (decide (x ∈ S.take n.toNat) && !decide (x ∈ L))]) ∧ IsSet (kM t) S (L ++ [x]) ∧ S.length ≤ L.length + 1 ∧ w.ownsRow base 26 20 v (S.take n.toNat).length (flatI (S.take n.toNat))

theorem minsert_any (t : IDv) (A : Option Addr) (c : Nat) (L : List IDv) (x : IDv) (n : Int) (w : World) (hL : L.length ≤ 40000) (hA : IAt w w.heap.size A L) :
    Calls Try.prog 44 #[.agg (encID t).toArray, .slice A L.length c, .agg (encID x).toArray, .int .i64 n] w fun e w' => InsIs t L x n w.heap.size e w' ∧ Below w.heap.size w w' := by
  obtain ⟨h1, h2, hb0⟩ := heap2 w (.cells (encID t).toArray 26) (.cells (encID x).toArray 26)
  obtain ⟨W0, hW0⟩ : ∃ W0, W0 = (w.alloc (.cells (encID t).toArray 26)).alloc (.cells (encID x).toArray 26) := ⟨_, rfl⟩
  rw [← hW0] at h1 h2 hb0
  have g1 := (Array.getElem?_eq_some_iff.1 h1).1
  have g2 := (Array.getElem?_eq_some_iff.1 h2).1
  have HLT : Hid (∀ W, Below W0.heap.size W0 W → (loadVar 26 ⟨w.heap.size, 0, none⟩).run Try.prog W = .ok (.agg (encID t).toArray) W) := Lib.hid (fun W h => range_load26 (range_keep (row_range h1) (h.block _ g1)))
  have HLX : Hid (∀ W, Below W0.heap.size W0 W → (loadVar 26 ⟨w.heap.size + 1, 0, none⟩).run Try.prog W = .ok (.agg (encID x).toArray) W) := Lib.hid (fun W h => range_load26 (range_keep (row_range h2) (h.block _ g2)))
  have HA : Hid (∀ W, Below W0.heap.size W0 W → IAt W W.heap.size A L) := Lib.hid (fun W h => (((hA.below hb0).more hb0.size).below h).more h.size)
  obtain ⟨m, hm⟩ : ∃ m, m = L.length := ⟨_, rfl⟩
  have HCL : Hid (∀ W, Below W0.heap.size W0 W → Calls Try.prog 68 #[.slice A m c] W fun e w' => ∃ v, e = .returned v ∧ Below W0.heap.size W0 w' ∧ Below W.heap.size W w' ∧ OwnIs W0.heap.size 26 L v w') := Lib.hid (fun W h => by
    rw [hm]
    refine (clone_any A c L W (by omega) (HA.out W h)).mono ?_
    rintro e w' ⟨v, rfl, k1, _, k2⟩
    exact ⟨_, rfl, h.trans (k2.mono h.size), k2, own_mono k1 h.size⟩)
  have HLE : Hid (∀ v W, OwnIs W0.heap.size 26 (L ++ [x]) v W → Below W0.heap.size W0 W → Calls Try.prog 49 #[.agg (encID t).toArray, v, .int .i64 n] W fun e w' => ∃ r, e = .returned r ∧ Below W0.heap.size W0 w' ∧ Below W.heap.size W w' ∧ LeastIs t (L ++ [x]) (L.length + 1) n W0.heap.size r w') := Lib.hid (fun v W hv h => by
    obtain ⟨A', c', rfl, k1, _, _⟩ := own_form hv
    refine (mleast_any t A' c' (L ++ [x]) n W (by simp; omega) (IAt.of_own hv)).mono ?_
    rintro e w' ⟨r, rfl, ⟨S, k2, k3, k4⟩, k5⟩
    exact ⟨_, rfl, h.trans (k5.mono h.size), k5, S, k2, by simpa using k3, own_mono k4 h.size⟩)
  have HC1 : Hid (∀ W, Below W0.heap.size W0 W → Calls Try.prog 73 #[.slice A m c, .agg (encID x).toArray] W fun e w' => e = .returned (.bool (decide (x ∈ L))) ∧ Below W.heap.size W w') := Lib.hid (fun W h => by
    rw [hm]
    exact contains_any A c L x W (by omega) (HA.out W h))
  have HSa : Hid (Below W0.heap.size W0 W0.drew) := Lib.hid (Below.refl _ _).drew
  have HW := Lib.hid hW0
  have HB0 := Lib.hid hb0
  have HL63 : Hid (L.length + 1 ≤ 100000) := Lib.hid (by omega)
  rw [← hm]
  obtain ⟨T, hT⟩ : ∃ T, T = (encID t).toArray := ⟨_, rfl⟩
  obtain ⟨X, hX⟩ : ∃ X, X = (encID x).toArray := ⟨_, rfl⟩
  have HX := Lib.hid hX
  rw [← hT] at HLT HLE HW ⊢
  rw [← hX] at HLX HW HC1 ⊢
  clear hA h1 h2 hb0 hW0 g1 g2 hm hL HA hT hX
  go_enter Try.func44, Try.ntmps44
  go_upto_region 1 with fail
  rw [← HW.out]
  refine wp_region_noPanic ?_
  refine wp_region_held_drew (S := fun w' => Below W0.heap.size W0 w') (by kernel_rfl) HSa.out (fun hHeld => ?_)
  refine takeH_at 0 11 (v := .agg T) rfl rfl (by kernel_rfl) (by kernel_rfl) (by kernel_rfl) (fun _ _ _ h => h) (yieldsIf_loadQ (by rfl) 26 (.tmp 4) rfl _ rfl _ HLT.out) (by assumption) ?_
  simp only [Act.put, List.setIfInBounds_toArray, List.set_cons_zero, List.set_cons_succ]
  refine takeH_at 1 12 (v := ?_) rfl rfl (by kernel_rfl) (by kernel_rfl) (by kernel_rfl) (fun _ _ _ h => h) (Or.inl ⟨by rfl, ?_⟩) (by assumption) ?_
  rotate_left
  · (intro wx hSw; clear hSw; go_simp) <;> with_reducible rfl
  simp only [Act.put, List.setIfInBounds_toArray, List.set_cons_zero, List.set_cons_succ]
  refine takeH_at 3 14 (v := .agg X) rfl rfl (by kernel_rfl) (by kernel_rfl) (by kernel_rfl) (fun _ _ _ h => h) (yieldsIf_loadQ (by rfl) 26 (.tmp 6) rfl _ rfl _ HLX.out) (by assumption) ?_
  simp only [Act.put, List.setIfInBounds_toArray, List.set_cons_zero, List.set_cons_succ]
  refine takeH_at 6 17 (v := ?_) rfl rfl (by kernel_rfl) (by kernel_rfl) (by kernel_rfl) (fun _ _ _ h => h) (Or.inl ⟨by rfl, ?_⟩) (by assumption) ?_
  rotate_left
  · (intro wx hSw; clear hSw; go_simp) <;> with_reducible rfl
  simp only [Act.put, List.setIfInBounds_toArray, List.set_cons_zero, List.set_cons_succ]
  refine diamond 2 4 13 15 rfl rfl rfl rfl (by kernel_rfl) (by kernel_rfl) (by kernel_rfl) (by kernel_rfl) (by omega) (by kernel_rfl) (by kernel_rfl) (by rfl) (by rfl) (OwnIs W0.heap.size 26 L) (OneIs 26 x) OwnIs.keep OneIs.keep
    (loose_call 68 rfl (enters_of Try.func68 (by kernel_rfl) rfl) _ (by simp only [List.map_toArray, List.map_cons, List.map_nil]; rfl) HCL.out) (loose_one IdT.api x (fun w h => h.alloc h.size _) (.tmp 14) rfl (by rw [← HX.out]; rfl)) (by assumption) ?_
  intro u v w1 hS1 hb1 hu hv
  simp only [Act.put, List.setIfInBounds_toArray, List.set_cons_zero, List.set_cons_succ]
  refine wpAnyH_ready (rs := [5]) (by kernel_rfl) (by simp) (AllReadyH.cons rfl (fun K hK => ?_) AllReadyH.nil)
  refine step_appT IdT.api (by rfl) 16 rfl (.tmp 13) (.tmp 15) rfl W0.heap.size u L rfl hu v [x] rfl (OneIs.src IdT.api hv) HL63.out hS1.size ?_
  intro r w2 hr hg2 hat2
  have hS2 := own_bel2 hu hS1 hS1.size hg2
  refine hK.out _ _ hS2 (fun _ => ?_)
  simp only [Act.put, List.setIfInBounds_toArray, List.set_cons_zero, List.set_cons_succ]
  clear hK K hu hv hg2 hat2 hb1 hS1 w1
  refine single 7 18 rfl rfl (by kernel_rfl) (by rfl) (LeastIs t (L ++ [x]) (L.length + 1) n W0.heap.size) (looseR_call 49 rfl (enters_of Try.func49 (by kernel_rfl) rfl) _ (by simp only [List.map_toArray, List.map_cons, List.map_nil]; rfl) (HLE.out r w2 hr hS2)) ?_
  intro l w3 hS3 hb3 hl
  simp only [Act.put, List.setIfInBounds_toArray, List.set_cons_zero, List.set_cons_succ]
  refine takeH_at 8 10 (v := ?_) rfl rfl (by kernel_rfl) (by kernel_rfl) (by kernel_rfl) (fun _ _ _ h => h) (Or.inl ⟨by rfl, ?_⟩) (by assumption) ?_
  rotate_left
  · (intro wx hSw; clear hSw; go_simp) <;> with_reducible rfl
  simp only [Act.put, List.setIfInBounds_toArray, List.set_cons_zero, List.set_cons_succ]
  refine wpAnyH_done (by kernel_rfl) ?_ _
  refine NoPanic.normal ?_
  obtain ⟨S, k1, k2, k3⟩ := hl
  have HS1 := Lib.hid k1
  have HS2 : Hid (S.length ≤ L.length + 1) := Lib.hid k2
  have HS3 := Lib.hid k3
  have HB3 := Lib.hid hS3
  have HC2 : Hid (∀ W, Below w3.heap.size w3 W → Calls Try.prog 73 #[l, .agg X] W fun e w' => e = .returned (.bool (decide (x ∈ S.take n.toNat))) ∧ Below W.heap.size W w') := Lib.hid (fun W h => by
    obtain ⟨A', c', rfl, k1', _, _⟩ := own_form k3
    rw [HX.out]
    refine contains_any A' c' (S.take n.toNat) x W (by rw [List.length_take]; have := HL63.out; omega) (((IAt.of_own k3).below h).more h.size))
  have HK1 := Lib.hid (HLX.out w3 hS3)
  clear k1 k2 k3 hS3 hb3 hr hS2 HLE HCL HLT hHeld
  generalize hq1 : decide (x ∈ S.take n.toNat) = q1 at HC2
  generalize hq2 : decide (x ∈ L) = q2 at HC1
  have HQ1 := Lib.hid hq1
  have HQ2 := Lib.hid hq2
  clear hq1 hq2
  cases q1
  · go_wp2_with (first
      | ((with_reducible refine wpList_loadV (op := ⟨some 21, _, _, _, _, _⟩) rfl 26 (.tmp 6) rfl _ ?_ _ HK1.out ?_); rfl)
      | (go_at_call 73; refine (HC2.out _ (Below.refl _ _)).mono ?_; rintro e w4 ⟨rfl, hb4⟩))
    go_ret2
    refine ⟨⟨l, S, by rw [HQ1.out]; rfl, HS1.out, HS2.out, own_mono (OwnIs.keep _ _ _ hb4 HS3.out) HB0.out.size⟩, HB0.out.trans ((HB3.out.trans (hb4.mono HB3.out.size)).mono HB0.out.size)⟩
  · go_wp2_with (first
      | ((with_reducible refine wpList_loadV (op := ⟨some 21, _, _, _, _, _⟩) rfl 26 (.tmp 6) rfl _ ?_ _ HK1.out ?_); rfl)
      | (go_at_call 73; refine (HC2.out _ (Below.refl _ _)).mono ?_; rintro e w4 ⟨rfl, hb4⟩)
      | ((with_reducible refine wpList_loadG (op := ⟨some 25, _, _, _, _, _⟩) rfl 26 (.tmp 6) rfl _ ?_ _ (HLX.out _ (HB3.out.trans (hb4.mono HB3.out.size))) ?_); rfl)
      | (go_at_call 73; refine (HC1.out _ (HB3.out.trans (hb4.mono HB3.out.size))).mono ?_; rintro e w5 ⟨rfl, hb5⟩))
    go_ret2
    refine ⟨⟨l, S, by rw [HQ1.out, HQ2.out]; cases q2 <;> rfl, HS1.out, HS2.out, own_mono (OwnIs.keep _ _ _ hb5 (OwnIs.keep _ _ _ hb4 HS3.out)) HB0.out.size⟩, ?_⟩
    have h34 := HB3.out.trans (hb4.mono HB3.out.size)
    exact HB0.out.trans ((h34.trans (hb5.mono h34.size)).mono HB0.out.size)
end Go.Proofs.Ytcoiaddjfeaciaa
end
