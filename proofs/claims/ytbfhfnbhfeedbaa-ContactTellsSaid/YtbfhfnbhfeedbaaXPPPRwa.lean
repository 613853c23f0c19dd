/- Rows of ids in memory: plain lemmas. No condition. Contract of slices.BinarySearchFunc at ids, with the closure of package metric. Conditions: fewer than 100000 ids, sorted. Two operations of a region that may come in either order, each of which makes memory: plain lemmas over any program. No condition. More steps of regions that draw their order: two operations under a narrower class of worlds, and a store that comes last: plain lemmas over any program. No condition. Contract of the reference's laid of layer span. Conditions: an id has 20 bytes. Two new variables in either order: a plain lemma over any program. No condition. Plain facts for the walks of SpanDraws and SpanOrder. Conditions: an id has 20 bytes. -/
import Derived.Test.YtbfhfnbhfeedbaaXPPPIde
import Derived.Deep.AppendSrc
import Derived.Laws.BitsAllLaws
import Derived.Laws.BitsLemmas
import Derived.Laws.Bits64
import Derived.LoopTactic
import Derived.Shelf.SlicesE.Clone
import Derived.Lib.OwnBridge
import Derived.Lib.SliceRun
import Derived.Below
import Derived.ProofKit
import Derived.OpenShut
import Derived.Test.YtbfhfnbhfeedbaaRows
import Derived.ChangeOld
import Derived.Laws.Tables
section
namespace Go.Proofs.Ytbfhfnbhfeedbaa
set_option maxRecDepth 100000
open Go.RowKit Go.Lib

section
variable {w w' : World}
end

/-- append onto a row of the call's own, from whatever source; elements of k cells. -/
theorem run_append_srcK {P : Program} (w : World) (base : Nat) (t tx ty e : TypeId) (i : TypeInfo) (z : Value) (k bytes : Nat) (ht : P.underlying t = some (.slice e)) (hi : P.info? e = some i) (hz : i.zero = some z)
    (hsize : i.size = k) (hby : i.bytes = bytes) (hzs : z.cells.size = k)
    (v : Value) (n : Nat) (xs : List Value) (hown : w.ownsRow base e k v n xs)
    (x : Value) (m : Nat) (news : List Value) (hs : Src P k tx x m news w)
    (h63 : n + m ≤ maxLen) (hbytes : (n + m) * bytes ≤ 140737488355328) (hbase : base ≤ w.heap.size) :
    ∃ v' w', (Builtin.append_ #[t, tx] ty #[v, x]).run P w = .ok v' w' ∧ w'.ownsRow base e k v' (n + m) (xs ++ news) ∧ w.grownBy w' v.ownBlock ∧
      (v'.ownBlock = v.ownBlock ∨ v'.ownBlock = some w.heap.size) := by
  subst hby
  have hl : news.length = m * k := hs.newsLen
  have hxl : xs.length = n * k := hown.1
  have hlen : (xs ++ news).length = (n + m) * k := by rw [List.length_append, hxl, hl, Nat.add_mul]
  have hs' : Src P i.size tx x m news w := by rw [hsize]; exact hs
  have grown : ∀ (old : Nat), old < n + m → ∀ (row : Option Nat),
      (w.drew.alloc (.cells ((xs ++ news).toArray ++ Builtin.zeroCells z.cells (grownCap w (n + m) old e - (n + m))) e)).ownsRow base e k
        (.slice (some ⟨w.heap.size, 0, none⟩) (n + m) (grownCap w (n + m) old e)) (n + m) (xs ++ news) ∧
      w.grownBy (w.drew.alloc (.cells ((xs ++ news).toArray ++ Builtin.zeroCells z.cells (grownCap w (n + m) old e - (n + m))) e)) row := by
    intro old ho row
    have hge := grownCap_ge w (n + m) old e
    have hcm : grownCap w (n + m) old e ≤ maxLen := grownCap_le_maxLen w (n + m) old e h63
    refine ⟨⟨hlen, .inr ⟨w.heap.size, _, _, rfl, hbase, heap_alloc_new w.drew _, hge, hcm, ?_, ?_⟩⟩, ⟨rfl, rfl, rfl, by simp, fun k hk _ => Below.heap_alloc w.drew _ k hk⟩⟩
    · simp only [Array.size_append, List.size_toArray, size_zeroCells, hzs, hlen, ← Nat.add_mul]
      congr 1
      omega
    · simp only [Array.toList_append]
      rw [← hlen]
      exact List.take_left
  rcases hown.2 with ⟨rfl, rfl⟩ | ⟨g, cap, cur, rfl, hbg, hg, hnc, hcm, hcs, htake⟩
  · have hx : xs = [] := List.eq_nil_of_length_eq_zero (by simpa using hxl)
    subst hx
    by_cases hm : m = 0
    · subst hm
      have hn : news = [] := List.eq_nil_of_length_eq_zero (by simpa using hl)
      subst hn
      refine ⟨.slice none 0 0, w, ?_, World.ownsRow_nil w base e k, ⟨rfl, rfl, rfl, Nat.le_refl _, fun _ _ _ => rfl⟩, Or.inl rfl⟩
      have hcl := hs'.cells
      rcases hs.kind with ⟨e', hk⟩ | hk <;> simp [Builtin.append_, run_underlying ht, run_underlying hk, sizeOf, typeInfo, hi, hs.len, hcl]
    · have hold : (Builtin.firstCells i.size 0 (.slice none 0 0)).run P w.drew = .ok ([] : List Value).toArray w.drew := run_firstCells_none w.drew i.size 0 0 0
      have hr := run_append_grow_src (P := P) w t tx ty e i z ht hi hz none 0 0 [] hold x m news hs' (by omega) (by simp only [maxLen] at h63; omega) (growslice_fits (by omega) hbytes)
      have hgr := grown 0 (by omega) (Value.ownBlock (.slice none 0 0))
      exact ⟨_, _, hr, hgr.1, hgr.2, Or.inr rfl⟩
  · by_cases hroom : n + m ≤ cap
    · have hfit : n * i.size + news.length ≤ cur.size := by rw [hl, hcs, hsize, ← Nat.add_mul]; exact Nat.mul_le_mul_right _ hroom
      have hst := run_storeCells_at P g (n * i.size) e news 0 cur w hg (by simpa using hfit) hs.one
      have hr : (Builtin.append_ #[t, tx] ty #[.slice (some ⟨g, 0, none⟩) n cap, x]).run P w =
          .ok (.slice (some ⟨g, 0, none⟩) (n + m) cap) (w.setRow g (cur.toList.take (n * i.size) ++ news ++ cur.toList.drop (n * i.size + news.length)).toArray) := by
        simp only [Nat.add_zero] at hst
        rcases hs.kind with ⟨e', hk⟩ | hk <;> simp [Builtin.append_, run_underlying ht, run_underlying hk, sizeOf, typeInfo, hi, hs.len, hroom, hs'.cells, Addr.add_lit, hst]
      rw [hsize] at hr hfit
      refine ⟨_, _, hr, ⟨hlen, .inr ⟨g, cap, _, rfl, hbg, setRow_heap w g cur _ e _ hg, hroom, hcm, ?_, ?_⟩⟩, ⟨rfl, rfl, rfl, by simp, fun k _ hk => setRow_other w g k _ (fun e => hk (by simp [Value.ownBlock, e]))⟩, Or.inl rfl⟩
      · simp only [List.size_toArray, List.length_append, List.length_take, List.length_drop, Array.length_toList]
        omega
      · rw [htake, ← hlen]
        exact List.take_left
    · have holds : (Builtin.firstCells i.size n (.slice (some ⟨g, 0, none⟩) n cap)).run P w.drew = .ok xs.toArray w.drew :=
        run_firstCells_some w.drew i.size n ⟨g, 0, none⟩ n cap xs (by rw [hsize]; exact hown.1) (hown.cells (g := g) rfl)
      have hr := run_append_grow_src (P := P) w t tx ty e i z ht hi hz (some ⟨g, 0, none⟩) n cap xs holds x m news hs' (by omega) (by simp only [maxLen] at h63; omega) (growslice_fits (by omega) hbytes)
      have hgr := grown cap (by omega) (Value.ownBlock (.slice (some ⟨g, 0, none⟩) n cap))
      exact ⟨_, _, hr, hgr.1, hgr.2, Or.inr rfl⟩
end Go.Proofs.Ytbfhfnbhfeedbaa
end
section
namespace Go.Proofs.Ytbfhfnbhfeedbaa
set_option maxRecDepth 100000
set_option maxHeartbeats 1000000
open Go.RowKit Go.Lib Go.Great

theorem kept_ofS {P : Program} {f : FuncId} {args : Array Value} {v : Value} {B : Nat} {W0 : World} (hB : B ≤ W0.heap.size) (h : ∀ n : Kept B W0, Calls P f args n.val fun e w' => e = .returned v ∧ Below n.val.heap.size n.val w') (n : Kept B W0) :
    Calls P f args n.val fun e w' => e = .returned v ∧ ∃ m : Kept B W0, w' = m.val :=
  (h n).mono (by rintro e w' ⟨rfl, hb⟩; exact ⟨rfl, ⟨w', n.property.trans (hb.mono (Nat.le_trans hB n.property.size))⟩, rfl⟩)
end Go.Proofs.Ytbfhfnbhfeedbaa
end
section
namespace Go.Proofs.Ytbfhfnbhfeedbaa
set_option maxRecDepth 100000
open Go.RowKit

def LooseR (P : Program) (w : World) (S : World → Prop) (X : Value → World → Prop) : Result Next → Prop
  | .ok (.value v) w' => S w' ∧ Below w.heap.size w w' ∧ X v w'
  | .ok (.enter f args) w' => w' = w ∧ Calls P f args w (fun e w'' => ∃ v, e = .returned v ∧ S w'' ∧ Below w.heap.size w w'' ∧ X v w'')
  | _ => False
/-- In every world of S the operation yields a value, and leaves a world of S that keeps what stood; of the two X holds. -/
def Loose (P : Program) (o : Oper) (a : Act) (S : World → Prop) (X : Value → World → Prop) : Prop := ∀ w, S w → LooseR P w S X ((execOp a.eval o).run P w)
theorem LooseR.wp {P : Program} {o : Oper} {a : Act} {S : World → Prop} {X : Value → World → Prop} {w : World} (this : LooseR P w S X ((execOp a.eval o).run P w)) {K : Act → World → Prop} {Q : Exit → Act → World → Prop}
    (hK : ∀ v w', S w' → Below w.heap.size w w' → X v w' → K (a.put o.dst v) w') : o.wp P a w K Q := by
  unfold Oper.wp
  generalize (execOp a.eval o).run P w = r at *
  cases r with
  | halt x w' => cases this
  | ok n w' =>
    cases n <;> simp only [LooseR] at this <;> simp only [Oper.upon]
    case value v => exact hK v w' this.1 this.2.1 this.2.2
    case enter f args =>
      obtain ⟨rfl, hc⟩ := this
      exact hc.mono (by rintro e w'' ⟨v, rfl, h1, h2, h3⟩; exact hK v w'' h1 h2 h3)
theorem Loose.wp {P : Program} {o : Oper} {a : Act} {S : World → Prop} {X : Value → World → Prop} (h : Loose P o a S X) {w : World} (hw : S w) {K : Act → World → Prop} {Q : Exit → Act → World → Prop}
    (hK : ∀ v w', S w' → Below w.heap.size w w' → X v w' → K (a.put o.dst v) w') : o.wp P a w K Q := LooseR.wp (h w hw) hK
theorem Loose.put {P : Program} {ops : Array Oper} {o o' : Oper} {a : Act} {S : World → Prop} {X : Value → World → Prop} (h : Loose P o a S X) (hs : Region.noSelect ops = true) {i : Nat} (hi : ops[i]? = some o) (hap : o'.apart ops o = true) (u : Value) : Loose P o (a.put o'.dst u) S X := by
  obtain ⟨h1, _, _⟩ := Oper.apart_spec hap
  intro w hw
  rw [execOp_put o (fun cs b => Region.noSelect_spec hs i o cs b hi) a o'.dst u h1]
  exact h w hw

/-- One that alone may come now. -/
theorem single {P : Program} {md : Region.Mode} {ops : Array Oper} {Q : Exit → Act → World → Prop} {S : World → Prop} (i di : Nat) {oi : Oper} {fuel : Nat} {listed : Array Bool} {a : Act} {w : World}
    (hi : ops[i]? = some oi) (hdi : oi.dst = some di) (hr : Region.ready md ops listed = [i]) (wi : Region.wanted oi (yielded ops a.tmps) = true)
    (X : Value → World → Prop) (li : LooseR P w S X ((execOp a.eval oi).run P w))
    (h : ∀ u w', S w' → Below w.heap.size w w' → X u w' → wpAnyH P md ops Q S fuel (listed.setIfInBounds i true) (a.put (some di) u) w') : wpAnyH P md ops Q S (fuel + 1) listed a w := by
  refine wpAnyH_ready hr (by simp) (AllReadyH.cons hi (fun K hK => ?_) AllReadyH.nil)
  rw [if_pos wi]
  refine LooseR.wp li (fun u w1 hs1 hb1 hx => hK.out _ _ hs1 (fun _ => ?_))
  rw [hdi]
  exact h u w1 hs1 hb1 hx
theorem looseR_call {P : Program} {o : Oper} {a : Act} {w : World} {S : World → Prop} {X : Value → World → Prop} (f : Nat) {xs : Array Operand} {ts : Array TypeId} (ho : o.op = .call { callee := .value (.func f), args := xs, argTypes := ts })
    (eg : ∀ args w, (callFunc f args).run P w = .ok (.enter f args) w) (args : Array Value) (hargs : xs.map a.eval = args)
    (h : Calls P f args w fun e w'' => ∃ v, e = .returned v ∧ S w'' ∧ Below w.heap.size w w'' ∧ X v w'') : LooseR P w S X ((execOp a.eval o).run P w) := by
  have : (execOp a.eval o).run P w = .ok (.enter f args) w := by
    unfold execOp
    simp only [ho, resolve, invoke, hargs, Sem.run_bind]
    rw [show a.eval (.func f) = .func (.func f) #[] #[] from rfl]
    simp only [Deferred.ofValue, Sem.run_pure, Result.andThen_ok, Array.empty_append, Array.append_empty, eg]
  rw [this]
  exact ⟨rfl, h⟩
theorem loose_call {P : Program} {o : Oper} {a : Act} {S : World → Prop} {X : Value → World → Prop} (f : Nat) {xs : Array Operand} {ts : Array TypeId} (ho : o.op = .call { callee := .value (.func f), args := xs, argTypes := ts })
    (eg : ∀ args w, (callFunc f args).run P w = .ok (.enter f args) w) (args : Array Value) (hargs : xs.map a.eval = args)
    (h : ∀ w, S w → Calls P f args w fun e w'' => ∃ v, e = .returned v ∧ S w'' ∧ Below w.heap.size w w'' ∧ X v w'') : Loose P o a S X := fun w hw => looseR_call f ho eg args hargs (h w hw)
end Go.Proofs.Ytbfhfnbhfeedbaa
end
section
namespace Go.Proofs.Ytbfhfnbhfeedbaa
set_option maxRecDepth 100000
open Go.RowKit

/-- Two that may come now, and nothing else may ahead of both; what each yields is said for a class S1 within S. -/
theorem diamond2 {P : Program} {md : Region.Mode} {ops : Array Oper} {Q : Exit → Act → World → Prop} {S : World → Prop} (S1 : World → Prop) (hSS : ∀ w, S1 w → S w) (i j di dj : Nat) {oi oj : Oper} {fuel : Nat} {listed : Array Bool} {a : Act} {w : World}
    (hi : ops[i]? = some oi) (hj : ops[j]? = some oj) (hdi : oi.dst = some di) (hdj : oj.dst = some dj)
    (hs : Region.noSelect ops = true) (hr : Region.ready md ops listed = [i, j]) (hri : Region.ready md ops (listed.setIfInBounds i true) = [j]) (hrj : Region.ready md ops (listed.setIfInBounds j true) = [i])
    (hne : i ≠ j) (hij : oi.apart ops oj = true) (hji : oj.apart ops oi = true) (wi : Region.wanted oi (yielded ops a.tmps) = true) (wj : Region.wanted oj (yielded ops a.tmps) = true)
    (X Y : Value → World → Prop) (hX : ∀ v w w', Below w.heap.size w w' → X v w → X v w') (hY : ∀ v w w', Below w.heap.size w w' → Y v w → Y v w')
    (li : Loose P oi a S1 X) (lj : Loose P oj a S1 Y) (hw : S1 w)
    (h : ∀ u v w', S1 w' → Below w.heap.size w w' → X u w' → Y v w' → wpAnyH P md ops Q S fuel ((listed.setIfInBounds i true).setIfInBounds j true) ((a.put (some di) u).put (some dj) v) w') : wpAnyH P md ops Q S (fuel + 1 + 1) listed a w := by
  refine wpAnyH_ready hr (by simp) ?_
  refine AllReadyH.cons hi (fun K hK => ?_) (AllReadyH.cons hj (fun K hK => ?_) AllReadyH.nil)
  · rw [if_pos wi]
    refine li.wp hw (fun u w1 hs1 hb1 hx => hK.out _ _ (hSS _ hs1) (fun _ => ?_))
    refine wpAnyH_ready hri (by simp) (AllReadyH.cons hj (fun K hK => ?_) AllReadyH.nil)
    rw [if_pos (by rw [wanted_put oj a oi.dst u (Oper.apart_spec hij).1]; exact wj)]
    refine (lj.put hs hj hij u).wp hs1 (fun v w2 hs2 hb2 hy => hK.out _ _ (hSS _ hs2) (fun _ => ?_))
    rw [hdi, hdj]
    exact h u v w2 hs2 (hb1.trans (hb2.mono hb1.size)) (hX _ _ _ hb2 hx) hy
  · rw [if_pos wj]
    refine lj.wp hw (fun v w1 hs1 hb1 hy => hK.out _ _ (hSS _ hs1) (fun _ => ?_))
    refine wpAnyH_ready hrj (by simp) (AllReadyH.cons hi (fun K hK => ?_) AllReadyH.nil)
    rw [if_pos (by rw [wanted_put oi a oj.dst v (Oper.apart_spec hji).1]; exact wi)]
    refine (li.put hs hi hji v).wp hs1 (fun u w2 hs2 hb2 hx => hK.out _ _ (hSS _ hs2) (fun _ => ?_))
    rw [Array.setIfInBounds_comm _ _ (Ne.symm hne), hdi, hdj]
    have e := Act.put_comm a u v (Oper.apart_spec hij).2.1
    rw [hdi, hdj] at e
    first
      | (rw [e]; exact h u v w2 hs2 (hb1.trans (hb2.mono hb1.size)) hx (hY _ _ _ hb2 hy))
      | (rw [← e]; exact h u v w2 hs2 (hb1.trans (hb2.mono hb1.size)) hx (hY _ _ _ hb2 hy))
/-- A store of a whole row that alone may come now. -/
theorem single_store {P : Program} {md : Region.Mode} {ops : Array Oper} {Q : Exit → Act → World → Prop} {S : World → Prop} (i : Nat) {oi : Oper} {fuel : Nat} {listed : Array Bool} {a : Act} {w : World}
    (hi : ops[i]? = some oi) (hdi : oi.dst = none) (hr : Region.ready md ops listed = [i]) (wi : Region.wanted oi (yielded ops a.tmps) = true)
    (ty : TypeId) (x y : Operand) (ho : oi.op = .store ty x y) (g : Nat) (cells : Array Value) (hx : a.eval x = .pointer (some ⟨g, 0, none⟩)) (hy : a.eval y = .agg cells)
    (t : TypeId) (old : Array Value) (hg : w.heap[g]? = some (.cells old t (0, 0))) (hinfo : (P.info? ty).map (·.size) = some cells.size)
    (hold : old.size = cells.size) (h1 : cells.all (·.oneCell') = true) (hS : S (w.setRow g cells))
    (h : wpAnyH P md ops Q S fuel (listed.setIfInBounds i true) a (w.setRow g cells)) : wpAnyH P md ops Q S (fuel + 1) listed a w := by
  refine wpAnyH_ready hr (by simp) (AllReadyH.cons hi (fun K hK => ?_) AllReadyH.nil)
  rw [if_pos wi]
  refine wp_store_row ty x y ho g cells hx hy t old hg hinfo hold h1 (hK.out _ _ hS (fun _ => ?_))
  rw [hdi]
  exact h
/-- A read, under a class. -/
theorem loose_load {P : Program} {o : Oper} {a : Act} {S : World → Prop} (ty : TypeId) (x : Operand) (ho : o.op = .load ty x) (p : Addr) (hx : a.eval x = .pointer (some p)) (v : Value) (hl : ∀ w, S w → (loadVar ty p).run P w = .ok v w) : Loose P o a S (fun u _ => u = v) := by
  intro w hw
  have : (execOp a.eval o).run P w = .ok (.value v) w := by
    unfold execOp
    simp only [ho, hx, Instr.loadAt, Instr.sureAddr, Sem.run_bind, Sem.run_pure, Result.andThen_ok, hl w hw]
  rw [this]
  exact ⟨hw, Below.refl _ _, rfl⟩
end Go.Proofs.Ytbfhfnbhfeedbaa
end
section
namespace Go.Proofs.Ytbfhfnbhfeedbaa
set_option maxRecDepth 100000
set_option maxHeartbeats 1000000
open Go.RowKit Go.Lib Go.Great

theorem LooseR.more {P : Program} {w : World} {S1 S : World → Prop} {X : Value → World → Prop} {r : Result Next} (hS : ∀ w, S1 w → S w) (h : LooseR P w S1 X r) : LooseR P w S (fun v w' => X v w' ∧ S1 w') r := by
  cases r with
  | halt x w' => exact h
  | ok n w' =>
    cases n <;> simp only [LooseR] at h ⊢
    case value v => exact ⟨hS _ h.1, h.2.1, h.2.2, h.1⟩
    case enter f args => exact ⟨h.1, h.2.mono (by rintro e w'' ⟨v, rfl, h1, h2, h3⟩; exact ⟨v, rfl, hS _ h1, h2, h3, h1⟩)⟩
end Go.Proofs.Ytbfhfnbhfeedbaa
end
section
namespace Go.Proofs.Ytbfhfnbhfeedbaa
set_option maxRecDepth 100000
set_option maxHeartbeats 1000000
open Go.RowKit Go.Lib Go.Great

/-- Two new variables, in either order. -/
theorem diamond_alloc {P : Program} {md : Region.Mode} {ops : Array Oper} {Q : Exit → Act → World → Prop} {S : World → Prop} (i j di dj : Nat) {oi oj : Oper} {fuel : Nat} {listed : Array Bool} {a : Act} {w : World}
    (hi : ops[i]? = some oi) (hj : ops[j]? = some oj) (hdi : oi.dst = some di) (hdj : oj.dst = some dj) (ti tj : TypeId) (hoi : oi.op = .alloc ti) (hoj : oj.op = .alloc tj)
    (hr : Region.ready md ops listed = [i, j]) (hri : Region.ready md ops (listed.setIfInBounds i true) = [j]) (hrj : Region.ready md ops (listed.setIfInBounds j true) = [i])
    (hne : i ≠ j) (hdne : di ≠ dj) (hgi : oi.guard = none) (hgj : oj.guard = none)
    (Z : Array Value) (hzi : ∀ ρ w, (execOp ρ oi).run P w = .ok (.value (.pointer (some ⟨w.heap.size, 0, none⟩))) (w.alloc (.cells Z ti))) (hzj : ∀ ρ w, (execOp ρ oj).run P w = .ok (.value (.pointer (some ⟨w.heap.size, 0, none⟩))) (w.alloc (.cells Z tj)))
    (hS : ∀ w o, S w → S (w.alloc o)) (hw : S w)
    (h : ∀ g g' w', (g = w.heap.size ∧ g' = w.heap.size + 1 ∨ g = w.heap.size + 1 ∧ g' = w.heap.size) → S w' → Below w.heap.size w w' → w'.heap[g]? = some (.cells Z ti (0, 0)) → w'.heap[g']? = some (.cells Z tj (0, 0)) →
      wpAnyH P md ops Q S fuel ((listed.setIfInBounds i true).setIfInBounds j true) ((a.put (some di) (.pointer (some ⟨g, 0, none⟩))).put (some dj) (.pointer (some ⟨g', 0, none⟩))) w') : wpAnyH P md ops Q S (fuel + 1 + 1) listed a w := by
  have wi : ∀ t, Region.wanted oi t = true := fun t => by unfold Region.wanted; rw [hgi]
  have wj : ∀ t, Region.wanted oj t = true := fun t => by unfold Region.wanted; rw [hgj]
  refine wpAnyH_ready hr (by simp) ?_
  refine AllReadyH.cons hi (fun K hK => ?_) (AllReadyH.cons hj (fun K hK => ?_) AllReadyH.nil)
  · rw [if_pos (wi _)]
    unfold Oper.wp
    rw [hzi]
    refine hK.out _ _ (hS _ _ hw) (fun _ => ?_)
    refine wpAnyH_ready hri (by simp) (AllReadyH.cons hj (fun K hK => ?_) AllReadyH.nil)
    rw [if_pos (wj _)]
    unfold Oper.wp
    rw [hzj]
    refine hK.out _ _ (hS _ _ (hS _ _ hw)) (fun _ => ?_)
    rw [hdi, hdj]
    obtain ⟨h1, h2, hb⟩ := heap2 w (.cells Z ti) (.cells Z tj)
    have e : (w.alloc (.cells Z ti)).heap.size = w.heap.size + 1 := by simp
    rw [e]
    exact h _ _ _ (.inl ⟨rfl, rfl⟩) (hS _ _ (hS _ _ hw)) hb h1 h2
  · rw [if_pos (wj _)]
    unfold Oper.wp
    rw [hzj]
    refine hK.out _ _ (hS _ _ hw) (fun _ => ?_)
    refine wpAnyH_ready hrj (by simp) (AllReadyH.cons hi (fun K hK => ?_) AllReadyH.nil)
    rw [if_pos (wi _)]
    unfold Oper.wp
    rw [hzi]
    refine hK.out _ _ (hS _ _ (hS _ _ hw)) (fun _ => ?_)
    rw [Array.setIfInBounds_comm _ _ (Ne.symm hne), hdi, hdj]
    obtain ⟨h1, h2, hb⟩ := heap2 w (.cells Z tj) (.cells Z ti)
    have e : (w.alloc (.cells Z tj)).heap.size = w.heap.size + 1 := by simp
    rw [e]
    have ec : (a.put (some dj) (.pointer (some ⟨w.heap.size, 0, none⟩))).put (some di) (.pointer (some ⟨w.heap.size + 1, 0, none⟩)) = (a.put (some di) (.pointer (some ⟨w.heap.size + 1, 0, none⟩))).put (some dj) (.pointer (some ⟨w.heap.size, 0, none⟩)) := by
      simp only [Act.put]
      rw [Array.setIfInBounds_comm _ _ (Ne.symm hdne)]
    rw [ec]
    exact h _ _ _ (.inr ⟨rfl, rfl⟩) (hS _ _ (hS _ _ hw)) hb h2 h1
theorem alloc_run {P : Program} {o : Oper} (t : TypeId) (ho : o.op = .alloc t) (Z : Array Value) (hz : ∀ W, (zeroValue t).run P W = .ok (.agg Z) W) (ρ : Operand → Value) (w : World) : (execOp ρ o).run P w = .ok (.value (.pointer (some ⟨w.heap.size, 0, none⟩))) (w.alloc (.cells Z t)) := by
  unfold execOp
  simp only [ho, Instr.alloc, Sem.run_bind, hz, Result.andThen_ok, Sem.run_pure]
  simp [go_sem, newVar]
end Go.Proofs.Ytbfhfnbhfeedbaa
end
section
namespace Go.Proofs.Ytbfhfnbhfeedbaa
set_option maxRecDepth 100000
set_option maxHeartbeats 1000000
open Go.RowKit Go.Lib Go.Great

theorem looseR_alloc {P : Program} {o : Oper} {a : Act} {w : World} {S : World → Prop} (t : TypeId) (ho : o.op = .alloc t) (Z : Array Value) (hz : ∀ W, (zeroValue t).run P W = .ok (.agg Z) W) (hS : S (w.alloc (.cells Z t))) :
    LooseR P w S (fun v w' => v = .pointer (some ⟨w.heap.size, 0, none⟩) ∧ w' = w.alloc (.cells Z t)) ((execOp a.eval o).run P w) := by
  rw [alloc_run t ho Z hz]
  exact ⟨hS, (Below.refl _ w).alloc (Nat.le_refl _) _, rfl, rfl⟩
/-- An operation that is wanted and yields a value. -/
theorem wpList_valG {P : Program} {ops : Array Oper} {rest : List Oper} {op : Oper} {a : Act} {w : World} {Q : Exit → Act → World → Prop} (hw : Region.wanted op (yielded ops a.tmps) = true) (v : Value) (hl : (execOp a.eval op).run P w = .ok (.value v) w)
    (h : wpList P ops Q rest (a.put op.dst v) w) : wpList P ops Q (op :: rest) a w :=
  wpList_step fun _ hK => by
    rw [if_pos hw]
    unfold Oper.wp
    rw [hl]
    exact hK _ _ h
end Go.Proofs.Ytbfhfnbhfeedbaa
end
