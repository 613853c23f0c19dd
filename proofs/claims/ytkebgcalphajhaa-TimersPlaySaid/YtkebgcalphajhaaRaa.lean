/- Rows whose head may lie anywhere in their block; append, copy, clear over them. No condition. -/
import Derived.Test.YtkebgcalphajhaaProg
import Derived.Test.YtkebgcalphajhaaRows
import Derived.WalkKit
import Derived.LoopTactic
import Derived.ProofKit
import Derived.OpenShut
import Derived.ChangeOld
import Derived.Below
import Derived.BigQuiet
import Derived.RegionTactic
import Derived.RegionCalls
import Derived.Lib.Hide
import Derived.Deep.AppendSrc
import Derived.Laws.CopyOwn
import Derived.Laws.Rows
import Derived.OwnWalk
namespace Go.Proofs.Ytkebgcalphajhaa
open Go.RowKit Go.Lib
set_option maxRecDepth 100000
set_option maxHeartbeats 400000
/-- The type T of a slice, the type e of its elements, which have k cells. -/
structure RowT (T e k : Nat) : Prop where
  und : Try.prog.underlying T = some (.slice e)
  info : ∃ i z, Try.prog.info? e = some i ∧ i.zero = some z ∧ i.size = k ∧ i.bytes ≤ 100 ∧ z.cells.size = k ∧ ∀ u ∈ z.cells.toList, u.oneCell' = true
  pos : 0 < k
/-- v has n elements, the cells xs; its block is one of cells of type e, and nobody's but its own. -/
def RowAt (w : World) (e k : Nat) (v : Value) (n : Nat) (xs : List Value) : Prop :=
  xs.length = n * k ∧ ((v = .slice none 0 0 ∧ n = 0) ∨ ∃ g off cap, ∃ cur : List Value, v = .slice (some ⟨g, off, none⟩) n cap ∧ w.heap[g]? = some (.cells cur.toArray e (0, 0)) ∧ n ≤ cap ∧ cap ≤ maxLen ∧ off + cap * k ≤ cur.length ∧ (cur.drop off).take (n * k) = xs)
/-- Where v' lies is where v lay, or new in w. -/
def FreshV (w : World) (v v' : Value) : Prop := ∀ b, v'.ownBlock = some b → v.ownBlock = some b ∨ w.heap.size ≤ b
theorem FreshV.refl (w : World) (v : Value) : FreshV w v v := fun _ h => .inl h
theorem FreshV.trans {w w1 : World} {v v1 v2 : Value} (h : FreshV w v v1) (h1 : FreshV w1 v1 v2) (hs : w.heap.size ≤ w1.heap.size) : FreshV w v v2 := fun b hb => by
  rcases h1 b hb with h2 | h2
  · exact h b h2
  · exact .inr (by omega)
theorem RowAt.lt {w : World} {e k n : Nat} {v : Value} {xs : List Value} (h : RowAt w e k v n xs) : ∀ b, v.ownBlock = some b → b < w.heap.size := fun b hb => by
  rcases h.2 with ⟨rfl, _⟩ | ⟨g, off, cap, cur, rfl, hg, _⟩
  · cases hb
  · have hb : some g = some b := hb
    injection hb with hb
    exact hb ▸ (Array.getElem?_eq_some_iff.1 hg).1
theorem RowAt.same {w w' : World} {e k n : Nat} {v : Value} {xs : List Value} (h : RowAt w e k v n xs) (hb : ∀ b, v.ownBlock = some b → w'.heap[b]? = w.heap[b]?) : RowAt w' e k v n xs := by
  refine ⟨h.1, ?_⟩
  rcases h.2 with ⟨rfl, h0⟩ | ⟨g, off, cap, cur, rfl, hg, r⟩
  · exact .inl ⟨rfl, h0⟩
  · exact .inr ⟨g, off, cap, cur, rfl, (hb g rfl).trans hg, r⟩
theorem RowAt.grown {w w' : World} {e k n : Nat} {v : Value} {xs : List Value} {row : Option Nat} (h : RowAt w e k v n xs) (hg : w.grownBy w' row) (hne : ∀ b, v.ownBlock = some b → some b ≠ row) : RowAt w' e k v n xs :=
  h.same fun b hb => hg.block b (h.lt b hb) (hne b hb)
theorem RowAt.below {w w' : World} {e k n B : Nat} {v : Value} {xs : List Value} (h : RowAt w e k v n xs) (hb : Below B w w') (hl : ∀ b, v.ownBlock = some b → b < B) : RowAt w' e k v n xs :=
  h.same fun b hv => hb.block b (hl b hv)
theorem RowAt.bel {w w' : World} {e k n : Nat} {v : Value} {xs : List Value} (h : RowAt w e k v n xs) (hb : Below w.heap.size w w') : RowAt w' e k v n xs := h.below hb h.lt
theorem RowAt.nil (w : World) (e k : Nat) : RowAt w e k (.slice none 0 0) 0 [] := ⟨by simp, .inl ⟨rfl, rfl⟩⟩
/-- A cell of a row. -/
theorem RowAt.cell {w : World} {e k n g off cap : Nat} {xs : List Value} (h : RowAt w e k (.slice (some ⟨g, off, none⟩) n cap) n xs) (j : Nat) (u : Value) (hu : xs[j]? = some u) : w.cell? ⟨g, off + j, none⟩ = some u := by
  rcases h.2 with ⟨h0, _⟩ | ⟨g', off', cap', cur, h0, hg, hn, hm, hs, hx⟩
  · cases h0
  · injection h0 with e1 _ e3
    injection e1 with e1
    injection e1 with e1 e2
    subst e1 e2 e3
    have hlt := (List.getElem?_eq_some_iff.1 hu).1
    rw [h.1] at hlt
    rw [cell_of_row w g _ _ e (0, 0) hg]
    rw [← hx, List.getElem?_take, if_pos hlt, List.getElem?_drop] at hu
    simpa using hu
theorem RowAt.src {T e k : Nat} (hT : RowT T e k) {w : World} {v : Value} {n : Nat} {xs : List Value} (h : RowAt w e k v n xs) (h1 : ∀ u ∈ xs, u.oneCell' = true) : Src Try.prog k T v n xs w := by
  rcases id h.2 with ⟨rfl, rfl⟩ | ⟨g, off, cap, cur, rfl, _⟩
  · have : xs = [] := List.eq_nil_of_length_eq_zero (by simpa using h.1)
    subst this
    exact Src.ofNil w hT.und 0
  · exact Src.ofSlice w hT.und _ n cap xs h.1 (fun j u hu => by rw [Addr.add_lit]; exact h.cell j u hu) h1
/-- A block that a call has just made. -/
theorem src_new {T e k : Nat} (hT : RowT T e k) (w : World) (n : Nat) (xs : List Value) (hl : xs.length = n * k) (h1 : ∀ u ∈ xs, u.oneCell' = true) (t : TypeId) (a : Array Value) (ha : a.toList = xs) : Src Try.prog k T (.slice (some ⟨w.heap.size, 0, none⟩) n n) n xs (w.alloc (.cells a t)) := by
  refine Src.ofSlice _ hT.und _ n n xs hl (fun j u hu => ?_) h1
  rw [Addr.add_lit, Nat.zero_add, cell_of_row _ w.heap.size j a t (0, 0) (heap_alloc_new w _)]
  rw [← ha] at hu
  simpa using hu
theorem row_new (w : World) (e k n : Nat) (xs : List Value) (hl : xs.length = n * k) (hn : n ≤ maxLen) (a : Array Value) (ha : a.toList = xs) : RowAt (w.alloc (.cells a e)) e k (.slice (some ⟨w.heap.size, 0, none⟩) n n) n xs := by
  refine ⟨hl, .inr ⟨w.heap.size, 0, n, xs, rfl, ?_, Nat.le_refl _, hn, by omega, ?_⟩⟩
  · rw [heap_alloc_new, ← ha]
  · rw [List.drop_zero, ← hl, List.take_length]
theorem splice_end (cur xs news : List Value) (off n : Nat) (hn : off + n + news.length ≤ cur.length) (hx : (cur.drop off).take n = xs) (hl : xs.length = n) : ((splice cur (off + n) news).drop off).take (n + news.length) = xs ++ news := by
  have e1 : cur.take (off + n) = cur.take off ++ xs := by rw [← hx, List.take_add]
  unfold splice
  rw [e1, List.append_assoc, List.drop_append, List.length_take, Nat.min_eq_left (by omega), List.drop_eq_nil_of_le (by rw [List.length_take]; omega), Nat.sub_self, List.drop_zero, List.nil_append, ← List.append_assoc, ← hl, ← List.length_append, List.take_left]
theorem setRow_grown {w : World} {g : Nat} (cs : Array Value) : w.grownBy (w.setRow g cs) (some g) := ⟨rfl, rfl, rfl, by simp [World.setRow], fun k _ hk => setRow_other w g k _ (fun e => hk (by simp [e]))⟩
theorem run_append_row {T e k : Nat} (hT : RowT T e k) (w : World) (ty tx : TypeId) (v : Value) (n : Nat) (xs : List Value) (hR : RowAt w e k v n xs) (x : Value) (m : Nat) (news : List Value) (hs : Src Try.prog k tx x m news w) (hm : n + m ≤ 100000000) :
    ∃ v' w', (Builtin.append_ #[T, tx] ty #[v, x]).run Try.prog w = .ok v' w' ∧ RowAt w' e k v' (n + m) (xs ++ news) ∧ FreshV w v v' ∧ w.grownBy w' v.ownBlock := by
  obtain ⟨i, z, hi, hz, hk, hb, hzk, hz1⟩ := hT.info
  subst hk
  have hgrow : ∀ (A : Option Addr) (c : Nat), c < n + m → v = .slice A n c → (Builtin.firstCells i.size n (.slice A n c)).run Try.prog w.drew = .ok xs.toArray w.drew → ∃ v' w', (Builtin.append_ #[T, tx] ty #[v, x]).run Try.prog w = .ok v' w' ∧ RowAt w' e i.size v' (n + m) (xs ++ news) ∧ FreshV w v v' ∧ w.grownBy w' v.ownBlock := by
    intro A c hc hv hold
    have hr := run_append_grow_src (P := Try.prog) w T tx ty e i z hT.und hi hz A n c xs hold x m news hs hc (by omega) (growslice_fits hc (by have := Nat.mul_le_mul hm hb; omega))
    rw [← hv] at hr
    have hge := grownCap_ge w (n + m) c e
    have hcm : grownCap w (n + m) c e ≤ maxLen := grownCap_le_maxLen w (n + m) c e (by simp only [maxLen]; omega)
    have hl : (xs ++ news).length = (n + m) * i.size := by rw [List.length_append, hR.1, hs.newsLen, Nat.add_mul]
    refine ⟨_, _, hr, ⟨hl, .inr ⟨w.heap.size, 0, _, (xs ++ news) ++ (Builtin.zeroCells z.cells (grownCap w (n + m) c e - (n + m))).toList, rfl, ?_, hge, hcm, ?_, ?_⟩⟩, fun b hb => .inr ?_, ⟨rfl, rfl, rfl, by simp, fun b hb _ => heap_alloc_old w.drew _ hb⟩⟩
    · have := heap_alloc_new w.drew (.cells ((xs ++ news).toArray ++ Builtin.zeroCells z.cells (grownCap w (n + m) c e - (n + m))) e)
      have h2 : (xs ++ news).toArray ++ Builtin.zeroCells z.cells (grownCap w (n + m) c e - (n + m)) = ((xs ++ news) ++ (Builtin.zeroCells z.cells (grownCap w (n + m) c e - (n + m))).toList).toArray := by
        apply Array.ext'
        simp
      rw [← h2]
      exact this
    · rw [Nat.zero_add, List.length_append, hl, Array.length_toList, size_zeroCells, hzk, ← Nat.add_mul]
      exact Nat.mul_le_mul_right _ (by omega)
    · rw [List.drop_zero, ← hl, List.take_left]
    · have hb : some w.heap.size = some b := hb
      injection hb with hb
      omega
  rcases id hR.2 with ⟨rfl, rfl⟩ | ⟨g, off, cap, cur, rfl, hg, hn, hcm, hsz, hx⟩
  · have hx0 : xs = [] := List.eq_nil_of_length_eq_zero (by simpa using hR.1)
    subst hx0
    by_cases hm0 : m = 0
    · subst hm0
      have hn0 : news = [] := List.eq_nil_of_length_eq_zero (by simpa using hs.newsLen)
      subst hn0
      refine ⟨.slice none 0 0, w, ?_, RowAt.nil w e i.size, FreshV.refl _ _, ⟨rfl, rfl, rfl, Nat.le_refl _, fun _ _ _ => rfl⟩⟩
      rcases hs.kind with ⟨e', hk'⟩ | hk' <;> simp [Builtin.append_, run_underlying hT.und, run_underlying hk', sizeOf, typeInfo, hi, hs.len, hs.cells]
    · exact hgrow none 0 (by omega) rfl (by have := run_firstCells_none (P := Try.prog) w.drew i.size 0 0 0; simpa using this)
  · by_cases hroom : n + m ≤ cap
    · have hfit : off + n * i.size + news.length ≤ cur.length := by
        have := Nat.mul_le_mul_right i.size hroom
        rw [hs.newsLen]
        rw [Nat.add_mul] at this
        omega
      have hst := run_storeCells_at Try.prog g (off + n * i.size) e news 0 cur.toArray w hg (by simpa using hfit) hs.one
      simp only [Nat.add_zero] at hst
      refine ⟨.slice (some ⟨g, off, none⟩) (n + m) cap, w.setRow g (splice cur (off + n * i.size) news).toArray, ?_, ⟨by rw [List.length_append, hR.1, hs.newsLen, Nat.add_mul], .inr ⟨g, off, cap, _, rfl, setRow_heap w g _ _ e _ hg, hroom, hcm, by rw [length_splice _ _ _ hfit]; exact hsz, ?_⟩⟩, fun b hb => .inl hb, setRow_grown _⟩
      · rcases hs.kind with ⟨e', hk'⟩ | hk' <;> simp [Builtin.append_, run_underlying hT.und, run_underlying hk', sizeOf, typeInfo, hi, hs.len, hroom, hs.cells, Addr.add_lit, hst, splice]
      · have := splice_end cur xs news off (n * i.size) hfit hx hR.1
        rw [hs.newsLen, ← Nat.add_mul] at this
        exact this
    · exact hgrow (some ⟨g, off, none⟩) cap (by omega) rfl (run_firstCells_some w.drew i.size n ⟨g, off, none⟩ n cap xs hR.1 (fun j u hu => by rw [Addr.add_lit]; exact hR.cell j u hu))
theorem wpList_append_row {T e k : Nat} (hT : RowT T e k) {w : World} {ops : Array Oper} {rest : List Oper} {o : Oper} {a : Act} {Q : Exit → Act → World → Prop} (hgd : o.guard = none) (s x : Operand) {tx : TypeId}
    (ho : o.op = .call { callee := .builtin .append, args := #[s, x], argTypes := #[T, tx] })
    (v : Value) (n : Nat) (xs : List Value) (hv : a.eval s = v) (hR : RowAt w e k v n xs) (y : Value) (m : Nat) (news : List Value) (hy : a.eval x = y) (hs : Src Try.prog k tx y m news w) (hm : n + m ≤ 100000000)
    (h : ∀ v' w', RowAt w' e k v' (n + m) (xs ++ news) → FreshV w v v' → w.grownBy w' v.ownBlock → wpList Try.prog ops Q rest (a.put o.dst v') w') : wpList Try.prog ops Q (o :: rest) a w :=
  wpList_plain hgd fun _ hK => by
    obtain ⟨v', w', hrun, h1, h2, h3⟩ := run_append_row hT w o.type tx v n xs hR y m news hs hm
    unfold Oper.wp
    simp [execOp, ho, resolve, invoke, builtin, hv, hy, hrun, Result.andThen]
    exact hK _ _ (h v' w' h1 h2 h3)
theorem step_append_row {T e k : Nat} (hT : RowT T e k) {w : World} {ops : Array Oper} {o : Oper} {a : Act} {K : Act → World → Prop} {Q : Exit → Act → World → Prop} {E : Prop} (hgd : o.guard = none) (s x : Operand) {tx : TypeId}
    (ho : o.op = .call { callee := .builtin .append, args := #[s, x], argTypes := #[T, tx] })
    (v : Value) (n : Nat) (xs : List Value) (hv : a.eval s = v) (hR : RowAt w e k v n xs) (y : Value) (m : Nat) (news : List Value) (hy : a.eval x = y) (hs : Src Try.prog k tx y m news w) (hm : n + m ≤ 100000000)
    (h : ∀ v' w', RowAt w' e k v' (n + m) (xs ++ news) → FreshV w v v' → w.grownBy w' v.ownBlock → K (a.put o.dst v') w') :
    if Region.wanted o (yielded ops a.tmps) = true then Oper.wp Try.prog o a w K Q else E := by
  have hw : Region.wanted o (yielded ops a.tmps) = true := by simp [Region.wanted, hgd]
  rw [if_pos hw]
  obtain ⟨v', w', hrun, h1, h2, h3⟩ := run_append_row hT w o.type tx v n xs hR y m news hs hm
  unfold Oper.wp
  simp [execOp, ho, resolve, invoke, builtin, hv, hy, hrun, Result.andThen]
  exact h v' w' h1 h2 h3
/-- copy. -/
theorem run_copy_row {T e k : Nat} (hT : RowT T e k) (w : World) (ty : TypeId) (g o dLen dCap : Nat) (a : Addr) (sLen sCap : Nat) (cur : List Value) (cs : List Value)
    (hg : w.heap[g]? = some (.cells cur.toArray e (0, 0))) (hn : cs.length = Nat.min sLen dLen * k)
    (hsrc : ∀ j v, cs[j]? = some v → w.cell? (a.add j) = some v) (hfit : o + cs.length ≤ cur.length) (h1 : ∀ v ∈ cs, v.oneCell' = true) :
    (Builtin.copy_ #[T, T] ty #[.slice (some ⟨g, o, none⟩) dLen dCap, .slice (some a) sLen sCap]).run Try.prog w =
      .ok (goInt (Nat.min sLen dLen)) (w.setRow g (splice cur o cs).toArray) := by
  obtain ⟨i0, z, hi, hz, hz1, hz2, hz3, hz4⟩ := hT.info
  have hl := run_loadCells_list (P := Try.prog) w a cs hsrc
  have hst := run_storeCells_at Try.prog g o e cs 0 cur.toArray w hg (by simpa using hfit) h1
  simp only [Nat.add_zero] at hst
  simp [Builtin.copy_, run_underlying hT.und, Builtin.lenOf, Builtin.firstCells, sizeOf, typeInfo, hi, hz1, ← hn, hl, hst, splice]
theorem wpList_copy_row {T e k : Nat} (hT : RowT T e k) {w : World} {ops : Array Oper} {rest : List Oper} {o : Oper} {a : Act} {Q : Exit → Act → World → Prop} (hgd : o.guard = none) (d s : Operand)
    (ho : o.op = .call { callee := .builtin .copy, args := #[d, s], argTypes := #[T, T] })
    (g off dLen dCap : Nat) (ad : Addr) (sLen sCap : Nat) (hd : a.eval d = .slice (some ⟨g, off, none⟩) dLen dCap) (hs : a.eval s = .slice (some ad) sLen sCap)
    (cur cs : List Value) (hg : w.heap[g]? = some (.cells cur.toArray e (0, 0))) (hn : cs.length = Nat.min sLen dLen * k)
    (hsrc : ∀ j v, cs[j]? = some v → w.cell? (ad.add j) = some v) (hfit : off + cs.length ≤ cur.length) (h1 : ∀ v ∈ cs, v.oneCell' = true)
    (h : wpList Try.prog ops Q rest (a.put o.dst (goInt (Nat.min sLen dLen))) (w.setRow g (splice cur off cs).toArray)) : wpList Try.prog ops Q (o :: rest) a w :=
  wpList_plain hgd fun _ hK => by
    have hrun := run_copy_row hT w o.type g off dLen dCap ad sLen sCap cur cs hg hn hsrc hfit h1
    unfold Oper.wp
    simp [execOp, ho, resolve, invoke, builtin, hd, hs, hrun, Result.andThen]
    exact hK _ _ h
theorem rowInt : RowT 39 3 1 := by
  obtain ⟨i, hi, h1, h2, h3⟩ := info_parts (P := Try.prog) (e := 3) (z := .int .i64 0) (size := 1) (bytes := 8) (by kernel_rfl)
  exact ⟨by kernel_rfl, ⟨i, _, hi, h1, h2, by omega, rfl, fun u hu => by
    have hu : u ∈ [Value.int .i64 0] := hu
    rw [List.mem_singleton.1 hu]
    rfl⟩, by omega⟩
end Go.Proofs.Ytkebgcalphajhaa
