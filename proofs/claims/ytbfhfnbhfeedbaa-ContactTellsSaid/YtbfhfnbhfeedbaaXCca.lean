/- Rows of elements: one store, clearing the end; what is left of equal neighbours: plain lemmas. No condition. Contract of slices.CompactFunc at contacts. Conditions: at most 1,000,000 of them; what is equal has the same key. -/
import Derived.Test.YtbfhfnbhfeedbaaXCsg
import Derived.Lib.SliceRun
section
namespace Go.Proofs.Ytbfhfnbhfeedbaa
open Go.Shelf Go.RowKit Go.Lib Go.Sort
set_option maxRecDepth 100000
section
variable {α : Type} [Inhabited α]
theorem get_set! (d : Array α) (i k : Nat) (x : α) (hi : i < d.size) : (d.setIfInBounds i x)[k]! = if k = i then x else d[k]! := by
  simp only [getElem!_def, Array.getElem?_setIfInBounds]
  by_cases h : k = i
  · subst h; simp [hi]
  · simp [Ne.symm h, h]
theorem setMany_one (enc : α → List Value) (k : Nat) (hk : ∀ x, (enc x).length = k) (d : Array α) (i : Nat) (hi : i < d.size) (x : α) :
    setMany (flatK enc k d) (i * k) (enc x) = flatK enc k (d.setIfInBounds i x) := by
  refine ext_get! (by simp) fun t ht => ?_
  have ht' : t < d.size * k := by simpa using ht
  have k0 : 0 < k := by
    rcases Nat.eq_zero_or_pos k with h | h
    · subst h; simp at ht'
    · exact h
  rw [get_setMany _ _ _ t (by simpa using ht'), get_flatK _ _ _ t ht', get_flatK _ _ _ t (by simpa using ht'), hk, get_set! d i _ x hi]
  by_cases a : t / k = i
  · rw [if_pos ((blk_iff k i t k0).2 a), if_pos a, show t - i * k = t % k by subst a; rw [Nat.mod_eq_sub_div_mul]]
  · rw [if_neg (fun h => a ((blk_iff k i t k0).1 h)), if_neg a]
variable {enc : α → List Value} {k : Nat} {w0 W : World} {blk off : Nat} {dk d0 : Array α}
/-- A store of one element. -/
theorem swk_put1 (h : SWK enc k w0 blk off dk W) (R : RowK enc k w0 blk off d0) (i : Nat) (hi : i < dk.size) (y : α) : SWK enc k w0 blk off (dk.setIfInBounds i y) (W.setCells blk (off + i * k) (enc y)) := by
  obtain ⟨m, os, rfl⟩ := h
  refine ⟨m, os, ?_⟩
  unfold sortWorldK
  rw [setCells_grow os blk _ _ _ (by rw [size_putRowK]; exact R.hblk)]
  congr 1
  unfold putRowK
  rw [setCells_putRow _ _ _ _ _ _ (by rw [R.hk, size_flatK]; exact rowK_bnd dk k i hi), setMany_one enc k R.hk dk i hi y]
theorem swk_st0 (h : SWK enc k w0 blk off dk W) (R : RowK enc k w0 blk off d0) (hs : dk.size = d0.size) (P : Program) (i : Nat) (hi : i < dk.size) (y : α) :
    Sem.run P (storeCells ⟨blk, off + i * k, none⟩ (enc y) 0) W = .ok () (W.setCells blk (off + i * k) (enc y)) :=
  stores_of_holds P (h.holds R.hblk R.hH hs) (i * k) _ (by rw [R.hk, size_flatK]; exact rowK_bnd dk k i hi) (R.h1 _)
/-- What is left of the first n if equal neighbours are left out. -/
def ddK (key : α → Nat) (d : Array α) : Nat → List α
  | 0 => []
  | n + 1 => if n = 0 ∨ key d[n]! ≠ key d[n - 1]! then ddK key d n ++ [d[n]!] else ddK key d n
theorem ddK_len (key : α → Nat) (d : Array α) : ∀ n, (ddK key d n).length ≤ n
  | 0 => Nat.le_refl _
  | n + 1 => by
    have := ddK_len key d n
    rw [ddK]
    split
    · rw [List.length_append, List.length_singleton]; omega
    · omega
theorem ddK_all (key : α → Nat) (d : Array α) : ∀ n, (∀ j, 0 < j → j < n → key d[j]! ≠ key d[j - 1]!) → ddK key d n = seg d 0 n
  | 0, _ => rfl
  | n + 1, h => by
    rw [ddK, if_pos (by
      by_cases h0 : n = 0
      · exact .inl h0
      · exact .inr (h n (by omega) (by omega))), ddK_all key d n (fun j h1 h2 => h j h1 (by omega)), seg_append d (show 0 ≤ n by omega) (show n ≤ n + 1 by omega)]
    congr 1
    simp [seg]
/-- Elements as cells. -/
def flatE (enc : α → List Value) (l : List α) : List Value := l.flatMap enc
omit [Inhabited α] in
theorem flatE_length (hk : ∀ x, (enc x).length = k) (l : List α) : (flatE enc l).length = l.length * k := by
  induction l with
  | nil => simp [flatE]
  | cons x l ih =>
    have e : flatE enc (x :: l) = enc x ++ flatE enc l := rfl
    rw [e, List.length_append, ih, hk, List.length_cons, Nat.add_mul, Nat.one_mul]
    omega
omit [Inhabited α] in
theorem flatE_get (hk : ∀ x, (enc x).length = k) (hk0 : 0 < k) : ∀ (l : List α) (j : Nat) (x : α) (c : Nat), l[j]? = some x → c < k → (flatE enc l)[j * k + c]? = (enc x)[c]? := by
  intro l
  induction l with
  | nil => intro j x c h; simp at h
  | cons y l ih =>
    intro j x c h hc
    cases j with
    | zero =>
      simp only [List.getElem?_cons_zero, Option.some.injEq] at h
      subst h
      unfold flatE
      rw [List.flatMap_cons, Nat.zero_mul, Nat.zero_add, List.getElem?_append_left (by rw [hk]; exact hc)]
    | succ j =>
      rw [List.getElem?_cons_succ] at h
      unfold flatE
      rw [List.flatMap_cons, List.getElem?_append_right (by rw [hk, Nat.add_mul, Nat.one_mul]; omega), hk, show (j + 1) * k + c - k = j * k + c by rw [Nat.add_mul, Nat.one_mul]; omega]
      exact ih j x c h hc
/-- A row that begins with the elements l holds their cells. -/
theorem swk_range (h : SWK enc k w0 blk off dk W) (R : RowK enc k w0 blk off d0) (hs : dk.size = d0.size) (hk0 : 0 < k) (l : List α) (hl : l.length ≤ dk.size) (he : ∀ (j : Nat) (x : α), l[j]? = some x → dk[j]! = x) : W.rangeAt blk off (flatE enc l) := by
  intro t v hv
  have ht := (List.getElem?_eq_some_iff.1 hv).1
  rw [flatE_length R.hk] at ht
  have hj : t / k < l.length := Nat.div_lt_of_lt_mul (by rw [Nat.mul_comm]; exact ht)
  have hc : t % k < k := Nat.mod_lt _ hk0
  have e := flatE_get R.hk hk0 l (t / k) _ (t % k) (List.getElem?_eq_getElem hj) hc
  have et : t / k * k + t % k = t := by rw [Nat.mul_comm]; exact Nat.div_add_mod t k
  rw [et, hv] at e
  have hH := h.holds R.hblk R.hH hs
  have := HoldsK.cell hH (i := t / k) (c := t % k) (by omega) hc
  rw [he _ _ (List.getElem?_eq_getElem hj)] at this
  rw [show off + (t / k) * k + t % k = off + t by rw [Nat.add_assoc, et]] at this
  have hlt : t % k < (enc l[t / k]).length := by rw [R.hk]; exact hc
  rw [List.getElem?_eq_getElem hlt] at e
  rw [this.1, e]
  exact congrArg some (getElem!_pos (enc l[t / k]) (t % k) hlt)
theorem swk_bel (h : SWK enc k w0 blk off dk W) {B : Nat} (hB : B ≤ blk) (hb : blk < w0.heap.size) : Below B w0 W := by
  obtain ⟨n, os, rfl⟩ := h
  refine ⟨rfl, rfl, rfl, ?_, fun i hi => ?_⟩
  · exact size_sortWorldK_c enc k w0 blk off n dk os
  · unfold sortWorldK putRowK grow putRow mapBlock Sort.ahead
    simp only
    rw [Array.getElem?_append_left (by simp; omega), Array.getElem?_modify, if_neg (by omega)]
theorem below_cellsE {B b : Nat} {a : World} (hb : B ≤ b) : ∀ (vs : List Value) (o : Nat) (w : World), Below B a w → Below B a (w.setCells b o vs)
  | [], _, _, h => h
  | _ :: vs, o, w, h => below_cellsE hb vs (o + 1) _ (h.setCell (p := ⟨b, o, none⟩) hb _)
theorem rangeAt_below {w w' : World} {g o : Nat} {cs : List Value} (h : w.rangeAt g o cs) (hb : w'.heap[g]? = w.heap[g]?) : w'.rangeAt g o cs := fun j v hv => by
  rw [World.cell?_of_block (w := w) (w' := w') (a := ⟨g, o + j, none⟩) hb]
  exact h j v hv
end
end Go.Proofs.Ytbfhfnbhfeedbaa
end
section
namespace Go.Proofs.Ytbfhfnbhfeedbaa
open Go.Shelf Go.RowKit Go.Lib Go.Sort
set_option maxRecDepth 1000000
set_option maxHeartbeats 4000000
section
variable {α : Type} [Inhabited α]
/-- What is asked of the function that tells equal ones. -/
def EqLays (P : Program) (g : Nat) (cb : Array Value) (enc : α → List Value) (k : Nat) (ef : α → α → Bool) (blk off size : Nat) (w : World) : Prop :=
  ∀ (m : Nat) (os : Array Obj) (dk : Array α), dk.size = size → ∀ x y : α,
    Calls P g (#[.agg (enc x).toArray, .agg (enc y).toArray] ++ cb) (sortWorldK enc k w blk off m dk os) fun e w' => e = .returned (.bool (ef x y)) ∧ ∃ q os', w' = grow ((sortWorldK enc k w blk off m dk os).drewN q) os'
theorem swk_eqs {P : Program} {enc : α → List Value} {k : Nat} {w0 W : World} {blk off : Nat} {dk : Array α} {g : Nat} {cb : Array Value} {ef : α → α → Bool} {size : Nat} (h : SWK enc k w0 blk off dk W) (hC : EqLays P g cb enc k ef blk off size w0) (hs : dk.size = size) (x y : α) (n : Nat) (os : Array Obj) :
    Calls P g (#[.agg (enc x).toArray, .agg (enc y).toArray] ++ cb) (grow (W.drewN n) os) fun e w' => e = .returned (.bool (ef x y)) ∧ ∃ q os', w' = grow ((grow (W.drewN n) os).drewN q) os' := by
  obtain ⟨m, os0, hw⟩ := h.grown n os
  rw [hw]
  exact hC m os0 dk hs x y
theorem run_clear_con (k : Nat) (Z : Array Value) (hz : ∀ W, (zeroValue 60).run Try.prog W = .ok (.agg Z) W) (hZs : Z.size = k) (hk0 : 0 < k) (hZ1 : ∀ v ∈ Z, v.oneCell' = true) (w : World) (ty : TypeId) (b o n c : Nat) (ht : w.there b o (n * k)) :
    ∃ vs : List Value, vs.length = n * k ∧ (Builtin.clear_ #[61] ty #[.slice (some ⟨b, o, none⟩) n c]).run Try.prog w = .ok (.tuple #[]) (w.setCells b o vs) := by
  have hl : (Builtin.zeroCells Z n).toList.length = n * k := by rw [Array.length_toList, size_zeroCells, hZs]
  refine ⟨(Builtin.zeroCells Z n).toList, hl, ?_⟩
  have h1 : ∀ v ∈ (Builtin.zeroCells Z n).toList, v.oneCell' = true := by
    intro v hv
    rw [Array.mem_toList_iff] at hv
    unfold Builtin.zeroCells at hv
    obtain ⟨j, _, rfl⟩ := Array.mem_map.1 hv
    have hj : j % Z.size < Z.size := Nat.mod_lt _ (by omega)
    rw [getElem!_pos Z (j % Z.size) hj]
    exact hZ1 _ (Array.getElem_mem hj)
  have hst := run_storeCells_cells (P := Try.prog) b o (Builtin.zeroCells Z n).toList 0 w (fun j hj => by simpa using (ht j (by omega)).1) (fun j hj => by simpa using (ht j (by omega)).2) h1
  simp only [Nat.add_zero] at hst
  cases n with
  | zero =>
    have : (Builtin.zeroCells Z 0).toList = [] := List.eq_nil_of_length_eq_zero (by simpa using hl)
    rw [this]
    simp [Builtin.clear_, run_underlying Try.underlying61, World.setCells]
  | succ m => simp [Builtin.clear_, run_underlying Try.underlying61, hz, Value.cells, hst]
theorem wpList_clear_con (k : Nat) (Z : Array Value) (hz : ∀ W, (zeroValue 60).run Try.prog W = .ok (.agg Z) W) (hZs : Z.size = k) (hk0 : 0 < k) (hZ1 : ∀ v ∈ Z, v.oneCell' = true) {w : World} {ops : Array Oper} {rest : List Oper} {o : Oper} {a : Act} {Q : Exit → Act → World → Prop} (hgd : o.guard = none) (x : Operand) (ho : o.op = .call { callee := .builtin .clear, args := #[x], argTypes := #[61] })
    (b f n c : Nat) (hx : a.eval x = .slice (some ⟨b, f, none⟩) n c) (ht : w.there b f (n * k))
    (h : ∀ vs : List Value, vs.length = n * k → wpList Try.prog ops Q rest (a.put o.dst (.tuple #[])) (w.setCells b f vs)) : wpList Try.prog ops Q (o :: rest) a w :=
  wpList_plain hgd fun _ hK => by
    obtain ⟨vs, hl, hr⟩ := run_clear_con k Z hz hZs hk0 hZ1 w o.type b f n c ht
    unfold Oper.wp execOp
    simp only [ho, resolve, invoke, builtin, Sem.run_bind, Sem.run_pure, Result.andThen_ok, List.map_toArray, List.map_cons, List.map_nil, hx, hr]
    exact hK _ _ (h vs hl)
end
end Go.Proofs.Ytbfhfnbhfeedbaa
end
