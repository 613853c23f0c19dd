/- append of a made row, append into room, clear, overlaps: over rows of any elements. No condition. -/
import Derived.Test.YtkebgcalphajhaaRah
import Derived.StillTailTactics
import Derived.Laws.CopyOwn
namespace Go.Proofs.Ytkebgcalphajhaa
open Go.RowKit Go.Lib
set_option maxRecDepth 100000
set_option maxHeartbeats 400000
theorem zero_one {z : Array Value} (h : ∀ u ∈ z.toList, u.oneCell' = true) (hk : 0 < z.size) (n : Nat) : ∀ u ∈ (Builtin.zeroCells z n).toList, u.oneCell' = true := by
  intro v hv
  simp only [Builtin.zeroCells, Array.toList_map, Array.toList_range, List.mem_map, List.mem_range] at hv
  obtain ⟨i, _, rfl⟩ := hv
  have hi : i % z.size < z.size := Nat.mod_lt _ hk
  rw [getElem!_pos z (i % z.size) hi]
  exact h _ (by simp)
theorem zero_len (z : Array Value) (n : Nat) : (Builtin.zeroCells z n).toList.length = n * z.size := by simp [Builtin.zeroCells]
/-- append(s, make([]E, m)...), where it grows. -/
theorem run_append_make {T e k : Nat} (hT : RowT T e k) (w : World) (ty : TypeId) (b : Addr) (sLen sCap m : Nat) (olds : List Value) (hlo : olds.length = sLen * k) (holds : ∀ j v, olds[j]? = some v → w.cell? (b.add j) = some v)
    (hg : sCap < sLen + m) (hk : sLen + m ≤ 100000000) (hk1 : 0 < m) :
    ∃ c Z, (Builtin.append_ #[T, 3] ty #[.slice (some b) sLen sCap, .int .i64 (m : Int)]).run Try.prog w = .ok (.slice (some ⟨w.heap.size, 0, none⟩) (sLen + m) c) (w.drew.alloc (.cells (olds ++ Z).toArray e)) ∧ sLen + m ≤ c ∧ c ≤ maxLen ∧ Z.length = (c - sLen) * k := by
  obtain ⟨i0, z, hi, hz, hks, hb, hzk, hz1⟩ := hT.info
  have hpos := hT.pos
  have hge := grownCap_ge w (sLen + m) sCap e
  have hcm : grownCap w (sLen + m) sCap e ≤ maxLen := grownCap_le_maxLen w (sLen + m) sCap e (by simp only [maxLen]; omega)
  have hn : ¬ (sLen + m ≤ sCap) := by omega
  have hwr : IntKind.i64.wrap (m : Int) = (m : Int) := by
    rw [IntKind.wrap_i64]; omega
  have h63' : ¬ (9223372036854775807 < ((sLen : Int) + (m : Int))) := by omega
  have hmb : (sLen + m) * i0.bytes ≤ 100000000 * 100 := Nat.mul_le_mul hk hb
  have hns : Builtin.nextslicecap (sLen + m) sCap * i0.bytes ≤ 281474976710656 := growslice_fits hg (by omega)
  have h48' : ¬ (281474976710656 < Builtin.nextslicecap (sLen + m) sCap * i0.bytes) := by omega
  have h48k : ¬ (281474976710656 < (m : Int) * (i0.bytes : Int)) := by
    have h1 : m * i0.bytes ≤ 100000000 * 100 := Nat.mul_le_mul (by omega) hb
    have h2 : ((m * i0.bytes : Nat) : Int) = (m : Int) * (i0.bytes : Int) := by simp
    rw [← h2]
    omega
  have hfo := run_firstCells_some (P := Try.prog) w.drew i0.size sLen b sLen sCap olds (by rw [hks]; exact hlo) (by simpa using holds)
  have hk0 : ¬ ((m : Int) < 0) := by omega
  have hzl : ∀ q, (Builtin.zeroCells z.cells q).size = q * k := fun q => by rw [size_zeroCells, hzk]
  refine ⟨grownCap w (sLen + m) sCap e, (Builtin.zeroCells z.cells m).toList ++ (Builtin.zeroCells z.cells (grownCap w (sLen + m) sCap e - (sLen + m))).toList, ?_, hge, hcm, ?_⟩
  · have hk28 : ¬ (m * i0.size = 0) := by rw [hks]; exact Nat.ne_of_gt (Nat.mul_pos hk1 hpos)
    have hk29 : ¬ (m = 0 ∨ i0.size = 0) := by rw [hks]; omega
    simp [Builtin.append_, run_underlying hT.und, run_underlying Try.underlying3, sizeOf, typeInfo, zeroValue, hi, hz, asInt, asIntOf, hwr, hk0, h48k, hn, h63', h48', Question.forced, hfo, newRow, grownCap, hk28, hk29]
    congr 2
    apply Array.ext'
    simp
  · rw [List.length_append, Array.length_toList, Array.length_toList, hzl, hzl, ← Nat.add_mul]
    congr 1
    omega
theorem wpList_append_make {T e k : Nat} (hT : RowT T e k) {w : World} {ops : Array Oper} {rest : List Oper} {o : Oper} {a : Act} {Q : Exit → Act → World → Prop} (hgd : o.guard = none) (s x : Operand)
    (ho : o.op = .call { callee := .builtin .append, args := #[s, x], argTypes := #[T, 3] })
    (b off sLen sCap m N : Nat) (z : Int) (hs : a.eval s = .slice (some ⟨b, off, none⟩) sLen sCap) (hx : a.eval x = .int .i64 z) (hz : z = (m : Int)) (hN : sLen + m = N)
    (olds : List Value) (hlo : olds.length = sLen * k) (holds : ∀ j v, olds[j]? = some v → w.cell? ⟨b, off + j, none⟩ = some v) (hg : sCap < N) (hk : N ≤ 100000000) (hk1 : 0 < m)
    (h : ∀ c Z W', N ≤ c → c ≤ maxLen → Z.length = (c - sLen) * k → W'.heap[w.heap.size]? = some (.cells (olds ++ Z).toArray e (0, 0)) → Below w.heap.size w W' → wpList Try.prog ops Q rest (a.put o.dst (.slice (some ⟨w.heap.size, 0, none⟩) N c)) W') : wpList Try.prog ops Q (o :: rest) a w :=
  wpList_plain hgd fun _ hK => by
    subst hz hN
    obtain ⟨c, Z, hrun, h1, h2, h3⟩ := run_append_make hT w o.type ⟨b, off, none⟩ sLen sCap m olds hlo (fun j v hj => by rw [Addr.add_lit]; exact holds j v hj) hg hk hk1
    unfold Oper.wp
    simp [execOp, ho, resolve, invoke, builtin, hs, hx, hrun, Result.andThen]
    exact hK _ _ (h c Z _ h1 h2 h3 (heap_alloc_new w.drew _) (((Below.refl _ w).drew).alloc (by simp) _))
theorem run_append_room {T e k : Nat} (hT : RowT T e k) (w : World) (ty : TypeId) (g o sLen sCap : Nat) (a : Addr) (m c : Nat) (cur cs : List Value)
    (hg : w.heap[g]? = some (.cells cur.toArray e (0, 0))) (hn : cs.length = m * k) (hroom : sLen + m ≤ sCap)
    (hsrc : ∀ j v, cs[j]? = some v → w.cell? (a.add j) = some v) (hfit : o + sLen * k + cs.length ≤ cur.length) (h1 : ∀ v ∈ cs, v.oneCell' = true) :
    (Builtin.append_ #[T, T] ty #[.slice (some ⟨g, o, none⟩) sLen sCap, .slice (some a) m c]).run Try.prog w =
      .ok (.slice (some ⟨g, o, none⟩) (sLen + m) sCap) (w.setRow g (splice cur (o + sLen * k) cs).toArray) := by
  obtain ⟨i0, z, hi, hz, hks, hb, hzk, hz1⟩ := hT.info
  have hfc := run_firstCells_some (P := Try.prog) w k m a m c cs hn hsrc
  have hst := run_storeCells_at Try.prog g (o + sLen * k) e cs 0 cur.toArray w hg (by simpa using hfit) h1
  simp only [Nat.add_zero] at hst
  simp [Builtin.append_, run_underlying hT.und, sizeOf, typeInfo, hi, Builtin.lenOf, hroom, hfc, Addr.add_lit, hks, hst, splice]
theorem wpList_append_room {T e k : Nat} (hT : RowT T e k) {w : World} {ops : Array Oper} {rest : List Oper} {o : Oper} {a : Act} {Q : Exit → Act → World → Prop} (hgd : o.guard = none) (s x : Operand)
    (ho : o.op = .call { callee := .builtin .append, args := #[s, x], argTypes := #[T, T] })
    (g off sLen sCap : Nat) (ad : Addr) (m c N : Nat) (hN : sLen + m = N) (hs : a.eval s = .slice (some ⟨g, off, none⟩) sLen sCap) (hx : a.eval x = .slice (some ad) m c)
    (cur cs : List Value) (hg : w.heap[g]? = some (.cells cur.toArray e (0, 0))) (hn : cs.length = m * k) (hroom : sLen + m ≤ sCap)
    (hsrc : ∀ j v, cs[j]? = some v → w.cell? (ad.add j) = some v) (hfit : off + sLen * k + cs.length ≤ cur.length) (h1 : ∀ v ∈ cs, v.oneCell' = true)
    (h : wpList Try.prog ops Q rest (a.put o.dst (.slice (some ⟨g, off, none⟩) N sCap)) (w.setRow g (splice cur (off + sLen * k) cs).toArray)) : wpList Try.prog ops Q (o :: rest) a w :=
  wpList_plain hgd fun _ hK => by
    subst hN
    have hrun := run_append_room hT w o.type g off sLen sCap ad m c cur cs hg hn hroom hsrc hfit h1
    unfold Oper.wp
    simp [execOp, ho, resolve, invoke, builtin, hs, hx, hrun, Result.andThen]
    exact hK _ _ h
theorem run_clear {T e k : Nat} (hT : RowT T e k) (w : World) (ty : TypeId) (g o n c : Nat) (hn : 0 < n) (cur : List Value)
    (hg : w.heap[g]? = some (.cells cur.toArray e (0, 0))) (hfit : o + n * k ≤ cur.length) :
    ∃ cs : List Value, cs.length = n * k ∧ (Builtin.clear_ #[T] ty #[.slice (some ⟨g, o, none⟩) n c]).run Try.prog w = .ok (.tuple #[]) (w.setRow g (splice cur o cs).toArray) := by
  obtain ⟨i0, z, hi, hz, hks, hb, hzk, hz1⟩ := hT.info
  have hpos := hT.pos
  have hzl : (Builtin.zeroCells z.cells n).toList.length = n * k := by rw [zero_len, hzk]
  refine ⟨(Builtin.zeroCells z.cells n).toList, hzl, ?_⟩
  have hst := run_storeCells_at Try.prog g o e (Builtin.zeroCells z.cells n).toList 0 cur.toArray w hg (by rw [hzl, Nat.add_zero, List.size_toArray]; exact hfit) (zero_one hz1 (by omega) n)
  simp only [Nat.add_zero] at hst
  obtain ⟨m, rfl⟩ : ∃ m, n = m + 1 := ⟨n - 1, by omega⟩
  generalize hZ : (Builtin.zeroCells z.cells (m + 1)) = Z at *
  simp [Builtin.clear_, run_underlying hT.und, zeroValue, typeInfo, hi, hz]
  rw [hZ, hst]
  simp [splice]
theorem wpList_clear {T e k : Nat} (hT : RowT T e k) {w : World} {ops : Array Oper} {rest : List Oper} {o : Oper} {a : Act} {Q : Exit → Act → World → Prop} (hgd : o.guard = none) (x : Operand)
    (ho : o.op = .call { callee := .builtin .clear, args := #[x], argTypes := #[T] })
    (g off n c : Nat) (hx : a.eval x = .slice (some ⟨g, off, none⟩) n c) (hn : 0 < n) (cur : List Value) (hg : w.heap[g]? = some (.cells cur.toArray e (0, 0))) (hfit : off + n * k ≤ cur.length)
    (h : ∀ cs : List Value, cs.length = n * k → wpList Try.prog ops Q rest (a.put o.dst (.tuple #[])) (w.setRow g (splice cur off cs).toArray)) : wpList Try.prog ops Q (o :: rest) a w :=
  wpList_plain hgd fun _ hK => by
    obtain ⟨cs, hcl, hrun⟩ := run_clear hT w o.type g off n c hn cur hg hfit
    unfold Oper.wp
    simp [execOp, ho, resolve, invoke, builtin, hx, hrun, Result.andThen]
    exact hK _ _ (h cs hcl)
theorem run_overlaps {T e k : Nat} (hT : RowT T e k) (w : World) (r : Array TypeId) (a oa la ca b ob lb cb : Nat) (X Y : Array Value) (t t' : TypeId) (ha : w.heap[a]? = some (.cells X t (0, 0))) (hb : w.heap[b]? = some (.cells Y t' (0, 0))) (hne : a ≠ b) (hla : 0 < la) (hlb : 0 < lb) :
    (Extern.SlicesOverlaps.overlaps #[T, T] r #[.slice (some ⟨a, oa, none⟩) la ca, .slice (some ⟨b, ob, none⟩) lb cb]).run Try.prog w = .ok (.bool false) w := by
  obtain ⟨i0, z, hi, hz, hks, _, hzk, hz1⟩ := hT.info
  have hpos := hT.pos
  have h1 : ¬ (la = 0 ∨ lb = 0 ∨ i0.size = 0) := by rw [hks]; omega
  have fa : ∀ o, w.frozen? ⟨a, o, none⟩ = false := fun o => by simp [World.frozen?, ha]
  have fb : ∀ o, w.frozen? ⟨b, o, none⟩ = false := fun o => by simp [World.frozen?, hb]
  have sa : w.shape? a = some (t, X.size) := by simp [World.shape?, ha]
  have sb : w.shape? b = some (t', Y.size) := by simp [World.shape?, hb]
  have va : Sem.run Try.prog (viewAt a) w = .ok none w := by simp [viewAt, sa]
  have vb : Sem.run Try.prog (viewAt b) w = .ok none w := by simp [viewAt, sb]
  change Sem.run Try.prog (show Sem Value from do
    let .slice elem ← underlying T | stuck "slices.overlaps: slice type expected"
    let size ← sizeOf elem
    if la = 0 ∨ lb = 0 ∨ size = 0 then pure (Value.bool false)
    else if (⟨a, oa, none⟩ : Addr).block != (⟨b, ob, none⟩ : Addr).block && (← frozen ⟨a, oa, none⟩) && (← frozen ⟨b, ob, none⟩) then unsupported .addressObserved
    else do
      if (⟨a, oa, none⟩ : Addr).block != (⟨b, ob, none⟩ : Addr).block then do
        noView ⟨a, oa, none⟩; noView ⟨b, ob, none⟩
        if ← mayBeOne ⟨a, oa, none⟩ ⟨b, ob, none⟩ then return Value.bool ((← choose (.extern "sameAddr.stringBytes" 2)) == 1)
      pure (Value.bool ((⟨a, oa, none⟩ : Addr).block == (⟨b, ob, none⟩ : Addr).block && (⟨a, oa, none⟩ : Addr).off < (⟨b, ob, none⟩ : Addr).off + lb * size && (⟨b, ob, none⟩ : Addr).off < (⟨a, oa, none⟩ : Addr).off + la * size))) w = _
  simp [run_underlying hT.und, sizeOf, typeInfo, hi, h1, hne, fa, fb, mayBeOne, stringish, noView, va, vb, sa, sb]
end Go.Proofs.Ytkebgcalphajhaa
