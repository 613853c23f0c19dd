/- Behind all up to a tick: sort.Search and behind of the package timers, keys are texts. Conditions: a table in the order of its ticks, ticks of 64 bits. -/
import Derived.Test.YtkebgcalphajhaaUac
namespace Go.Proofs.Ytkebgcalphajhaa.Str
open Go.RowKit Go.Lib Go.Proofs.Ytkebgcalphajhaa
set_option maxRecDepth 100000
set_option maxHeartbeats 400000
/-- What the closure carries: a table and a tick. -/
structure BhW (w : World) (b1 b2 g most : Nat) (v : Value) (L : List (ByteArray × Nat)) (a : Nat) : Prop where
  h1 : w.heap[b1]? = some (.cells #[.pointer (some ⟨g, 0, none⟩)] 70 (0, 0))
  h2 : w.heap[b2]? = some (.cells #[.int .u64 (a : Int)] 27 (0, 0))
  tab : Tab w g most v L
theorem BhW.bel {w w' : World} {b1 b2 g most : Nat} {v : Value} {L : List (ByteArray × Nat)} {a : Nat} (h : BhW w b1 b2 g most v L a) (hb : Below w.heap.size w w') : BhW w' b1 b2 g most v L a :=
  ⟨(hb.block b1 (Array.getElem?_eq_some_iff.1 h.h1).1).trans h.h1, (hb.block b2 (Array.getElem?_eq_some_iff.1 h.h2).1).trans h.h2, Obj.bel h.tab hb⟩
theorem bcl_any (b1 b2 g most : Nat) (v : Value) (L : List (ByteArray × Nat)) (a : Nat) (w : World) (h : BhW w b1 b2 g most v L a) (i : Nat) (hi : i < L.length) :
    Calls Try.prog 73 #[.int .i64 (i : Int), .pointer (some ⟨b1, 0, none⟩), .pointer (some ⟨b2, 0, none⟩)] w fun e w' => e = .returned (.bool (decide (a < L[i]!.2))) ∧ Below w.heap.size w w' := by
  have q1 : w.cell? ⟨b1, 0, none⟩ = some (.pointer (some ⟨g, 0, none⟩)) := by unfold World.cell?; rw [h.h1]; rfl
  have q2 : w.cell? ⟨b2, 0, none⟩ = some (.int .u64 (a : Int)) := by unfold World.cell?; rw [h.h2]; rfl
  obtain ⟨b, off, c, rfl, hn⟩ := (Obj.row h.tab).filled (by omega)
  have q3 := Obj.c1 h.tab
  have q4 := (Obj.row h.tab).cell _ _ (flatT_at L i hi).2
  rw [← Nat.add_assoc] at q4
  clear h
  generalize L[i]!.2 = y at *
  generalize L.length = n at *
  have hlt' : (i : Int) < (n : Int) := by omega
  have hy : decide (a < y) = decide ((a : Int) < (y : Int)) := by
    by_cases h : a < y
    · rw [decide_eq_true h, decide_eq_true (by omega)]
    · rw [decide_eq_false h, decide_eq_false (by omega)]
  rw [hy]
  go_enter Try.func73, Try.ntmps73
  go_wp2
  go_region
  go_wp2
  go_ret
  exact ⟨rfl, ⟨rfl, rfl, rfl, Nat.le_refl _, fun _ _ => rfl⟩⟩
def SeRel (W0 : World) (n p : Nat) (ni nj : Value) (wr : World) : Prop := ∃ i j : Nat, ni = .int .i64 (i : Int) ∧ nj = .int .i64 (j : Int) ∧ i ≤ p ∧ p ≤ j ∧ j ≤ n ∧ Below W0.heap.size W0 wr
theorem search_any (b1 b2 g most : Nat) (v : Value) (L : List (ByteArray × Nat)) (a : Nat) (w : World) (h : BhW w b1 b2 g most v L a) (hs : SrtT L) (hmax : L.length ≤ 1000000) :
    Calls Try.prog 64 #[.int .i64 (L.length : Int), .func (.func 73) #[] #[.pointer (some ⟨b1, 0, none⟩), .pointer (some ⟨b2, 0, none⟩)]] w fun e w' => e = .returned (.int .i64 (behT L a : Int)) ∧ Below w.heap.size w w' := by
  have hp := beh_le L a
  have HP : Hid (∀ i, i < L.length → (a < L[i]!.2 ↔ behT L a ≤ i)) := Lib.hid (fun i hi => by rw [getElem!_pos L i hi]; exact beh_iff hs a i hi)
  have HC : Hid (∀ W, Below w.heap.size w W → ∀ i, i < L.length → Calls Try.prog 73 #[.int .i64 (i : Int), .pointer (some ⟨b1, 0, none⟩), .pointer (some ⟨b2, 0, none⟩)] W fun e w' => e = .returned (.bool (decide (behT L a ≤ i))) ∧ Below w.heap.size w w') := Lib.hid (fun W hW i hi => (bcl_any b1 b2 g most v L a W (h.bel hW) i hi).mono (by
    rintro e w' ⟨rfl, hb⟩
    refine ⟨?_, hW.trans (hb.mono hW.size)⟩
    have := HP.out i hi
    by_cases hc : a < L[i]!.2
    · rw [decide_eq_true hc, decide_eq_true (this.1 hc)]
    · rw [decide_eq_false hc, decide_eq_false (fun x => hc (this.2 x))]))
  clear HP hs h
  generalize behT L a = p at *
  generalize L.length = n at *
  have R0 : Hid (SeRel w n p (.int .i64 0) (.int .i64 (n : Int)) w) := Lib.hid ⟨0, n, rfl, rfl, Nat.zero_le _, hp, Nat.le_refl _, Below.refl _ _⟩
  go_enter Try.func64, Try.ntmps64
  go_wp2
  go_loopw [5, 6] (SeRel w n p) (fun i j _ => (RowKit.intOf j - RowKit.intOf i).toNat)
  case atStart => exact R0.out
  case round =>
    obtain ⟨i, j, rfl, rfl, hip, hpj, hjn, hb⟩ := hrel
    clear R0
    by_cases hlt : i < j
    · have hlt' : (i : Int) < (j : Int) := by omega
      obtain ⟨m, hm⟩ : ∃ m : Nat, m = (i + j) / 2 := ⟨_, rfl⟩
      have hm1 : i ≤ m := by omega
      have hm2 : m < j := by omega
      have HCC := Lib.hid (HC.out wr hb m (by omega))
      have he : ((i : Int) + (j : Int)) / 2 = (m : Int) := by omega
      by_cases hc : p ≤ m
      · rw [decide_eq_true hc] at HCC
        clear hb hm
        go_wp2_with (first | (go_at_call 73; (with_reducible refine HCC.out.mono ?_); rintro e w2 ⟨rfl, hb2⟩))
        go_roundw
        case rel => exact ⟨i, m, rfl, rfl, hip, hc, by omega, hb2⟩
        case measure => simp [RowKit.intOf]; omega
      · rw [decide_eq_false hc] at HCC
        clear hb hm
        go_wp2_with (first | (go_at_call 73; (with_reducible refine HCC.out.mono ?_); rintro e w2 ⟨rfl, hb2⟩))
        go_roundw
        case rel => exact ⟨m + 1, j, by go_num, rfl, by omega, hpj, hjn, hb2⟩
        case measure => simp [RowKit.intOf]; omega
    · obtain rfl : i = j := by omega
      obtain rfl : i = p := by omega
      have HB := Lib.hid hb
      go_wp2
      go_ret
      exact ⟨rfl, HB.out⟩
theorem behind_any (g most : Nat) (v : Value) (L : List (ByteArray × Nat)) (a : Nat) (w : World) (h : Tab w g most v L) (hs : SrtT L) (hmax : L.length ≤ 1000000) :
    Calls Try.prog 57 #[.pointer (some ⟨g, 0, none⟩), .int .u64 (a : Int)] w fun e w' => e = .returned (.int .i64 (behT L a : Int)) ∧ Below w.heap.size w w' := by
  have hb1 : Below w.heap.size w (w.alloc (.cells #[.pointer (some ⟨g, 0, none⟩)] 70)) := (Below.refl _ w).alloc (Nat.le_refl _) _
  have hb2 : Below w.heap.size w ((w.alloc (.cells #[.pointer (some ⟨g, 0, none⟩)] 70)).alloc (.cells #[.int .u64 (a : Int)] 27)) := hb1.alloc hb1.size _
  have n1 := heap_alloc_new w (.cells #[.pointer (some ⟨g, 0, none⟩)] 70)
  have n2 := heap_alloc_new (w.alloc (.cells #[.pointer (some ⟨g, 0, none⟩)] 70)) (.cells #[.int .u64 (a : Int)] 27)
  have hsz : (w.alloc (.cells #[.pointer (some ⟨g, 0, none⟩)] 70)).heap.size = w.heap.size + 1 := by show (w.heap.push _).size = _; rw [Array.size_push]
  rw [hsz] at n2
  have n1' : ((w.alloc (.cells #[.pointer (some ⟨g, 0, none⟩)] 70)).alloc (.cells #[.int .u64 (a : Int)] 27)).heap[w.heap.size]? = some (.cells #[.pointer (some ⟨g, 0, none⟩)] 70 (0, 0)) := (heap_alloc_old _ _ (by rw [hsz]; omega)).trans n1
  have ht := Obj.bel h hb2
  have q := Obj.c1 ht
  have q2 : ((w.alloc (.cells #[.pointer (some ⟨g, 0, none⟩)] 70)).alloc (.cells #[.int .u64 (a : Int)] 27)).cell? ⟨w.heap.size, 0, none⟩ = some (.pointer (some ⟨g, 0, none⟩)) := by unfold World.cell?; rw [n1']; rfl
  have HS := Lib.hid ((search_any w.heap.size (w.heap.size + 1) g most v L a _ ⟨n1', n2, ht⟩ hs hmax).mono (R' := fun e w' => e = .returned (.int .i64 (behT L a : Int)) ∧ Below w.heap.size w w') (by
    rintro e w' ⟨rfl, hb⟩
    exact ⟨rfl, hb2.trans (hb.mono hb2.size)⟩))
  obtain ⟨A, c, rfl, hn⟩ := (Obj.row h).form
  clear h hb1 hb2 n1 n2 hsz n1' ht hs
  generalize behT L a = p at *
  generalize L.length = n at *
  go_enter Try.func57, Try.ntmps57
  go_wp2_with (first | (go_at_call 64; (with_reducible refine HS.out.mono ?_); rintro e w2 ⟨rfl, hb2⟩))
  go_ret
  exact ⟨rfl, hb2⟩
end Go.Proofs.Ytkebgcalphajhaa.Str
