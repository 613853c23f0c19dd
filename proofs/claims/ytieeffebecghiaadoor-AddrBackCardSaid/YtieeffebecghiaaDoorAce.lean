/- Contracts of number of package addr and of its closure. Conditions: fewer than 2^62 bytes. -/
import Derived.Test.YtieeffebecghiaaDoorApm
import Derived.BigQuiet
namespace Go.Proofs.YtieeffebecghiaaDoor
set_option maxRecDepth 100000
set_option maxHeartbeats 1000000
open Go.RowKit Go.Lib Go.Great

/-- What number keeps: its text, the number so far, and whether all is well so far. -/
structure NumS (w W : World) (l : List UInt8) (b : Bool) (n : Nat) : Prop where
  str : W.heap[w.heap.size]? = some (.cells #[.string (bsA l)] 9 (0, 0))
  num : W.heap[w.heap.size + 1]? = some (.cells #[.int .u64 (n : Int)] 48 (0, 0))
  okc : W.heap[w.heap.size + 1 + 1]? = some (.cells #[.bool b] 4 (0, 0))
  bel : Below w.heap.size w W
theorem NumS.setOk {w W : World} {l : List UInt8} {b : Bool} {n : Nat} (h : NumS w W l b n) (b' : Bool) : NumS w (W.setCell ⟨w.heap.size + 1 + 1, 0, none⟩ (.bool b')) l b' n :=
  ⟨by rw [Below.heap_setCell _ _ _ _ (by simp; omega)]; exact h.str, by rw [Below.heap_setCell _ _ _ _ (by simp)]; exact h.num, heap_setCell_same W _ 0 _ 4 (.bool b') h.okc, h.bel.setCell (p := ⟨w.heap.size + 1 + 1, 0, none⟩) (by simp; omega) _⟩
theorem NumS.setN {w W : World} {l : List UInt8} {b : Bool} {n : Nat} (h : NumS w W l b n) (n' : Nat) : NumS w (W.setCell ⟨w.heap.size + 1, 0, none⟩ (.int .u64 (n' : Int))) l b n' :=
  ⟨by rw [Below.heap_setCell _ _ _ _ (by simp)]; exact h.str, heap_setCell_same W _ 0 _ 48 (.int .u64 (n' : Int)) h.num, by rw [Below.heap_setCell _ _ _ _ (by simp)]; exact h.okc, h.bel.setCell (p := ⟨w.heap.size + 1, 0, none⟩) (by simp) _⟩

theorem digit_any {w W : World} {l : List UInt8} {b : Bool} {n : Nat} (h : NumS w W l b n) (hl : l.length ≤ 5) (hn : n < 1000000000) (k i : Nat) (hi : i < l.length) (hk : k + i = l.length) :
    Calls Tryd.prog 36 #[.int .i64 (k : Int), .pointer (some ⟨w.heap.size, 0, none⟩), .pointer (some ⟨w.heap.size + 1 + 1, 0, none⟩), .pointer (some ⟨w.heap.size + 1, 0, none⟩)] W fun e w' => e = .returned (.tuple #[]) ∧ NumS w w' l (b && decide (dgt l[i] ≤ 9)) (10 * n + dgt l[i]) := by
  have c1 : W.cell? ⟨w.heap.size, 0, none⟩ = some (.string (bsA l)) := by rw [cell_of_row _ _ 0 _ 9 (0, 0) h.str]; rfl
  have c2 : W.cell? ⟨w.heap.size + 1 + 1, 0, none⟩ = some (.bool b) := by rw [cell_of_row _ _ 0 _ 4 (0, 0) h.okc]; rfl
  have f2 := frozen_of_row W (w.heap.size + 1 + 1) 0 _ 4 h.okc
  have hsz := bsA_size l
  have hget : (bsA l)[i]'(by rw [hsz]; exact hi) = l[i] := by simp [bsA, ByteArray.getElem_eq_getElem_data]
  obtain ⟨d, hd⟩ : ∃ d, d = dgt l[i] := ⟨_, rfl⟩
  have hc8 := (l[i]).toNat_lt
  have hdw : IntKind.u8.wrap (((l[i]).toNat : Int) - 48) = (d : Int) := by
    rw [hd]
    unfold dgt
    rw [IntKind.wrap_u8]
    omega
  have hd255 : d < 256 := by rw [hd]; unfold dgt; omega
  rw [← hd]
  have R1 := h.setOk (b && decide (d ≤ 9))
  have c3 : (W.setCell ⟨w.heap.size + 1 + 1, 0, none⟩ (.bool (b && decide (d ≤ 9)))).cell? ⟨w.heap.size + 1, 0, none⟩ = some (.int .u64 (n : Int)) := by rw [cell_of_row _ _ 0 _ 48 (0, 0) R1.num]; rfl
  have f3 := frozen_of_row _ (w.heap.size + 1) 0 _ 48 R1.num
  have HR := Lib.hid (R1.setN (10 * n + d))
  have hsub : (l.length : Int) - (k : Int) = (i : Int) := by omega
  have hil : (i : Int) < ((bsA l).size : Int) := by omega
  generalize bsA l = B at *
  generalize l[i] = ch at *
  generalize l.length = L at *
  clear R1 h hd
  have hm1 : IntKind.u64.wrap (10 * (n : Int)) = 10 * (n : Int) := by rw [IntKind.wrap_u64]; omega
  have hm2 : IntKind.u64.wrap (10 * (n : Int) + (d : Int)) = 10 * (n : Int) + (d : Int) := by rw [IntKind.wrap_u64]; omega
  have hm3 : IntKind.u64.wrap (d : Int) = (d : Int) := by rw [IntKind.wrap_u64]; omega
  have hcast : ((10 * n + d : Nat) : Int) = 10 * (n : Int) + (d : Int) := by omega
  rw [hcast] at HR
  cases b
  · simp only [Bool.false_and] at c3 f3 HR ⊢
    go_enter Tryd.func36, Tryd.ntmps36
    go_wp2
    go_end0
    exact ⟨rfl, HR.out⟩
  · simp only [Bool.true_and] at c3 f3 HR ⊢
    by_cases h9 : d ≤ 9
    · have h9' : (d : Int) ≤ 9 := by omega
      simp only [h9, decide_true] at c3 f3 HR ⊢
      go_enter Tryd.func36, Tryd.ntmps36
      go_wp2
      go_end0
      exact ⟨rfl, HR.out⟩
    · have h9' : ¬ (d : Int) ≤ 9 := by omega
      simp only [h9, decide_false] at c3 f3 HR ⊢
      go_enter Tryd.func36, Tryd.ntmps36
      go_wp2
      go_end0
      exact ⟨rfl, HR.out⟩
end Go.Proofs.YtieeffebecghiaaDoor
