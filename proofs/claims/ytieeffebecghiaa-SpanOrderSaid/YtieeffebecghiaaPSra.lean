/- Contracts of the reference's Index and Has of layer span. Conditions: an id has 20 bytes. -/
import Derived.Test.YtieeffebecghiaaPDib
namespace Go.Proofs.Ytieeffebecghiaa
set_option maxRecDepth 100000
set_option maxHeartbeats 1000000
open Go.RowKit Go.Lib Go.Great

/-- The bucket that is for an id, if there is one. -/
def idxN (o x : List UInt8) : Nat := if pfxN o x = 160 then 0 else pfxN o x
def idxB (o x : List UInt8) : Bool := decide (pfxN o x ≠ 160)
theorem rindex_any (o x : List UInt8) (ho : o.length = 20) (hx : x.length = 20) (w : World) :
    Calls Try.prog 8 #[.agg (bcells o).toArray, .agg (bcells x).toArray] w fun e w' => e = .returned (.tuple #[.int .i64 (idxN o x : Int), .bool (idxB o x)]) ∧ Below w.heap.size w w' := by
  have HP := Lib.hid (fun W => rprefix_any o x ho hx W)
  obtain ⟨h1, h2, hb⟩ := heap2 w (.cells (bcells o).toArray 26) (.cells (bcells x).toArray 26)
  have HK1 := Lib.hid (load42 ho h1)
  have HK2 := Lib.hid (load42 hx h2)
  have HB := Lib.hid hb
  unfold idxN idxB
  generalize (bcells o).toArray = A at HP HK1 HK2 HB ⊢
  generalize (bcells x).toArray = B at HP HK1 HK2 HB ⊢
  generalize pfxN o x = n at HP ⊢
  clear h1 h2 hb ho hx
  by_cases hn : n = 160
  · subst hn
    go_enter Try.func8, Try.ntmps8
    go_wp2_with (first
      | ((with_reducible refine wpList_loadV (op := ⟨some 7, _, _, _, _, _⟩) rfl 26 (.tmp 2) rfl _ ?_ _ HK1.out ?_); rfl)
      | ((with_reducible refine wpList_loadV (op := ⟨some 8, _, _, _, _, _⟩) rfl 26 (.tmp 3) rfl _ ?_ _ HK2.out ?_); rfl)
      | (go_at_call 23; (with_reducible refine (HP.out _).mono ?_); rintro e w1 ⟨rfl, hb1⟩))
    go_ret2
    exact ⟨by simp, HB.out.trans (hb1.mono HB.out.size)⟩
  · have hn' : ¬ (n : Int) = 160 := by omega
    go_enter Try.func8, Try.ntmps8
    go_wp2_with (first
      | ((with_reducible refine wpList_loadV (op := ⟨some 7, _, _, _, _, _⟩) rfl 26 (.tmp 2) rfl _ ?_ _ HK1.out ?_); rfl)
      | ((with_reducible refine wpList_loadV (op := ⟨some 8, _, _, _, _, _⟩) rfl 26 (.tmp 3) rfl _ ?_ _ HK2.out ?_); rfl)
      | (go_at_call 23; (with_reducible refine (HP.out _).mono ?_); rintro e w1 ⟨rfl, hb1⟩))
    go_ret2
    exact ⟨by simp, HB.out.trans (hb1.mono HB.out.size)⟩
theorem rhas_any (o x : List UInt8) (i : Int) (ho : o.length = 20) (hx : x.length = 20) (w : World) :
    Calls Try.prog 16 #[.agg (bcells o).toArray, .int .i64 i, .agg (bcells x).toArray] w fun e w' => e = .returned (.bool (idxB o x && ((idxN o x : Int) == i))) ∧ Below w.heap.size w w' := by
  have HP := Lib.hid (fun W => rindex_any o x ho hx W)
  obtain ⟨h1, h2, hb⟩ := heap2 w (.cells (bcells o).toArray 26) (.cells (bcells x).toArray 26)
  have HK1 := Lib.hid (load42 ho h1)
  have HK2 := Lib.hid (load42 hx h2)
  have HB := Lib.hid hb
  generalize (bcells o).toArray = A at HP HK1 HK2 HB ⊢
  generalize (bcells x).toArray = B at HP HK1 HK2 HB ⊢
  generalize idxN o x = n at HP ⊢
  generalize idxB o x = b at HP ⊢
  clear h1 h2 hb ho hx
  cases b
  all_goals
    go_enter Try.func16, Try.ntmps16
    go_wp2_with (first
      | ((with_reducible refine wpList_loadV (op := ⟨some 10, _, _, _, _, _⟩) rfl 26 (.tmp 3) rfl _ ?_ _ HK1.out ?_); rfl)
      | ((with_reducible refine wpList_loadV (op := ⟨some 11, _, _, _, _, _⟩) rfl 26 (.tmp 5) rfl _ ?_ _ HK2.out ?_); rfl)
      | (go_at_call 8; (with_reducible refine (HP.out _).mono ?_); rintro e w1 ⟨rfl, hb1⟩))
    go_ret
    exact ⟨by simp, HB.out.trans (hb1.mono HB.out.size)⟩
end Go.Proofs.Ytieeffebecghiaa
