/- Contracts of Index and Has of package span. Conditions: an id has 20 bytes. -/
import Derived.Test.YtieeffebecghiaaPSrf
namespace Go.Proofs.Ytieeffebecghiaa
set_option maxRecDepth 100000
set_option maxHeartbeats 1000000
open Go.RowKit Go.Lib Go.Great

theorem pfx_self {o x : List UInt8} (ho : o.length = 20) (hx : x.length = 20) : pfxN o x = 160 ↔ o = x := by
  obtain ⟨h1, h2, h3, h4⟩ := pfxN_spec o x (ho.trans hx.symm)
  constructor
  · intro h
    apply Decidable.byContradiction
    intro hne
    obtain ⟨h5, _⟩ := h3 hne
    omega
  · rintro rfl
    refine pfxN_unique rfl 160 (by omega) (fun _ _ => rfl) (fun h => by omega)
theorem index_any (o x : List UInt8) (ho : o.length = 20) (hx : x.length = 20) (w : World) :
    Calls Try.prog 7 #[.agg (bcells o).toArray, .agg (bcells x).toArray] w fun e w' => e = .returned (.tuple #[.int .i64 (idxN o x : Int), .bool (idxB o x)]) ∧ Below w.heap.size w w' := by
  have HP := Lib.hid (fun W => prefix_any o x ho hx W)
  have he : ∀ W, (Op.equalIn 10000 23 (.agg (bcells x).toArray) (.agg (bcells o).toArray)).run Try.prog W = .ok (x == o) W := fun W => eq61 x o hx ho W
  obtain ⟨h1, h2, hb⟩ := heap2 w (.cells (bcells o).toArray 23) (.cells (bcells x).toArray 23)
  have HK1 := Lib.hid (load26 ho h1)
  have HK2 := Lib.hid (load26 hx h2)
  have HB := Lib.hid hb
  have hs := pfx_self ho hx
  unfold idxN idxB
  by_cases hn : o = x
  · have hp := hs.2 hn
    rw [if_pos hp, show decide (pfxN o x ≠ 160) = false by simp [hp]]
    have hq : (x == o) = true := by simp [hn]
    rw [hq] at he
    generalize (bcells o).toArray = A at HP HK1 HK2 HB he ⊢
    generalize (bcells x).toArray = B at HP HK1 HK2 HB he ⊢
    clear h1 h2 hb ho hx hs hp hn hq HP
    go_enter Try.func7, Try.ntmps7
    go_wp2_with (first
      | ((with_reducible refine wpList_loadV (op := ⟨some 7, _, _, _, _, _⟩) rfl 23 (.tmp 2) rfl _ ?_ _ HK1.out ?_); rfl)
      | ((with_reducible refine wpList_loadV (op := ⟨some 6, _, _, _, _, _⟩) rfl 23 (.tmp 3) rfl _ ?_ _ HK2.out ?_); rfl))
    go_ret2
    exact ⟨rfl, HB.out⟩
  · have hp : ¬ pfxN o x = 160 := fun h => hn (hs.1 h)
    rw [if_neg hp, show decide (pfxN o x ≠ 160) = true by simp [hp]]
    have hq : (x == o) = false := by simpa using fun e => hn e.symm
    rw [hq] at he
    generalize (bcells o).toArray = A at HP HK1 HK2 HB he ⊢
    generalize (bcells x).toArray = B at HP HK1 HK2 HB he ⊢
    generalize pfxN o x = n at HP ⊢
    clear h1 h2 hb ho hx hs hp hn hq
    go_enter Try.func7, Try.ntmps7
    go_wp2_with (first
      | ((with_reducible refine wpList_loadV (op := ⟨some 7, _, _, _, _, _⟩) rfl 23 (.tmp 2) rfl _ ?_ _ HK1.out ?_); rfl)
      | ((with_reducible refine wpList_loadV (op := ⟨some 6, _, _, _, _, _⟩) rfl 23 (.tmp 3) rfl _ ?_ _ HK2.out ?_); rfl)
      | ((with_reducible refine wpList_loadV (op := ⟨some 9, _, _, _, _, _⟩) rfl 23 (.tmp 2) rfl _ ?_ _ HK1.out ?_); rfl)
      | ((with_reducible refine wpList_loadV (op := ⟨some 10, _, _, _, _, _⟩) rfl 23 (.tmp 3) rfl _ ?_ _ HK2.out ?_); rfl)
      | (go_at_call 22; (with_reducible refine (HP.out _).mono ?_); rintro e w1 ⟨rfl, hb1⟩))
    go_ret2
    exact ⟨rfl, HB.out.trans (hb1.mono HB.out.size)⟩
theorem has_any (o x : List UInt8) (i : Int) (ho : o.length = 20) (hx : x.length = 20) (w : World) :
    Calls Try.prog 15 #[.agg (bcells o).toArray, .int .i64 i, .agg (bcells x).toArray] w fun e w' => e = .returned (.bool (idxB o x && ((idxN o x : Int) == i))) ∧ Below w.heap.size w w' := by
  have HP := Lib.hid (fun W => index_any o x ho hx W)
  obtain ⟨h1, h2, hb⟩ := heap2 w (.cells (bcells o).toArray 23) (.cells (bcells x).toArray 23)
  have HK1 := Lib.hid (load26 ho h1)
  have HK2 := Lib.hid (load26 hx h2)
  have HB := Lib.hid hb
  generalize (bcells o).toArray = A at HP HK1 HK2 HB ⊢
  generalize (bcells x).toArray = B at HP HK1 HK2 HB ⊢
  generalize idxN o x = n at HP ⊢
  generalize idxB o x = b at HP ⊢
  clear h1 h2 hb ho hx
  cases b
  all_goals
    go_enter Try.func15, Try.ntmps15
    go_wp2_with (first
      | ((with_reducible refine wpList_loadV (op := ⟨some 10, _, _, _, _, _⟩) rfl 23 (.tmp 3) rfl _ ?_ _ HK1.out ?_); rfl)
      | ((with_reducible refine wpList_loadV (op := ⟨some 11, _, _, _, _, _⟩) rfl 23 (.tmp 5) rfl _ ?_ _ HK2.out ?_); rfl)
      | (go_at_call 7; (with_reducible refine (HP.out _).mono ?_); rintro e w1 ⟨rfl, hb1⟩))
    go_ret
    exact ⟨by simp, HB.out.trans (hb1.mono HB.out.size)⟩
end Go.Proofs.Ytieeffebecghiaa
