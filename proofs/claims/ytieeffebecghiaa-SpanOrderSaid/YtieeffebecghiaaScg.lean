/- Contract of lives of the statements on span. No condition. -/
import Derived.Test.YtieeffebecghiaaScf
namespace Go.Proofs.Ytieeffebecghiaa
set_option maxRecDepth 100000
set_option maxHeartbeats 4000000
open Go.RowKit Go.Lib Go.Great

theorem slives_any (w : World) : Calls Try.prog 6 #[] w fun e w' => e = .returned (.bool true) ∧ Below w.heap.size w w' := by
  have hz1 := fun W => zero26 W
  have hmem : id128.length = 20 ∧ id1.length = 20 := ⟨rfl, rfl⟩
  have C1 : Hid (∀ W, Calls Try.prog 9 #[.agg (bcells (List.replicate 20 0)).toArray, .int .i64 0] W fun e w' => e = .returned (.tuple #[.agg (bcells id128).toArray, .bool true]) ∧ Below W.heap.size W w') := Lib.hid (fun W => (low_any _ ((0 : Nat) : Int) (by simp) W).mono (by rintro e w' ⟨h, h'⟩; exact ⟨h.laid (by omega) laid_128, h'⟩))
  have C2 : Hid (∀ W, Calls Try.prog 11 #[.agg (bcells (List.replicate 20 0)).toArray, .int .i64 159] W fun e w' => e = .returned (.tuple #[.agg (bcells id1).toArray, .bool true]) ∧ Below W.heap.size W w') := Lib.hid (fun W => (high_any _ ((159 : Nat) : Int) (by simp) W).mono (by rintro e w' ⟨h, h'⟩; exact ⟨h.laid (by omega) (laid_1 _), h'⟩))
  have C3 : Hid (∀ W, Calls Try.prog 9 #[.agg (bcells (List.replicate 20 0)).toArray, .int .i64 159] W fun e w' => e = .returned (.tuple #[.agg (bcells id1).toArray, .bool true]) ∧ Below W.heap.size W w') := Lib.hid (fun W => (low_any _ ((159 : Nat) : Int) (by simp) W).mono (by rintro e w' ⟨h, h'⟩; exact ⟨h.laid (by omega) (laid_1 _), h'⟩))
  have B0 := Lib.hid built26s
  have B1 := Lib.hid built128
  have B2 := Lib.hid built1
  have e1 : ∀ W, (Op.equalIn 10000 23 (.agg (bcells id128).toArray) (.agg (bcells id128).toArray)).run Try.prog W = .ok true W := fun W => by
    have := eq61 id128 id128 rfl rfl W
    rwa [beq_self_eq_true] at this
  have e2 : ∀ W, (Op.equalIn 10000 23 (.agg (bcells id1).toArray) (.agg (bcells id1).toArray)).run Try.prog W = .ok true W := fun W => by
    have := eq61 id1 id1 rfl rfl W
    rwa [beq_self_eq_true] at this
  have HI1 := Lib.hid (bc_info26 hmem.1)
  have HI2 := Lib.hid (bc_info26 hmem.2)
  have HA1 := Lib.hid (bc_all id128)
  have HA2 := Lib.hid (bc_all id1)
  have HS1 : Hid ((bcells (List.replicate 20 0)).toArray.size = (bcells id128).toArray.size) := Lib.hid (by rw [bc_size (by simp), bc_size hmem.1])
  have HS2 : Hid ((bcells (List.replicate 20 0)).toArray.size = (bcells id1).toArray.size) := Lib.hid (by rw [bc_size (by simp), bc_size hmem.2])
  have hN1 : ∀ W : World, ∀ L, RowsAt W L → ∀ Z, RowsAt ((W.alloc (.cells Z 23)).setRow W.heap.size (bcells id128).toArray) ((W.heap.size, 23, id128) :: L) := fun W L h Z => h.new hmem.1 Z 23
  have hN2 : ∀ W : World, ∀ L, RowsAt W L → ∀ Z, RowsAt ((W.alloc (.cells Z 23)).setRow W.heap.size (bcells id1).toArray) ((W.heap.size, 23, id1) :: L) := fun W L h Z => h.new hmem.2 Z 23
  have N1 := Lib.hid hN1
  have N2 := Lib.hid hN2
  have LD : Hid (∀ (W : World) L g x, RowsAt W L → (g, 23, x) ∈ L → (loadVar 23 ⟨g, 0, none⟩).run Try.prog W = .ok (.agg (bcells x).toArray) W) := Lib.hid (fun W L g x h hm => h.load23 hm)
  generalize hi1 : id128 = I1 at *
  generalize hi2 : id1 = I2 at *
  have L1 : Hid (∀ (W : World) L g, RowsAt W L → (g, 23, I1) ∈ L → (loadVar 23 ⟨g, 0, none⟩).run Try.prog W = .ok (.agg (bcells I1).toArray) W) := Lib.hid (fun W L g h hm => LD.out W L g I1 h hm)
  have L2 : Hid (∀ (W : World) L g, RowsAt W L → (g, 23, I2) ∈ L → (loadVar 23 ⟨g, 0, none⟩).run Try.prog W = .ok (.agg (bcells I2).toArray) W) := Lib.hid (fun W L g h hm => LD.out W L g I2 h hm)
  clear LD hN1 hN2 hmem
  generalize (bcells (List.replicate 20 0)).toArray = Z at hz1 C1 C2 C3 B0 HS1 HS2
  generalize (bcells I1).toArray = X1 at C1 B1 e1 HI1 HA1 HS1 N1 L1
  generalize (bcells I2).toArray = X2 at C2 C3 B2 e2 HI2 HA2 HS2 N2 L2
  have R : RowsAt w [] := RowsAt.nil
  have HB : Below w.heap.size w w := Below.refl _ _
  clear hi1 hi2
  go_enter Try.func6, Try.ntmps6
  go_upto_region 2 with (first
    | ((with_reducible refine wpList_buildV (o := ⟨some 8, _, _, _, _, _⟩) rfl 23 _ rfl _ ?_ _ (B0.out _) ?_); (simp only [List.map_toArray, List.map_nil]))
    | (go_at_call 9; (with_reducible refine (C1.out _).mono ?_); rintro e w1 ⟨rfl, hb1⟩; replace R := R.below hb1; replace HB := HB.trans (hb1.mono HB.size); clear hb1)
    | ((with_reducible refine wpList_store_row rfl 23 (.tmp 1) (.tmp 10) rfl w1.heap.size X1 ?_ ?_ 23 Z (heap_alloc_new w1 _) HI1.out HS1.out HA1.out ?_); rfl; rfl))
  replace R := N1.out _ _ R Z
  replace HB := HB.trans ((below_new (W := w1) Z X1 23).mono HB.size)
  generalize (w1.alloc (.cells Z 23)).setRow w1.heap.size X1 = W1 at R HB ⊢
  generalize w1.heap.size = g1 at R HB ⊢
  go_upto_region 3 with (first
    | ((with_reducible refine wpList_buildV (o := ⟨some 13, _, _, _, _, _⟩) rfl 23 _ rfl _ ?_ _ (B0.out _) ?_); (simp only [List.map_toArray, List.map_nil]))
    | (go_at_call 11; (with_reducible refine (C2.out _).mono ?_); rintro e w2 ⟨rfl, hb1⟩; replace R := R.below hb1; replace HB := HB.trans (hb1.mono HB.size); clear hb1)
    | ((with_reducible refine wpList_store_row rfl 23 (.tmp 3) (.tmp 15) rfl w2.heap.size X2 ?_ ?_ 23 Z (heap_alloc_new w2 _) HI2.out HS2.out HA2.out ?_); rfl; rfl))
  replace R := N2.out _ _ R Z
  replace HB := HB.trans ((below_new (W := w2) Z X2 23).mono HB.size)
  generalize (w2.alloc (.cells Z 23)).setRow w2.heap.size X2 = W2 at R HB ⊢
  generalize w2.heap.size = g2 at R HB ⊢
  go_upto_region 4 with (first
    | ((with_reducible refine wpList_buildV (o := ⟨some 18, _, _, _, _, _⟩) rfl 23 _ rfl _ ?_ _ (B0.out _) ?_); (simp only [List.map_toArray, List.map_nil]))
    | (go_at_call 9; (with_reducible refine (C3.out _).mono ?_); rintro e w3 ⟨rfl, hb1⟩; replace R := R.below hb1; replace HB := HB.trans (hb1.mono HB.size); clear hb1)
    | ((with_reducible refine wpList_store_row rfl 23 (.tmp 5) (.tmp 20) rfl w3.heap.size X2 ?_ ?_ 23 Z (heap_alloc_new w3 _) HI2.out HS2.out HA2.out ?_); rfl; rfl))
  replace R := N2.out _ _ R Z
  replace HB := HB.trans ((below_new (W := w3) Z X2 23).mono HB.size)
  generalize (w3.alloc (.cells Z 23)).setRow w3.heap.size X2 = W3 at R HB ⊢
  generalize w3.heap.size = g3 at R HB ⊢
  have K1 := Lib.hid (L1.out W3 _ g1 R (.tail _ (.tail _ (.head _))))
  have K2 := Lib.hid (L2.out W3 _ g2 R (.tail _ (.head _)))
  have K3 := Lib.hid (L2.out W3 _ g3 R (.head _))
  have HBB := Lib.hid HB
  clear R HB
  go_wp2_with (first
    | ((with_reducible refine wpList_loadV (op := ⟨some 22, _, _, _, _, _⟩) rfl 23 (.tmp 1) rfl _ ?_ _ K1.out ?_); rfl)
    | ((with_reducible refine wpList_buildV (o := ⟨some 23, _, _, _, _, _⟩) rfl 23 _ rfl _ ?_ _ (B1.out _) ?_); (simp only [List.map_toArray, List.map_cons, List.map_nil]; rfl))
    | ((with_reducible refine wpList_loadG (op := ⟨some 35, _, _, _, _, _⟩) rfl 23 (.tmp 3) rfl _ ?_ _ K2.out ?_); rfl)
    | ((with_reducible refine wpList_loadG (op := ⟨some 36, _, _, _, _, _⟩) rfl 23 (.tmp 5) rfl _ ?_ _ K3.out ?_); rfl)
    | ((with_reducible refine wpList_loadG (op := ⟨some 40, _, _, _, _, _⟩) rfl 23 (.tmp 3) rfl _ ?_ _ K2.out ?_); rfl)
    | ((with_reducible refine wpList_buildG (o := ⟨some 41, _, _, _, _, _⟩) rfl 23 _ rfl _ ?_ _ (B2.out _) ?_); (simp only [List.map_toArray, List.map_cons, List.map_nil]; rfl)))
  go_ret
  exact ⟨rfl, HBB.out⟩
end Go.Proofs.Ytieeffebecghiaa
