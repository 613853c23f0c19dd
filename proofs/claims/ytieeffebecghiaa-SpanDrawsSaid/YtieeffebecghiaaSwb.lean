/- The walk of the statement SpanDraws of this seat: it answers true for any ids, number and seed. No condition. -/
import Derived.Test.YtieeffebecghiaaSci
namespace Go.Proofs.Ytieeffebecghiaa
set_option maxRecDepth 100000
set_option maxHeartbeats 4000000
open Go.RowKit Go.Lib Go.Great

theorem sdraws_far (O X : Array Value) (i : Int) (A : Option Addr) (n c : Nat) (h : 100 < n) (w : World) : Calls Try.prog 4 #[.agg O, .agg X, .int .i64 i, .slice A n c] w fun e w' => e = .returned (.bool true) ∧ Below w.heap.size w w' := by
  have h1' : (100 : Int) < (n : Int) := by omega
  have hb0 : Hid (Below w.heap.size w ((w.alloc (.cells O 23)).alloc (.cells X 23))) := Lib.hid (heap2 w (.cells O 23) (.cells X 23)).2.2
  go_enter Try.func4, Try.ntmps4
  go_wp2_with (go_at_call 6; (with_reducible refine (slives_any _).mono ?_); rintro e w2 ⟨rfl, hb2⟩)
  go_ret
  exact ⟨rfl, hb0.out.trans (hb2.mono hb0.out.size)⟩

theorem sdraws_near (o x : List UInt8) (ho : o.length = 20) (hx : x.length = 20) (i : Int) (A : Option Addr) (c : Nat) (s : List UInt8) (w : World) (hL : s.length ≤ 100) (hA : BAt w w.heap.size A s) :
    Calls Try.prog 4 #[.agg (bcells o).toArray, .agg (bcells x).toArray, .int .i64 i, .slice A s.length c] w fun e w' => e = .returned (.bool true) ∧ Below w.heap.size w w' := by
  have hz1 := fun W => zero26 W
  obtain ⟨xl, bb, hl⟩ := ld_value o (List.replicate 20 0) i
  obtain ⟨xh, b2, hh⟩ := ld_value o (List.replicate 20 255) i
  obtain ⟨xd, b3, hd⟩ := ld_value o (seedL s) i
  obtain rfl : bb = b2 := hl.yes.trans hh.yes.symm
  obtain rfl : bb = b3 := hl.yes.trans hd.yes.symm
  obtain ⟨yl, ybl, hyl⟩ := ld_value o (List.replicate 20 0) (idxN o x : Int)
  obtain ⟨yh, ybh, hyh⟩ := ld_value o (List.replicate 20 255) (idxN o x : Int)
  have HQ : Hid ((0 ≤ i ∧ i < 160 ∧ bb = true) ∨ (i < 0 ∧ bb = false) ∨ (0 ≤ i ∧ 160 ≤ i ∧ bb = false)) := Lib.hid (by
    have := hl.yes
    by_cases h : 0 ≤ i ∧ i < 160
    · exact .inl ⟨h.1, h.2, by rw [this, decide_eq_true h]⟩
    · by_cases h1 : i < 0
      · exact .inr (.inl ⟨h1, by rw [this, decide_eq_false h]⟩)
      · exact .inr (.inr ⟨by omega, by omega, by rw [this, decide_eq_false h]⟩))
  have HLE : Hid (0 ≤ i ∧ i < 160 → cmpL xl xd ≤ 0 ∧ cmpL xd xh ≤ 0 ∧ (idxB o xd && ((idxN o xd : Int) == i)) = true) := Lib.hid (fun h => by
    obtain ⟨k, rfl⟩ : ∃ k : Nat, i = (k : Int) := ⟨i.toNat, by omega⟩
    have a1 := hl.laid k rfl (by omega)
    have a2 := hh.laid k rfl (by omega)
    have a3 := hd.laid k rfl (by omega)
    obtain ⟨i1, i2⟩ := idx_laid ho (by omega) a3
    exact ⟨cmp_zero_le a1 a3, cmp_le_full a3 a2, by rw [i1, i2]; simp⟩)
  have HNX : Hid ((idxB o x = false ∧ (o == x) = true) ∨ (idxB o x = true ∧ cmpL yl x ≤ 0 ∧ cmpL x yh ≤ 0)) := Lib.hid (by
    rcases idx_facts ho hx with ⟨h1, h2⟩ | ⟨h1, h2, h3, h4⟩
    · exact .inl ⟨h1, by simp [h2]⟩
    · have hs := laid_self ho hx h2
      rw [← h3] at hs h4
      exact .inr ⟨h1, cmp_zero_le (hyl.laid _ rfl h4) hs, cmp_le_full hs (hyh.laid _ rfl h4)⟩)
  have HDX : Hid (idxB o x = true → ∀ e, LdIs o (seedL x) (idxN o x : Int) e → e = .returned (.tuple #[.agg (bcells x).toArray, .bool true])) := Lib.hid (fun h e he => by
    rcases idx_facts ho hx with ⟨h1, h2⟩ | ⟨h1, h2, h3, h4⟩
    · rw [h] at h1; cases h1
    · have hs := laid_self ho hx h2
      rw [← h3] at hs h4
      rw [seedL_self hx] at he
      exact he.laid h4 hs)
  obtain ⟨h1, h2, hb0⟩ := heap2 w (.cells (bcells o).toArray 23) (.cells (bcells x).toArray 23)
  obtain ⟨W0, hW0⟩ : ∃ W0, W0 = (w.alloc (.cells (bcells o).toArray 23)).alloc (.cells (bcells x).toArray 23) := ⟨_, rfl⟩
  rw [← hW0] at h1 h2 hb0
  have hA0 : ∀ W, Below W0.heap.size W0 W → BAt W W.heap.size A s := fun W h => (((hA.below hb0).more hb0.size).below h).more h.size
  obtain ⟨m, hm⟩ : ∃ m, m = s.length := ⟨_, rfl⟩
  have C7 : Hid (∀ W, Calls Try.prog 7 #[.agg (bcells o).toArray, .agg (bcells x).toArray] W fun e w' => e = .returned (.tuple #[.int .i64 (idxN o x : Int), .bool (idxB o x)]) ∧ Below W.heap.size W w') := Lib.hid (fun W => index_any o x ho hx W)
  have C15 : Hid (∀ W, Calls Try.prog 15 #[.agg (bcells o).toArray, .int .i64 i, .agg (bcells xd).toArray] W fun e w' => e = .returned (.bool (idxB o xd && ((idxN o xd : Int) == i))) ∧ Below W.heap.size W w') := Lib.hid (fun W => has_any o xd i ho hd.len W)
  have C9 : Hid (∀ W, Calls Try.prog 9 #[.agg (bcells o).toArray, .int .i64 i] W fun e w' => e = .returned (.tuple #[.agg (bcells xl).toArray, .bool bb]) ∧ Below W.heap.size W w') := Lib.hid (fun W => (low_any o i ho W).mono (by rintro e w' ⟨h, h'⟩; exact ⟨hl.val e h, h'⟩))
  have C11 : Hid (∀ W, Calls Try.prog 11 #[.agg (bcells o).toArray, .int .i64 i] W fun e w' => e = .returned (.tuple #[.agg (bcells xh).toArray, .bool bb]) ∧ Below W.heap.size W w') := Lib.hid (fun W => (high_any o i ho W).mono (by rintro e w' ⟨h, h'⟩; exact ⟨hh.val e h, h'⟩))
  have D9 : Hid (∀ W, Calls Try.prog 9 #[.agg (bcells o).toArray, .int .i64 (idxN o x : Int)] W fun e w' => e = .returned (.tuple #[.agg (bcells yl).toArray, .bool ybl]) ∧ Below W.heap.size W w') := Lib.hid (fun W => (low_any o (idxN o x : Int) ho W).mono (by rintro e w' ⟨h, h'⟩; exact ⟨hyl.val e h, h'⟩))
  have D11 : Hid (∀ W, Calls Try.prog 11 #[.agg (bcells o).toArray, .int .i64 (idxN o x : Int)] W fun e w' => e = .returned (.tuple #[.agg (bcells yh).toArray, .bool ybh]) ∧ Below W.heap.size W w') := Lib.hid (fun W => (high_any o (idxN o x : Int) ho W).mono (by rintro e w' ⟨h, h'⟩; exact ⟨hyh.val e h, h'⟩))
  have C13 : Hid (∀ W, Below W0.heap.size W0 W → Calls Try.prog 13 #[.agg (bcells o).toArray, .int .i64 i, .slice A m c] W fun e w' => e = .returned (.tuple #[.agg (bcells xd).toArray, .bool bb]) ∧ Below W.heap.size W w') := Lib.hid (fun W h => by
    rw [hm]
    exact (draw_any o s i A c ho W (hA0 W h)).mono (by rintro e w' ⟨h, h'⟩; exact ⟨hd.val e h, h'⟩))
  have D13 : Hid (idxB o x = true → ∀ (W1 W : World) L, RowsAt W1 L → (w.heap.size + 1, 23, x) ∈ L → Below W1.heap.size W1 W → Calls Try.prog 13 #[.agg (bcells o).toArray, .int .i64 (idxN o x : Int), .slice (some ⟨w.heap.size + 1, 0, none⟩) 20 20] W fun e w' => ∃ v, e = .returned v ∧ Below W1.heap.size W1 w' ∧ Below W.heap.size W w' ∧ v = .tuple #[.agg (bcells x).toArray, .bool true]) := Lib.hid (fun h W1 W L hR hm hb => by
    have hr := ((hR.below hb) _ hm).2
    have := draw_any o x (idxN o x : Int) (some ⟨w.heap.size + 1, 0, none⟩) 20 ho W (bat_row hr)
    rw [hx] at this
    exact this.mono (by rintro e w' ⟨h', q⟩; exact ⟨_, HDX.out h e h', hb.trans (q.mono hb.size), q, rfl⟩))
  have P1 : Hid (∀ W, Calls Try.prog 20 #[.agg (bcells xl).toArray, .agg (bcells xd).toArray] W fun e w' => e = .returned (.int .i64 (cmpL xl xd)) ∧ Below W.heap.size W w') := Lib.hid (fun W => cmp_any xl xd hl.len hd.len W)
  have P2 : Hid (∀ W, Calls Try.prog 20 #[.agg (bcells xd).toArray, .agg (bcells xh).toArray] W fun e w' => e = .returned (.int .i64 (cmpL xd xh)) ∧ Below W.heap.size W w') := Lib.hid (fun W => cmp_any xd xh hd.len hh.len W)
  have P3 : Hid (∀ W, Calls Try.prog 20 #[.agg (bcells yl).toArray, .agg (bcells x).toArray] W fun e w' => e = .returned (.int .i64 (cmpL yl x)) ∧ Below W.heap.size W w') := Lib.hid (fun W => cmp_any yl x hyl.len hx W)
  have P4 : Hid (∀ W, Calls Try.prog 20 #[.agg (bcells x).toArray, .agg (bcells yh).toArray] W fun e w' => e = .returned (.int .i64 (cmpL x yh)) ∧ Below W.heap.size W w') := Lib.hid (fun W => cmp_any x yh hx hyh.len W)
  have C6 := Lib.hid slives_any
  have hE1 : ∀ W, (Op.equalIn 10000 23 (.agg (bcells o).toArray) (.agg (bcells x).toArray)).run Try.prog W = .ok (o == x) W := fun W => eq61 o x ho hx W
  have hE2 : ∀ W, (Op.equalIn 10000 23 (.agg (bcells x).toArray) (.agg (bcells x).toArray)).run Try.prog W = .ok true W := fun W => by
    have := eq61 x x hx hx W
    rwa [beq_self_eq_true] at this
  have ldo : Hid (∀ (W : World) L g, RowsAt W L → (g, 23, o) ∈ L → (loadVar 23 ⟨g, 0, none⟩).run Try.prog W = .ok (.agg (bcells o).toArray) W) := Lib.hid (fun W L g h hm => h.load23 hm)
  have ldx : Hid (∀ (W : World) L g, RowsAt W L → (g, 23, x) ∈ L → (loadVar 23 ⟨g, 0, none⟩).run Try.prog W = .ok (.agg (bcells x).toArray) W) := Lib.hid (fun W L g h hm => h.load23 hm)
  have ldxl : Hid (∀ (W : World) L g, RowsAt W L → (g, 23, xl) ∈ L → (loadVar 23 ⟨g, 0, none⟩).run Try.prog W = .ok (.agg (bcells xl).toArray) W) := Lib.hid (fun W L g h hm => h.load23 hm)
  have ldxh : Hid (∀ (W : World) L g, RowsAt W L → (g, 23, xh) ∈ L → (loadVar 23 ⟨g, 0, none⟩).run Try.prog W = .ok (.agg (bcells xh).toArray) W) := Lib.hid (fun W L g h hm => h.load23 hm)
  have ldxd : Hid (∀ (W : World) L g, RowsAt W L → (g, 23, xd) ∈ L → (loadVar 23 ⟨g, 0, none⟩).run Try.prog W = .ok (.agg (bcells xd).toArray) W) := Lib.hid (fun W L g h hm => h.load23 hm)
  have ldyl : Hid (∀ (W : World) L g, RowsAt W L → (g, 23, yl) ∈ L → (loadVar 23 ⟨g, 0, none⟩).run Try.prog W = .ok (.agg (bcells yl).toArray) W) := Lib.hid (fun W L g h hm => h.load23 hm)
  have ldyh : Hid (∀ (W : World) L g, RowsAt W L → (g, 23, yh) ∈ L → (loadVar 23 ⟨g, 0, none⟩).run Try.prog W = .ok (.agg (bcells yh).toArray) W) := Lib.hid (fun W L g h hm => h.load23 hm)
  have hIx := Lib.hid (bc_info26 hx)
  have hSx : Hid ((bcells (List.replicate 20 0)).toArray.size = (bcells x).toArray.size) := Lib.hid (by rw [bc_size (by simp), bc_size hx])
  have hTx := Lib.hid (bc_all x)
  have Nx : Hid (∀ (W : World) L, RowsAt W L → ∀ Z t, RowsAt ((W.alloc (.cells Z t)).setRow W.heap.size (bcells x).toArray) ((W.heap.size, t, x) :: L)) := Lib.hid (fun W L h Z t => h.new hx Z t)
  have hIxl := Lib.hid (bc_info26 hl.len)
  have hSxl : Hid ((bcells (List.replicate 20 0)).toArray.size = (bcells xl).toArray.size) := Lib.hid (by rw [bc_size (by simp), bc_size hl.len])
  have hTxl := Lib.hid (bc_all xl)
  have Nxl : Hid (∀ (W : World) L, RowsAt W L → ∀ Z t, RowsAt ((W.alloc (.cells Z t)).setRow W.heap.size (bcells xl).toArray) ((W.heap.size, t, xl) :: L)) := Lib.hid (fun W L h Z t => h.new hl.len Z t)
  have hIxh := Lib.hid (bc_info26 hh.len)
  have hSxh : Hid ((bcells (List.replicate 20 0)).toArray.size = (bcells xh).toArray.size) := Lib.hid (by rw [bc_size (by simp), bc_size hh.len])
  have hTxh := Lib.hid (bc_all xh)
  have Nxh : Hid (∀ (W : World) L, RowsAt W L → ∀ Z t, RowsAt ((W.alloc (.cells Z t)).setRow W.heap.size (bcells xh).toArray) ((W.heap.size, t, xh) :: L)) := Lib.hid (fun W L h Z t => h.new hh.len Z t)
  have hIxd := Lib.hid (bc_info26 hd.len)
  have hSxd : Hid ((bcells (List.replicate 20 0)).toArray.size = (bcells xd).toArray.size) := Lib.hid (by rw [bc_size (by simp), bc_size hd.len])
  have hTxd := Lib.hid (bc_all xd)
  have Nxd : Hid (∀ (W : World) L, RowsAt W L → ∀ Z t, RowsAt ((W.alloc (.cells Z t)).setRow W.heap.size (bcells xd).toArray) ((W.heap.size, t, xd) :: L)) := Lib.hid (fun W L h Z t => h.new hd.len Z t)
  have hIyl := Lib.hid (bc_info26 hyl.len)
  have hSyl : Hid ((bcells (List.replicate 20 0)).toArray.size = (bcells yl).toArray.size) := Lib.hid (by rw [bc_size (by simp), bc_size hyl.len])
  have hTyl := Lib.hid (bc_all yl)
  have Nyl : Hid (∀ (W : World) L, RowsAt W L → ∀ Z t, RowsAt ((W.alloc (.cells Z t)).setRow W.heap.size (bcells yl).toArray) ((W.heap.size, t, yl) :: L)) := Lib.hid (fun W L h Z t => h.new hyl.len Z t)
  have hIyh := Lib.hid (bc_info26 hyh.len)
  have hSyh : Hid ((bcells (List.replicate 20 0)).toArray.size = (bcells yh).toArray.size) := Lib.hid (by rw [bc_size (by simp), bc_size hyh.len])
  have hTyh := Lib.hid (bc_all yh)
  have Nyh : Hid (∀ (W : World) L, RowsAt W L → ∀ Z t, RowsAt ((W.alloc (.cells Z t)).setRow W.heap.size (bcells yh).toArray) ((W.heap.size, t, yh) :: L)) := Lib.hid (fun W L h Z t => h.new hyh.len Z t)
  have NX : Hid (∀ (W1 W2 : World) L g Z, RowsAt W1 L → Below W1.heap.size W1 W2 → W1.heap.size ≤ g → W2.heap[g]? = some (.cells Z 23 (0, 0)) → RowsAt (W2.setRow g (bcells x).toArray) ((g, 23, x) :: L) ∧ Below W1.heap.size W1 (W2.setRow g (bcells x).toArray)) := Lib.hid (fun W1 W2 L g Z hR hb hg hr => ⟨RowsAt.cons hx (setRow_heap _ _ _ _ 23 (0, 0) hr) (hR.below (below_setRow hb hg _)), below_setRow hb hg _⟩)
  have R : RowsAt W0 [(w.heap.size, 23, o), (w.heap.size + 1, 23, x)] := RowsAt.cons ho h1 (RowsAt.cons hx h2 RowsAt.nil)
  have HBL := Lib.hid hb0
  have HB : Below W0.heap.size W0 W0 := Below.refl _ _
  have HW := Lib.hid hW0
  have hL' : ¬ (100 : Int) < (m : Int) := by omega
  rw [← hm]
  clear hA h1 h2 hb0 hW0 hm hL hA0 HDX
  generalize (bcells o).toArray = OA at *
  generalize (bcells x).toArray = XA at *
  generalize (bcells xl).toArray = LA at *
  generalize (bcells xh).toArray = HA at *
  generalize (bcells xd).toArray = DA at *
  generalize (bcells yl).toArray = YL at *
  generalize (bcells yh).toArray = YH at *
  generalize (bcells (List.replicate 20 0)).toArray = Z at *
  clear hl hh hd hyl hyh ho hx
  generalize (idxB o xd && ((idxN o xd : Int) == i)) = hb at *
  generalize idxN o x = n at *
  generalize idxB o x = nb at *
  generalize cmpL xl xd = c1 at *
  generalize cmpL xd xh = c2 at *
  generalize cmpL yl x = c3 at *
  generalize cmpL x yh = c4 at *
  generalize (o == x) = eox at *
  go_enter Try.func4, Try.ntmps4
  go_upto_region 3 with fail
  rw [← HW.out]
  clear HW
  have k1 := Lib.hid (ldo.out _ _ w.heap.size R (by first | exact .head _ | exact .tail _ (.head _) | exact .tail _ (.tail _ (.head _)) | exact .tail _ (.tail _ (.tail _ (.head _))) | exact .tail _ (.tail _ (.tail _ (.tail _ (.head _)))) | exact .tail _ (.tail _ (.tail _ (.tail _ (.tail _ (.head _))))) | exact .tail _ (.tail _ (.tail _ (.tail _ (.tail _ (.tail _ (.head _)))))) | exact .tail _ (.tail _ (.tail _ (.tail _ (.tail _ (.tail _ (.tail _ (.head _))))))) | exact .tail _ (.tail _ (.tail _ (.tail _ (.tail _ (.tail _ (.tail _ (.tail _ (.head _)))))))) | exact .tail _ (.tail _ (.tail _ (.tail _ (.tail _ (.tail _ (.tail _ (.tail _ (.tail _ (.head _)))))))))))
  go_upto_region 4 with (first
    | ((with_reducible refine wpList_loadV (op := ⟨some 28, _, _, _, _, _⟩) rfl 23 (.tmp 4) rfl _ ?_ _ k1.out ?_); rfl)
    | (go_at_call 13; (with_reducible refine (C13.out _ HB).mono ?_); rintro e w3 ⟨rfl, hb1⟩; replace R := R.below hb1; replace HB := HB.trans (hb1.mono HB.size); clear hb1)
    | ((with_reducible refine wpList_store_row rfl 23 (.tmp 9) (.tmp 32) rfl w3.heap.size DA ?_ ?_ 23 Z (heap_alloc_new w3 _) hIxd.out hSxd.out hTxd.out ?_); rfl; rfl))
  clear k1
  replace R := Nxd.out _ _ R Z 23
  replace HB := HB.trans ((below_new (W := w3) Z DA 23).mono HB.size)
  generalize (w3.alloc (.cells Z 23)).setRow w3.heap.size DA = W3 at R HB ⊢
  generalize w3.heap.size = g9 at R HB ⊢
  have k1 := Lib.hid (ldo.out _ _ w.heap.size R (by first | exact .head _ | exact .tail _ (.head _) | exact .tail _ (.tail _ (.head _)) | exact .tail _ (.tail _ (.tail _ (.head _))) | exact .tail _ (.tail _ (.tail _ (.tail _ (.head _)))) | exact .tail _ (.tail _ (.tail _ (.tail _ (.tail _ (.head _))))) | exact .tail _ (.tail _ (.tail _ (.tail _ (.tail _ (.tail _ (.head _)))))) | exact .tail _ (.tail _ (.tail _ (.tail _ (.tail _ (.tail _ (.tail _ (.head _))))))) | exact .tail _ (.tail _ (.tail _ (.tail _ (.tail _ (.tail _ (.tail _ (.tail _ (.head _)))))))) | exact .tail _ (.tail _ (.tail _ (.tail _ (.tail _ (.tail _ (.tail _ (.tail _ (.tail _ (.head _)))))))))))
  go_upto_region 5 with (first
    | ((with_reducible refine wpList_loadV (op := ⟨some 35, _, _, _, _, _⟩) rfl 23 (.tmp 4) rfl _ ?_ _ k1.out ?_); rfl)
    | (go_at_call 9; (with_reducible refine (C9.out _).mono ?_); rintro e w4 ⟨rfl, hb1⟩; replace R := R.below hb1; replace HB := HB.trans (hb1.mono HB.size); clear hb1)
    | ((with_reducible refine wpList_store_row rfl 23 (.tmp 11) (.tmp 38) rfl w4.heap.size LA ?_ ?_ 23 Z (heap_alloc_new w4 _) hIxl.out hSxl.out hTxl.out ?_); rfl; rfl))
  clear k1
  replace R := Nxl.out _ _ R Z 23
  replace HB := HB.trans ((below_new (W := w4) Z LA 23).mono HB.size)
  generalize (w4.alloc (.cells Z 23)).setRow w4.heap.size LA = W4 at R HB ⊢
  generalize w4.heap.size = g11 at R HB ⊢
  have k1 := Lib.hid (ldo.out _ _ w.heap.size R (by first | exact .head _ | exact .tail _ (.head _) | exact .tail _ (.tail _ (.head _)) | exact .tail _ (.tail _ (.tail _ (.head _))) | exact .tail _ (.tail _ (.tail _ (.tail _ (.head _)))) | exact .tail _ (.tail _ (.tail _ (.tail _ (.tail _ (.head _))))) | exact .tail _ (.tail _ (.tail _ (.tail _ (.tail _ (.tail _ (.head _)))))) | exact .tail _ (.tail _ (.tail _ (.tail _ (.tail _ (.tail _ (.tail _ (.head _))))))) | exact .tail _ (.tail _ (.tail _ (.tail _ (.tail _ (.tail _ (.tail _ (.tail _ (.head _)))))))) | exact .tail _ (.tail _ (.tail _ (.tail _ (.tail _ (.tail _ (.tail _ (.tail _ (.tail _ (.head _)))))))))))
  go_upto_region 6 with (first
    | ((with_reducible refine wpList_loadV (op := ⟨some 41, _, _, _, _, _⟩) rfl 23 (.tmp 4) rfl _ ?_ _ k1.out ?_); rfl)
    | (go_at_call 11; (with_reducible refine (C11.out _).mono ?_); rintro e w5 ⟨rfl, hb1⟩; replace R := R.below hb1; replace HB := HB.trans (hb1.mono HB.size); clear hb1)
    | ((with_reducible refine wpList_store_row rfl 23 (.tmp 13) (.tmp 44) rfl w5.heap.size HA ?_ ?_ 23 Z (heap_alloc_new w5 _) hIxh.out hSxh.out hTxh.out ?_); rfl; rfl))
  clear k1
  replace R := Nxh.out _ _ R Z 23
  replace HB := HB.trans ((below_new (W := w5) Z HA 23).mono HB.size)
  generalize (w5.alloc (.cells Z 23)).setRow w5.heap.size HA = W5 at R HB ⊢
  generalize w5.heap.size = g13 at R HB ⊢
  have k4 := Lib.hid (ldo.out _ _ w.heap.size R (by first | exact .head _ | exact .tail _ (.head _) | exact .tail _ (.tail _ (.head _)) | exact .tail _ (.tail _ (.tail _ (.head _))) | exact .tail _ (.tail _ (.tail _ (.tail _ (.head _)))) | exact .tail _ (.tail _ (.tail _ (.tail _ (.tail _ (.head _))))) | exact .tail _ (.tail _ (.tail _ (.tail _ (.tail _ (.tail _ (.head _)))))) | exact .tail _ (.tail _ (.tail _ (.tail _ (.tail _ (.tail _ (.tail _ (.head _))))))) | exact .tail _ (.tail _ (.tail _ (.tail _ (.tail _ (.tail _ (.tail _ (.tail _ (.head _)))))))) | exact .tail _ (.tail _ (.tail _ (.tail _ (.tail _ (.tail _ (.tail _ (.tail _ (.tail _ (.head _)))))))))))
  have k9 := Lib.hid (ldxd.out _ _ g9 R (by first | exact .head _ | exact .tail _ (.head _) | exact .tail _ (.tail _ (.head _)) | exact .tail _ (.tail _ (.tail _ (.head _))) | exact .tail _ (.tail _ (.tail _ (.tail _ (.head _)))) | exact .tail _ (.tail _ (.tail _ (.tail _ (.tail _ (.head _))))) | exact .tail _ (.tail _ (.tail _ (.tail _ (.tail _ (.tail _ (.head _)))))) | exact .tail _ (.tail _ (.tail _ (.tail _ (.tail _ (.tail _ (.tail _ (.head _))))))) | exact .tail _ (.tail _ (.tail _ (.tail _ (.tail _ (.tail _ (.tail _ (.tail _ (.head _)))))))) | exact .tail _ (.tail _ (.tail _ (.tail _ (.tail _ (.tail _ (.tail _ (.tail _ (.tail _ (.head _)))))))))))
  have hRK : ∀ W', Below W5.heap.size W5 W' → RowsAt W' _ := fun W' h => R.below h
  have l4 : Hid (∀ W', Below W5.heap.size W5 W' → (loadVar 23 ⟨w.heap.size, 0, none⟩).run Try.prog W' = .ok (.agg OA) W') := Lib.hid (fun W' h => ldo.out _ _ w.heap.size (R.below h) (by first | exact .head _ | exact .tail _ (.head _) | exact .tail _ (.tail _ (.head _)) | exact .tail _ (.tail _ (.tail _ (.head _))) | exact .tail _ (.tail _ (.tail _ (.tail _ (.head _)))) | exact .tail _ (.tail _ (.tail _ (.tail _ (.tail _ (.head _))))) | exact .tail _ (.tail _ (.tail _ (.tail _ (.tail _ (.tail _ (.head _)))))) | exact .tail _ (.tail _ (.tail _ (.tail _ (.tail _ (.tail _ (.tail _ (.head _))))))) | exact .tail _ (.tail _ (.tail _ (.tail _ (.tail _ (.tail _ (.tail _ (.tail _ (.head _)))))))) | exact .tail _ (.tail _ (.tail _ (.tail _ (.tail _ (.tail _ (.tail _ (.tail _ (.tail _ (.head _)))))))))))
  have l5 : Hid (∀ W', Below W5.heap.size W5 W' → (loadVar 23 ⟨w.heap.size + 1, 0, none⟩).run Try.prog W' = .ok (.agg XA) W') := Lib.hid (fun W' h => ldx.out _ _ (w.heap.size + 1) (R.below h) (by first | exact .head _ | exact .tail _ (.head _) | exact .tail _ (.tail _ (.head _)) | exact .tail _ (.tail _ (.tail _ (.head _))) | exact .tail _ (.tail _ (.tail _ (.tail _ (.head _)))) | exact .tail _ (.tail _ (.tail _ (.tail _ (.tail _ (.head _))))) | exact .tail _ (.tail _ (.tail _ (.tail _ (.tail _ (.tail _ (.head _)))))) | exact .tail _ (.tail _ (.tail _ (.tail _ (.tail _ (.tail _ (.tail _ (.head _))))))) | exact .tail _ (.tail _ (.tail _ (.tail _ (.tail _ (.tail _ (.tail _ (.tail _ (.head _)))))))) | exact .tail _ (.tail _ (.tail _ (.tail _ (.tail _ (.tail _ (.tail _ (.tail _ (.tail _ (.head _)))))))))))
  have l9 : Hid (∀ W', Below W5.heap.size W5 W' → (loadVar 23 ⟨g9, 0, none⟩).run Try.prog W' = .ok (.agg DA) W') := Lib.hid (fun W' h => ldxd.out _ _ g9 (R.below h) (by first | exact .head _ | exact .tail _ (.head _) | exact .tail _ (.tail _ (.head _)) | exact .tail _ (.tail _ (.tail _ (.head _))) | exact .tail _ (.tail _ (.tail _ (.tail _ (.head _)))) | exact .tail _ (.tail _ (.tail _ (.tail _ (.tail _ (.head _))))) | exact .tail _ (.tail _ (.tail _ (.tail _ (.tail _ (.tail _ (.head _)))))) | exact .tail _ (.tail _ (.tail _ (.tail _ (.tail _ (.tail _ (.tail _ (.head _))))))) | exact .tail _ (.tail _ (.tail _ (.tail _ (.tail _ (.tail _ (.tail _ (.tail _ (.head _)))))))) | exact .tail _ (.tail _ (.tail _ (.tail _ (.tail _ (.tail _ (.tail _ (.tail _ (.tail _ (.head _)))))))))))
  have l11 : Hid (∀ W', Below W5.heap.size W5 W' → (loadVar 23 ⟨g11, 0, none⟩).run Try.prog W' = .ok (.agg LA) W') := Lib.hid (fun W' h => ldxl.out _ _ g11 (R.below h) (by first | exact .head _ | exact .tail _ (.head _) | exact .tail _ (.tail _ (.head _)) | exact .tail _ (.tail _ (.tail _ (.head _))) | exact .tail _ (.tail _ (.tail _ (.tail _ (.head _)))) | exact .tail _ (.tail _ (.tail _ (.tail _ (.tail _ (.head _))))) | exact .tail _ (.tail _ (.tail _ (.tail _ (.tail _ (.tail _ (.head _)))))) | exact .tail _ (.tail _ (.tail _ (.tail _ (.tail _ (.tail _ (.tail _ (.head _))))))) | exact .tail _ (.tail _ (.tail _ (.tail _ (.tail _ (.tail _ (.tail _ (.tail _ (.head _)))))))) | exact .tail _ (.tail _ (.tail _ (.tail _ (.tail _ (.tail _ (.tail _ (.tail _ (.tail _ (.head _)))))))))))
  have l13 : Hid (∀ W', Below W5.heap.size W5 W' → (loadVar 23 ⟨g13, 0, none⟩).run Try.prog W' = .ok (.agg HA) W') := Lib.hid (fun W' h => ldxh.out _ _ g13 (R.below h) (by first | exact .head _ | exact .tail _ (.head _) | exact .tail _ (.tail _ (.head _)) | exact .tail _ (.tail _ (.tail _ (.head _))) | exact .tail _ (.tail _ (.tail _ (.tail _ (.head _)))) | exact .tail _ (.tail _ (.tail _ (.tail _ (.tail _ (.head _))))) | exact .tail _ (.tail _ (.tail _ (.tail _ (.tail _ (.tail _ (.head _)))))) | exact .tail _ (.tail _ (.tail _ (.tail _ (.tail _ (.tail _ (.tail _ (.head _))))))) | exact .tail _ (.tail _ (.tail _ (.tail _ (.tail _ (.tail _ (.tail _ (.tail _ (.head _)))))))) | exact .tail _ (.tail _ (.tail _ (.tail _ (.tail _ (.tail _ (.tail _ (.tail _ (.tail _ (.head _)))))))))))
  have HB5 : Below W5.heap.size W5 W5 := Below.refl _ _
  clear k4 k9 hRK
  rcases HQ.out with ⟨q1, q2, rfl⟩ | ⟨q1, rfl⟩ | ⟨q1, q2, rfl⟩
  · obtain ⟨hc1, hc2, rfl⟩ := HLE.out ⟨q1, q2⟩
    have hc1' : ¬ (0 : Int) < c1 := by omega
    have hc2' : ¬ (0 : Int) < c2 := by omega
    go_upto_region 11 with (first
      | ((with_reducible refine wpList_valG (op := ⟨some 75, _, _, _, _, _⟩) rfl (.bool false) ?_ ?_); (go_simp; simp [hc1']))
      | ((with_reducible refine wpList_valG (op := ⟨some 81, _, _, _, _, _⟩) rfl (.bool false) ?_ ?_); (go_simp; simp [hc2']))
      | ((with_reducible refine wpList_loadG (op := ⟨some 66, _, _, _, _, _⟩) rfl 23 (.tmp 4) rfl _ ?_ _ (l4.out _ HB5) ?_); rfl)
      | ((with_reducible refine wpList_loadG (op := ⟨some 68, _, _, _, _, _⟩) rfl 23 (.tmp 9) rfl _ ?_ _ (l9.out _ HB5) ?_); rfl)
      | ((with_reducible refine wpList_loadG (op := ⟨some 72, _, _, _, _, _⟩) rfl 23 (.tmp 11) rfl _ ?_ _ (l11.out _ HB5) ?_); rfl)
      | ((with_reducible refine wpList_loadG (op := ⟨some 73, _, _, _, _, _⟩) rfl 23 (.tmp 9) rfl _ ?_ _ (l9.out _ HB5) ?_); rfl)
      | ((with_reducible refine wpList_loadG (op := ⟨some 78, _, _, _, _, _⟩) rfl 23 (.tmp 9) rfl _ ?_ _ (l9.out _ HB5) ?_); rfl)
      | ((with_reducible refine wpList_loadG (op := ⟨some 79, _, _, _, _, _⟩) rfl 23 (.tmp 13) rfl _ ?_ _ (l13.out _ HB5) ?_); rfl)
      | ((with_reducible refine wpList_loadV (op := ⟨some 85, _, _, _, _, _⟩) rfl 23 (.tmp 4) rfl _ ?_ _ (l4.out _ HB5) ?_); rfl)
      | ((with_reducible refine wpList_loadV (op := ⟨some 86, _, _, _, _, _⟩) rfl 23 (.tmp 5) rfl _ ?_ _ (l5.out _ HB5) ?_); rfl)
      | (go_at_call 15; (with_reducible refine (C15.out _).mono ?_); rintro e wa ⟨rfl, hb1⟩; replace HB5 := HB5.trans (hb1.mono HB5.size); clear hb1)
      | (go_at_call 20; (with_reducible refine (P1.out _).mono ?_); rintro e wb ⟨rfl, hb1⟩; replace HB5 := HB5.trans (hb1.mono HB5.size); clear hb1)
      | (go_at_call 20; (with_reducible refine (P2.out _).mono ?_); rintro e wc ⟨rfl, hb1⟩; replace HB5 := HB5.trans (hb1.mono HB5.size); clear hb1)
      | (go_at_call 7; (with_reducible refine (C7.out _).mono ?_); rintro e wd ⟨rfl, hb1⟩; replace HB5 := HB5.trans (hb1.mono HB5.size); clear hb1))
    replace R := R.below HB5
    replace HB := HB.trans (HB5.mono HB.size)
    rcases HNX.out with ⟨rfl, rfl⟩ | ⟨rfl, hc3, hc4⟩
    · have k4 := Lib.hid (ldo.out _ _ w.heap.size R (by first | exact .head _ | exact .tail _ (.head _) | exact .tail _ (.tail _ (.head _)) | exact .tail _ (.tail _ (.tail _ (.head _))) | exact .tail _ (.tail _ (.tail _ (.tail _ (.head _)))) | exact .tail _ (.tail _ (.tail _ (.tail _ (.tail _ (.head _))))) | exact .tail _ (.tail _ (.tail _ (.tail _ (.tail _ (.tail _ (.head _)))))) | exact .tail _ (.tail _ (.tail _ (.tail _ (.tail _ (.tail _ (.tail _ (.head _))))))) | exact .tail _ (.tail _ (.tail _ (.tail _ (.tail _ (.tail _ (.tail _ (.tail _ (.head _)))))))) | exact .tail _ (.tail _ (.tail _ (.tail _ (.tail _ (.tail _ (.tail _ (.tail _ (.tail _ (.head _)))))))))))
      have k5 := Lib.hid (ldx.out _ _ (w.heap.size + 1) R (by first | exact .head _ | exact .tail _ (.head _) | exact .tail _ (.tail _ (.head _)) | exact .tail _ (.tail _ (.tail _ (.head _))) | exact .tail _ (.tail _ (.tail _ (.tail _ (.head _)))) | exact .tail _ (.tail _ (.tail _ (.tail _ (.tail _ (.head _))))) | exact .tail _ (.tail _ (.tail _ (.tail _ (.tail _ (.tail _ (.head _)))))) | exact .tail _ (.tail _ (.tail _ (.tail _ (.tail _ (.tail _ (.tail _ (.head _))))))) | exact .tail _ (.tail _ (.tail _ (.tail _ (.tail _ (.tail _ (.tail _ (.tail _ (.head _)))))))) | exact .tail _ (.tail _ (.tail _ (.tail _ (.tail _ (.tail _ (.tail _ (.tail _ (.tail _ (.head _)))))))))))
      go_wp2_with (first
        | ((with_reducible refine wpList_loadV (op := ⟨some 92, _, _, _, _, _⟩) rfl 23 (.tmp 4) rfl _ ?_ _ k4.out ?_); rfl)
        | ((with_reducible refine wpList_loadV (op := ⟨some 93, _, _, _, _, _⟩) rfl 23 (.tmp 5) rfl _ ?_ _ k5.out ?_); rfl)
        | (go_at_call 6; (with_reducible refine (C6.out _).mono ?_); rintro e we ⟨rfl, hb1⟩; replace HB := HB.trans (hb1.mono HB.size); clear hb1))
      go_ret
      exact ⟨rfl, HBL.out.trans (HB.mono HBL.out.size)⟩
    · clear l4 l5 l9 l11 l13 C15 P1 P2 C7 C9 C11 C13 HB5
      go_upto_region 13 with fail
      have M4 : Hid (∀ W, Below wd.heap.size wd W → (loadVar 23 ⟨w.heap.size, 0, none⟩).run Try.prog W = .ok (.agg OA) W) := Lib.hid (fun W h => ldo.out W _ w.heap.size (R.below h) (by first | exact .head _ | exact .tail _ (.head _) | exact .tail _ (.tail _ (.head _)) | exact .tail _ (.tail _ (.tail _ (.head _))) | exact .tail _ (.tail _ (.tail _ (.tail _ (.head _)))) | exact .tail _ (.tail _ (.tail _ (.tail _ (.tail _ (.head _))))) | exact .tail _ (.tail _ (.tail _ (.tail _ (.tail _ (.tail _ (.head _)))))) | exact .tail _ (.tail _ (.tail _ (.tail _ (.tail _ (.tail _ (.tail _ (.head _))))))) | exact .tail _ (.tail _ (.tail _ (.tail _ (.tail _ (.tail _ (.tail _ (.tail _ (.head _)))))))) | exact .tail _ (.tail _ (.tail _ (.tail _ (.tail _ (.tail _ (.tail _ (.tail _ (.tail _ (.head _)))))))))))
      have hD13 := Lib.hid (fun W h => D13.out (by simp) wd W _ R (by first | exact .head _ | exact .tail _ (.head _) | exact .tail _ (.tail _ (.head _)) | exact .tail _ (.tail _ (.tail _ (.head _))) | exact .tail _ (.tail _ (.tail _ (.tail _ (.head _)))) | exact .tail _ (.tail _ (.tail _ (.tail _ (.tail _ (.head _))))) | exact .tail _ (.tail _ (.tail _ (.tail _ (.tail _ (.tail _ (.head _)))))) | exact .tail _ (.tail _ (.tail _ (.tail _ (.tail _ (.tail _ (.tail _ (.head _))))))) | exact .tail _ (.tail _ (.tail _ (.tail _ (.tail _ (.tail _ (.tail _ (.tail _ (.head _)))))))) | exact .tail _ (.tail _ (.tail _ (.tail _ (.tail _ (.tail _ (.tail _ (.tail _ (.tail _ (.head _)))))))))) h)
      have hNX := Lib.hid (fun W2 g h1 h2 h3 => NX.out wd W2 _ g Z R h1 h2 h3)
      have hS1 : Below wd.heap.size wd wd.drew := (Below.refl _ wd).drew
      refine wp_region_noPanic ?_
      refine wp_region_held_drew (S := fun w' => Below wd.heap.size wd w') (by kernel_rfl) hS1 (fun hHeld => ?_)
      refine takeH_at 0 99 (v := .agg OA) rfl rfl (by kernel_rfl) (by kernel_rfl) (by kernel_rfl) (fun _ _ _ h => h) (yieldsIf_loadS (by rfl) 23 (.tmp 4) rfl _ rfl _ M4.out) (by assumption) ?_
      simp only [Act.put, List.setIfInBounds_toArray, List.set_cons_zero, List.set_cons_succ]
      refine takeH_at 1 100 (v := ?_) rfl rfl (by kernel_rfl) (by kernel_rfl) (by kernel_rfl) (fun _ _ _ h => h) (Or.inl ⟨by rfl, ?_⟩) (by assumption) ?_
      rotate_left
      · (intro wx hSw; clear hSw; go_simp) <;> with_reducible rfl
      simp only [Act.put, List.setIfInBounds_toArray, List.set_cons_zero, List.set_cons_succ]
      refine takeH_at 2 101 (v := ?_) rfl rfl (by kernel_rfl) (by kernel_rfl) (by kernel_rfl) (fun _ _ _ h => h) (Or.inl ⟨by rfl, ?_⟩) (by assumption) ?_
      rotate_left
      · (intro wx hSw; clear hSw; go_simp) <;> with_reducible rfl
      simp only [Act.put, List.setIfInBounds_toArray, List.set_cons_zero, List.set_cons_succ]
      refine wpAnyH_ready (rs := [3, 7]) (by kernel_rfl) (by simp) (AllReadyH.cons rfl (fun K hK => ?_) (AllReadyH.cons rfl (fun K hK => ?_) AllReadyH.nil))
      · rw [if_pos (by rfl)]
        refine LooseR.wpD (S := fun w' => Below wd.heap.size wd w') (X := fun v _ => v = .tuple #[.agg XA, .bool true]) 102 rfl (looseR_call 13 rfl (enters_of Try.func13 (by kernel_rfl) rfl) _ (by simp only [List.map_toArray, List.map_cons, List.map_nil]; rfl) (hD13.out _ hHeld)) (fun u wa hSa hba hu => hK.out _ _ hSa (fun hHa => ?_))
        subst hu
        simp only [Act.put, List.setIfInBounds_toArray, List.set_cons_zero, List.set_cons_succ]
        refine takeH_at 4 98 (v := ?_) rfl rfl (by kernel_rfl) (by kernel_rfl) (by kernel_rfl) (fun _ _ _ h => h) (Or.inl ⟨by rfl, ?_⟩) (by assumption) ?_
        rotate_left
        · (intro wx hSw; clear hSw; go_simp) <;> with_reducible rfl
        simp only [Act.put, List.setIfInBounds_toArray, List.set_cons_zero, List.set_cons_succ]
        refine takeH_at 5 103 (v := ?_) rfl rfl (by kernel_rfl) (by kernel_rfl) (by kernel_rfl) (fun _ _ _ h => h) (Or.inl ⟨by rfl, ?_⟩) (by assumption) ?_
        rotate_left
        · (intro wx hSw; clear hSw; go_simp) <;> with_reducible rfl
        simp only [Act.put, List.setIfInBounds_toArray, List.set_cons_zero, List.set_cons_succ]
        refine takeH_at 6 104 (v := ?_) rfl rfl (by kernel_rfl) (by kernel_rfl) (by kernel_rfl) (fun _ _ _ h => h) (Or.inl ⟨by rfl, ?_⟩) (by assumption) ?_
        rotate_left
        · (intro wx hSw; clear hSw; go_simp) <;> with_reducible rfl
        simp only [Act.put, List.setIfInBounds_toArray, List.set_cons_zero, List.set_cons_succ]
        refine single 7 17 rfl rfl (by kernel_rfl) (by rfl) (fun v w' => v = .pointer (some ⟨wa.heap.size, 0, none⟩) ∧ w' = wa.alloc (.cells Z 23)) (looseR_alloc 23 rfl Z hz1 (hSa.alloc hSa.size _)) ?_
        intro u wz hSz hbz hu
        obtain ⟨rfl, rfl⟩ := hu
        simp only [Act.put, List.setIfInBounds_toArray, List.set_cons_zero, List.set_cons_succ]
        obtain ⟨r1, r2⟩ := hNX.out (wa.alloc (.cells Z 23)) wa.heap.size hSz hSa.size (heap_alloc_new wa _)
        refine single_store 8 rfl rfl (by kernel_rfl) (by rfl) 23 (.tmp 17) (.tmp 103) rfl wa.heap.size XA rfl rfl 23 Z (heap_alloc_new wa _) hIx.out hSx.out hTx.out r2 ?_
        refine takeH_at 9 18 (v := ?_) rfl rfl (by kernel_rfl) (by kernel_rfl) (by kernel_rfl) (fun _ _ _ h => h) (Or.inl ⟨by rfl, ?_⟩) (by assumption) ?_
        rotate_left
        · (intro wx hSw; clear hSw; go_simp) <;> with_reducible rfl
        simp only [Act.put, List.setIfInBounds_toArray, List.set_cons_zero, List.set_cons_succ]
        generalize wa.alloc (.cells Z 23) = wz at r1 r2 hSz ⊢
        generalize wa.heap.size = g17 at r1 r2 ⊢
        refine wpAnyH_done (by kernel_rfl) ?_ _
        refine NoPanic.normal ?_
        clear R hK K hHeld hS1 M4 hD13 hNX D13 NX
        have R := r1
        replace HB := HB.trans (r2.mono HB.size)
        clear r1 r2
        generalize wz.setRow g17 XA = W13 at R HB ⊢
        have k1 := Lib.hid (ldo.out _ _ w.heap.size R (by first | exact .head _ | exact .tail _ (.head _) | exact .tail _ (.tail _ (.head _)) | exact .tail _ (.tail _ (.tail _ (.head _))) | exact .tail _ (.tail _ (.tail _ (.tail _ (.head _)))) | exact .tail _ (.tail _ (.tail _ (.tail _ (.tail _ (.head _))))) | exact .tail _ (.tail _ (.tail _ (.tail _ (.tail _ (.tail _ (.head _)))))) | exact .tail _ (.tail _ (.tail _ (.tail _ (.tail _ (.tail _ (.tail _ (.head _))))))) | exact .tail _ (.tail _ (.tail _ (.tail _ (.tail _ (.tail _ (.tail _ (.tail _ (.head _)))))))) | exact .tail _ (.tail _ (.tail _ (.tail _ (.tail _ (.tail _ (.tail _ (.tail _ (.tail _ (.head _)))))))))))
        go_upto_region 15 with (first
          | ((with_reducible refine wpList_loadV (op := ⟨some 106, _, _, _, _, _⟩) rfl 23 (.tmp 4) rfl _ ?_ _ k1.out ?_); rfl)
          | (go_at_call 9; (with_reducible refine (D9.out _).mono ?_); rintro e w14 ⟨rfl, hb1⟩; replace R := R.below hb1; replace HB := HB.trans (hb1.mono HB.size); clear hb1)
          | ((with_reducible refine wpList_store_row rfl 23 (.tmp 19) (.tmp 109) rfl w14.heap.size YL ?_ ?_ 23 Z (heap_alloc_new w14 _) hIyl.out hSyl.out hTyl.out ?_); rfl; rfl))
        clear k1
        replace R := Nyl.out _ _ R Z 23
        replace HB := HB.trans ((below_new (W := w14) Z YL 23).mono HB.size)
        generalize (w14.alloc (.cells Z 23)).setRow w14.heap.size YL = W14 at R HB ⊢
        generalize w14.heap.size = g19 at R HB ⊢
        have k1 := Lib.hid (ldo.out _ _ w.heap.size R (by first | exact .head _ | exact .tail _ (.head _) | exact .tail _ (.tail _ (.head _)) | exact .tail _ (.tail _ (.tail _ (.head _))) | exact .tail _ (.tail _ (.tail _ (.tail _ (.head _)))) | exact .tail _ (.tail _ (.tail _ (.tail _ (.tail _ (.head _))))) | exact .tail _ (.tail _ (.tail _ (.tail _ (.tail _ (.tail _ (.head _)))))) | exact .tail _ (.tail _ (.tail _ (.tail _ (.tail _ (.tail _ (.tail _ (.head _))))))) | exact .tail _ (.tail _ (.tail _ (.tail _ (.tail _ (.tail _ (.tail _ (.tail _ (.head _)))))))) | exact .tail _ (.tail _ (.tail _ (.tail _ (.tail _ (.tail _ (.tail _ (.tail _ (.tail _ (.head _)))))))))))
        go_upto_region 16 with (first
          | ((with_reducible refine wpList_loadV (op := ⟨some 112, _, _, _, _, _⟩) rfl 23 (.tmp 4) rfl _ ?_ _ k1.out ?_); rfl)
          | (go_at_call 11; (with_reducible refine (D11.out _).mono ?_); rintro e w15 ⟨rfl, hb1⟩; replace R := R.below hb1; replace HB := HB.trans (hb1.mono HB.size); clear hb1)
          | ((with_reducible refine wpList_store_row rfl 23 (.tmp 21) (.tmp 115) rfl w15.heap.size YH ?_ ?_ 23 Z (heap_alloc_new w15 _) hIyh.out hSyh.out hTyh.out ?_); rfl; rfl))
        clear k1
        replace R := Nyh.out _ _ R Z 23
        replace HB := HB.trans ((below_new (W := w15) Z YH 23).mono HB.size)
        generalize (w15.alloc (.cells Z 23)).setRow w15.heap.size YH = W15 at R HB ⊢
        generalize w15.heap.size = g21 at R HB ⊢
        have m17 : Hid (∀ W, Below W15.heap.size W15 W → (loadVar 23 ⟨g17, 0, none⟩).run Try.prog W = .ok (.agg XA) W) := Lib.hid (fun W h => ldx.out W _ g17 (R.below h) (by first | exact .head _ | exact .tail _ (.head _) | exact .tail _ (.tail _ (.head _)) | exact .tail _ (.tail _ (.tail _ (.head _))) | exact .tail _ (.tail _ (.tail _ (.tail _ (.head _)))) | exact .tail _ (.tail _ (.tail _ (.tail _ (.tail _ (.head _))))) | exact .tail _ (.tail _ (.tail _ (.tail _ (.tail _ (.tail _ (.head _)))))) | exact .tail _ (.tail _ (.tail _ (.tail _ (.tail _ (.tail _ (.tail _ (.head _))))))) | exact .tail _ (.tail _ (.tail _ (.tail _ (.tail _ (.tail _ (.tail _ (.tail _ (.head _)))))))) | exact .tail _ (.tail _ (.tail _ (.tail _ (.tail _ (.tail _ (.tail _ (.tail _ (.tail _ (.head _)))))))))))
        have m5 : Hid (∀ W, Below W15.heap.size W15 W → (loadVar 23 ⟨(w.heap.size + 1), 0, none⟩).run Try.prog W = .ok (.agg XA) W) := Lib.hid (fun W h => ldx.out W _ (w.heap.size + 1) (R.below h) (by first | exact .head _ | exact .tail _ (.head _) | exact .tail _ (.tail _ (.head _)) | exact .tail _ (.tail _ (.tail _ (.head _))) | exact .tail _ (.tail _ (.tail _ (.tail _ (.head _)))) | exact .tail _ (.tail _ (.tail _ (.tail _ (.tail _ (.head _))))) | exact .tail _ (.tail _ (.tail _ (.tail _ (.tail _ (.tail _ (.head _)))))) | exact .tail _ (.tail _ (.tail _ (.tail _ (.tail _ (.tail _ (.tail _ (.head _))))))) | exact .tail _ (.tail _ (.tail _ (.tail _ (.tail _ (.tail _ (.tail _ (.tail _ (.head _)))))))) | exact .tail _ (.tail _ (.tail _ (.tail _ (.tail _ (.tail _ (.tail _ (.tail _ (.tail _ (.head _)))))))))))
        have m19 : Hid (∀ W, Below W15.heap.size W15 W → (loadVar 23 ⟨g19, 0, none⟩).run Try.prog W = .ok (.agg YL) W) := Lib.hid (fun W h => ldyl.out W _ g19 (R.below h) (by first | exact .head _ | exact .tail _ (.head _) | exact .tail _ (.tail _ (.head _)) | exact .tail _ (.tail _ (.tail _ (.head _))) | exact .tail _ (.tail _ (.tail _ (.tail _ (.head _)))) | exact .tail _ (.tail _ (.tail _ (.tail _ (.tail _ (.head _))))) | exact .tail _ (.tail _ (.tail _ (.tail _ (.tail _ (.tail _ (.head _)))))) | exact .tail _ (.tail _ (.tail _ (.tail _ (.tail _ (.tail _ (.tail _ (.head _))))))) | exact .tail _ (.tail _ (.tail _ (.tail _ (.tail _ (.tail _ (.tail _ (.tail _ (.head _)))))))) | exact .tail _ (.tail _ (.tail _ (.tail _ (.tail _ (.tail _ (.tail _ (.tail _ (.tail _ (.head _)))))))))))
        have m21 : Hid (∀ W, Below W15.heap.size W15 W → (loadVar 23 ⟨g21, 0, none⟩).run Try.prog W = .ok (.agg YH) W) := Lib.hid (fun W h => ldyh.out W _ g21 (R.below h) (by first | exact .head _ | exact .tail _ (.head _) | exact .tail _ (.tail _ (.head _)) | exact .tail _ (.tail _ (.tail _ (.head _))) | exact .tail _ (.tail _ (.tail _ (.tail _ (.head _)))) | exact .tail _ (.tail _ (.tail _ (.tail _ (.tail _ (.head _))))) | exact .tail _ (.tail _ (.tail _ (.tail _ (.tail _ (.tail _ (.head _)))))) | exact .tail _ (.tail _ (.tail _ (.tail _ (.tail _ (.tail _ (.tail _ (.head _))))))) | exact .tail _ (.tail _ (.tail _ (.tail _ (.tail _ (.tail _ (.tail _ (.tail _ (.head _)))))))) | exact .tail _ (.tail _ (.tail _ (.tail _ (.tail _ (.tail _ (.tail _ (.tail _ (.tail _ (.head _)))))))))))
        have HB6 : Below W15.heap.size W15 W15 := Below.refl _ _
        go_wp2_with (first
          | ((with_reducible refine wpList_valG (op := ⟨some 127, _, _, _, _, _⟩) rfl (.bool true) ?_ ?_); (go_simp; simp [hc3]))
          | ((with_reducible refine wpList_valG (op := ⟨some 133, _, _, _, _, _⟩) rfl (.bool true) ?_ ?_); (go_simp; simp [hc4]))
          | ((with_reducible refine wpList_loadG (op := ⟨some 119, _, _, _, _, _⟩) rfl 23 (.tmp 17) rfl _ ?_ _ (m17.out _ HB6) ?_); rfl)
          | ((with_reducible refine wpList_loadG (op := ⟨some 120, _, _, _, _, _⟩) rfl 23 (.tmp 5) rfl _ ?_ _ (m5.out _ HB6) ?_); rfl)
          | ((with_reducible refine wpList_loadG (op := ⟨some 124, _, _, _, _, _⟩) rfl 23 (.tmp 19) rfl _ ?_ _ (m19.out _ HB6) ?_); rfl)
          | ((with_reducible refine wpList_loadG (op := ⟨some 125, _, _, _, _, _⟩) rfl 23 (.tmp 5) rfl _ ?_ _ (m5.out _ HB6) ?_); rfl)
          | ((with_reducible refine wpList_loadG (op := ⟨some 130, _, _, _, _, _⟩) rfl 23 (.tmp 5) rfl _ ?_ _ (m5.out _ HB6) ?_); rfl)
          | ((with_reducible refine wpList_loadG (op := ⟨some 131, _, _, _, _, _⟩) rfl 23 (.tmp 21) rfl _ ?_ _ (m21.out _ HB6) ?_); rfl)
          | (go_at_call 20; (with_reducible refine (P3.out _).mono ?_); rintro e wp ⟨rfl, hb1⟩; replace HB6 := HB6.trans (hb1.mono HB6.size); clear hb1)
          | (go_at_call 20; (with_reducible refine (P4.out _).mono ?_); rintro e wq ⟨rfl, hb1⟩; replace HB6 := HB6.trans (hb1.mono HB6.size); clear hb1)
          | (go_at_call 6; (with_reducible refine (C6.out _).mono ?_); rintro e ws ⟨rfl, hb1⟩; replace HB6 := HB6.trans (hb1.mono HB6.size); clear hb1))
        go_ret
        exact ⟨rfl, HBL.out.trans ((HB.trans (HB6.mono HB.size)).mono HBL.out.size)⟩
      · rw [if_pos (by rfl)]
        refine LooseR.wpD (S := fun w' => Below wd.heap.size wd w') 17 rfl (looseR_alloc 23 rfl Z hz1 (hHeld.alloc hHeld.size _)) (fun u wa hSa hba hu => hK.out _ _ hSa (fun hHa => ?_))
        obtain ⟨rfl, hwa⟩ := hu
        have hrow : wa.heap[wd.drew.heap.size]? = some (.cells Z 23 (0, 0)) := by rw [hwa]; exact heap_alloc_new _ _
        simp only [Act.put, List.setIfInBounds_toArray, List.set_cons_zero, List.set_cons_succ]
        refine single 3 102 rfl rfl (by kernel_rfl) (by rfl) (fun v _ => v = .tuple #[.agg XA, .bool true]) (looseR_call 13 rfl (enters_of Try.func13 (by kernel_rfl) rfl) _ (by simp only [List.map_toArray, List.map_cons, List.map_nil]; rfl) (hD13.out _ hSa)) ?_
        intro u wz hSz hbz hu
        subst hu
        simp only [Act.put, List.setIfInBounds_toArray, List.set_cons_zero, List.set_cons_succ]
        refine takeH_at 4 98 (v := ?_) rfl rfl (by kernel_rfl) (by kernel_rfl) (by kernel_rfl) (fun _ _ _ h => h) (Or.inl ⟨by rfl, ?_⟩) (by assumption) ?_
        rotate_left
        · (intro wx hSw; clear hSw; go_simp) <;> with_reducible rfl
        simp only [Act.put, List.setIfInBounds_toArray, List.set_cons_zero, List.set_cons_succ]
        refine takeH_at 5 103 (v := ?_) rfl rfl (by kernel_rfl) (by kernel_rfl) (by kernel_rfl) (fun _ _ _ h => h) (Or.inl ⟨by rfl, ?_⟩) (by assumption) ?_
        rotate_left
        · (intro wx hSw; clear hSw; go_simp) <;> with_reducible rfl
        simp only [Act.put, List.setIfInBounds_toArray, List.set_cons_zero, List.set_cons_succ]
        refine takeH_at 6 104 (v := ?_) rfl rfl (by kernel_rfl) (by kernel_rfl) (by kernel_rfl) (fun _ _ _ h => h) (Or.inl ⟨by rfl, ?_⟩) (by assumption) ?_
        rotate_left
        · (intro wx hSw; clear hSw; go_simp) <;> with_reducible rfl
        simp only [Act.put, List.setIfInBounds_toArray, List.set_cons_zero, List.set_cons_succ]
        have hrz := (hbz.block _ (Array.getElem?_eq_some_iff.1 hrow).1).trans hrow
        obtain ⟨r1, r2⟩ := hNX.out wz wd.drew.heap.size hSz (Nat.le_refl _) hrz
        refine single_store 8 rfl rfl (by kernel_rfl) (by rfl) 23 (.tmp 17) (.tmp 103) rfl wd.drew.heap.size XA rfl rfl 23 Z hrz hIx.out hSx.out hTx.out r2 ?_
        refine takeH_at 9 18 (v := ?_) rfl rfl (by kernel_rfl) (by kernel_rfl) (by kernel_rfl) (fun _ _ _ h => h) (Or.inl ⟨by rfl, ?_⟩) (by assumption) ?_
        rotate_left
        · (intro wx hSw; clear hSw; go_simp) <;> with_reducible rfl
        simp only [Act.put, List.setIfInBounds_toArray, List.set_cons_zero, List.set_cons_succ]
        generalize wd.drew.heap.size = g17 at r1 r2 hrz ⊢
        refine wpAnyH_done (by kernel_rfl) ?_ _
        refine NoPanic.normal ?_
        clear R hK K hHeld hS1 M4 hD13 hNX D13 NX
        have R := r1
        replace HB := HB.trans (r2.mono HB.size)
        clear r1 r2
        generalize wz.setRow g17 XA = W13 at R HB ⊢
        have k1 := Lib.hid (ldo.out _ _ w.heap.size R (by first | exact .head _ | exact .tail _ (.head _) | exact .tail _ (.tail _ (.head _)) | exact .tail _ (.tail _ (.tail _ (.head _))) | exact .tail _ (.tail _ (.tail _ (.tail _ (.head _)))) | exact .tail _ (.tail _ (.tail _ (.tail _ (.tail _ (.head _))))) | exact .tail _ (.tail _ (.tail _ (.tail _ (.tail _ (.tail _ (.head _)))))) | exact .tail _ (.tail _ (.tail _ (.tail _ (.tail _ (.tail _ (.tail _ (.head _))))))) | exact .tail _ (.tail _ (.tail _ (.tail _ (.tail _ (.tail _ (.tail _ (.tail _ (.head _)))))))) | exact .tail _ (.tail _ (.tail _ (.tail _ (.tail _ (.tail _ (.tail _ (.tail _ (.tail _ (.head _)))))))))))
        go_upto_region 15 with (first
          | ((with_reducible refine wpList_loadV (op := ⟨some 106, _, _, _, _, _⟩) rfl 23 (.tmp 4) rfl _ ?_ _ k1.out ?_); rfl)
          | (go_at_call 9; (with_reducible refine (D9.out _).mono ?_); rintro e w14 ⟨rfl, hb1⟩; replace R := R.below hb1; replace HB := HB.trans (hb1.mono HB.size); clear hb1)
          | ((with_reducible refine wpList_store_row rfl 23 (.tmp 19) (.tmp 109) rfl w14.heap.size YL ?_ ?_ 23 Z (heap_alloc_new w14 _) hIyl.out hSyl.out hTyl.out ?_); rfl; rfl))
        clear k1
        replace R := Nyl.out _ _ R Z 23
        replace HB := HB.trans ((below_new (W := w14) Z YL 23).mono HB.size)
        generalize (w14.alloc (.cells Z 23)).setRow w14.heap.size YL = W14 at R HB ⊢
        generalize w14.heap.size = g19 at R HB ⊢
        have k1 := Lib.hid (ldo.out _ _ w.heap.size R (by first | exact .head _ | exact .tail _ (.head _) | exact .tail _ (.tail _ (.head _)) | exact .tail _ (.tail _ (.tail _ (.head _))) | exact .tail _ (.tail _ (.tail _ (.tail _ (.head _)))) | exact .tail _ (.tail _ (.tail _ (.tail _ (.tail _ (.head _))))) | exact .tail _ (.tail _ (.tail _ (.tail _ (.tail _ (.tail _ (.head _)))))) | exact .tail _ (.tail _ (.tail _ (.tail _ (.tail _ (.tail _ (.tail _ (.head _))))))) | exact .tail _ (.tail _ (.tail _ (.tail _ (.tail _ (.tail _ (.tail _ (.tail _ (.head _)))))))) | exact .tail _ (.tail _ (.tail _ (.tail _ (.tail _ (.tail _ (.tail _ (.tail _ (.tail _ (.head _)))))))))))
        go_upto_region 16 with (first
          | ((with_reducible refine wpList_loadV (op := ⟨some 112, _, _, _, _, _⟩) rfl 23 (.tmp 4) rfl _ ?_ _ k1.out ?_); rfl)
          | (go_at_call 11; (with_reducible refine (D11.out _).mono ?_); rintro e w15 ⟨rfl, hb1⟩; replace R := R.below hb1; replace HB := HB.trans (hb1.mono HB.size); clear hb1)
          | ((with_reducible refine wpList_store_row rfl 23 (.tmp 21) (.tmp 115) rfl w15.heap.size YH ?_ ?_ 23 Z (heap_alloc_new w15 _) hIyh.out hSyh.out hTyh.out ?_); rfl; rfl))
        clear k1
        replace R := Nyh.out _ _ R Z 23
        replace HB := HB.trans ((below_new (W := w15) Z YH 23).mono HB.size)
        generalize (w15.alloc (.cells Z 23)).setRow w15.heap.size YH = W15 at R HB ⊢
        generalize w15.heap.size = g21 at R HB ⊢
        have m17 : Hid (∀ W, Below W15.heap.size W15 W → (loadVar 23 ⟨g17, 0, none⟩).run Try.prog W = .ok (.agg XA) W) := Lib.hid (fun W h => ldx.out W _ g17 (R.below h) (by first | exact .head _ | exact .tail _ (.head _) | exact .tail _ (.tail _ (.head _)) | exact .tail _ (.tail _ (.tail _ (.head _))) | exact .tail _ (.tail _ (.tail _ (.tail _ (.head _)))) | exact .tail _ (.tail _ (.tail _ (.tail _ (.tail _ (.head _))))) | exact .tail _ (.tail _ (.tail _ (.tail _ (.tail _ (.tail _ (.head _)))))) | exact .tail _ (.tail _ (.tail _ (.tail _ (.tail _ (.tail _ (.tail _ (.head _))))))) | exact .tail _ (.tail _ (.tail _ (.tail _ (.tail _ (.tail _ (.tail _ (.tail _ (.head _)))))))) | exact .tail _ (.tail _ (.tail _ (.tail _ (.tail _ (.tail _ (.tail _ (.tail _ (.tail _ (.head _)))))))))))
        have m5 : Hid (∀ W, Below W15.heap.size W15 W → (loadVar 23 ⟨(w.heap.size + 1), 0, none⟩).run Try.prog W = .ok (.agg XA) W) := Lib.hid (fun W h => ldx.out W _ (w.heap.size + 1) (R.below h) (by first | exact .head _ | exact .tail _ (.head _) | exact .tail _ (.tail _ (.head _)) | exact .tail _ (.tail _ (.tail _ (.head _))) | exact .tail _ (.tail _ (.tail _ (.tail _ (.head _)))) | exact .tail _ (.tail _ (.tail _ (.tail _ (.tail _ (.head _))))) | exact .tail _ (.tail _ (.tail _ (.tail _ (.tail _ (.tail _ (.head _)))))) | exact .tail _ (.tail _ (.tail _ (.tail _ (.tail _ (.tail _ (.tail _ (.head _))))))) | exact .tail _ (.tail _ (.tail _ (.tail _ (.tail _ (.tail _ (.tail _ (.tail _ (.head _)))))))) | exact .tail _ (.tail _ (.tail _ (.tail _ (.tail _ (.tail _ (.tail _ (.tail _ (.tail _ (.head _)))))))))))
        have m19 : Hid (∀ W, Below W15.heap.size W15 W → (loadVar 23 ⟨g19, 0, none⟩).run Try.prog W = .ok (.agg YL) W) := Lib.hid (fun W h => ldyl.out W _ g19 (R.below h) (by first | exact .head _ | exact .tail _ (.head _) | exact .tail _ (.tail _ (.head _)) | exact .tail _ (.tail _ (.tail _ (.head _))) | exact .tail _ (.tail _ (.tail _ (.tail _ (.head _)))) | exact .tail _ (.tail _ (.tail _ (.tail _ (.tail _ (.head _))))) | exact .tail _ (.tail _ (.tail _ (.tail _ (.tail _ (.tail _ (.head _)))))) | exact .tail _ (.tail _ (.tail _ (.tail _ (.tail _ (.tail _ (.tail _ (.head _))))))) | exact .tail _ (.tail _ (.tail _ (.tail _ (.tail _ (.tail _ (.tail _ (.tail _ (.head _)))))))) | exact .tail _ (.tail _ (.tail _ (.tail _ (.tail _ (.tail _ (.tail _ (.tail _ (.tail _ (.head _)))))))))))
        have m21 : Hid (∀ W, Below W15.heap.size W15 W → (loadVar 23 ⟨g21, 0, none⟩).run Try.prog W = .ok (.agg YH) W) := Lib.hid (fun W h => ldyh.out W _ g21 (R.below h) (by first | exact .head _ | exact .tail _ (.head _) | exact .tail _ (.tail _ (.head _)) | exact .tail _ (.tail _ (.tail _ (.head _))) | exact .tail _ (.tail _ (.tail _ (.tail _ (.head _)))) | exact .tail _ (.tail _ (.tail _ (.tail _ (.tail _ (.head _))))) | exact .tail _ (.tail _ (.tail _ (.tail _ (.tail _ (.tail _ (.head _)))))) | exact .tail _ (.tail _ (.tail _ (.tail _ (.tail _ (.tail _ (.tail _ (.head _))))))) | exact .tail _ (.tail _ (.tail _ (.tail _ (.tail _ (.tail _ (.tail _ (.tail _ (.head _)))))))) | exact .tail _ (.tail _ (.tail _ (.tail _ (.tail _ (.tail _ (.tail _ (.tail _ (.tail _ (.head _)))))))))))
        have HB6 : Below W15.heap.size W15 W15 := Below.refl _ _
        go_wp2_with (first
          | ((with_reducible refine wpList_valG (op := ⟨some 127, _, _, _, _, _⟩) rfl (.bool true) ?_ ?_); (go_simp; simp [hc3]))
          | ((with_reducible refine wpList_valG (op := ⟨some 133, _, _, _, _, _⟩) rfl (.bool true) ?_ ?_); (go_simp; simp [hc4]))
          | ((with_reducible refine wpList_loadG (op := ⟨some 119, _, _, _, _, _⟩) rfl 23 (.tmp 17) rfl _ ?_ _ (m17.out _ HB6) ?_); rfl)
          | ((with_reducible refine wpList_loadG (op := ⟨some 120, _, _, _, _, _⟩) rfl 23 (.tmp 5) rfl _ ?_ _ (m5.out _ HB6) ?_); rfl)
          | ((with_reducible refine wpList_loadG (op := ⟨some 124, _, _, _, _, _⟩) rfl 23 (.tmp 19) rfl _ ?_ _ (m19.out _ HB6) ?_); rfl)
          | ((with_reducible refine wpList_loadG (op := ⟨some 125, _, _, _, _, _⟩) rfl 23 (.tmp 5) rfl _ ?_ _ (m5.out _ HB6) ?_); rfl)
          | ((with_reducible refine wpList_loadG (op := ⟨some 130, _, _, _, _, _⟩) rfl 23 (.tmp 5) rfl _ ?_ _ (m5.out _ HB6) ?_); rfl)
          | ((with_reducible refine wpList_loadG (op := ⟨some 131, _, _, _, _, _⟩) rfl 23 (.tmp 21) rfl _ ?_ _ (m21.out _ HB6) ?_); rfl)
          | (go_at_call 20; (with_reducible refine (P3.out _).mono ?_); rintro e wp ⟨rfl, hb1⟩; replace HB6 := HB6.trans (hb1.mono HB6.size); clear hb1)
          | (go_at_call 20; (with_reducible refine (P4.out _).mono ?_); rintro e wq ⟨rfl, hb1⟩; replace HB6 := HB6.trans (hb1.mono HB6.size); clear hb1)
          | (go_at_call 6; (with_reducible refine (C6.out _).mono ?_); rintro e ws ⟨rfl, hb1⟩; replace HB6 := HB6.trans (hb1.mono HB6.size); clear hb1))
        go_ret
        exact ⟨rfl, HBL.out.trans ((HB.trans (HB6.mono HB.size)).mono HBL.out.size)⟩
  · go_upto_region 11 with (first
      | ((with_reducible refine wpList_loadG (op := ⟨some 66, _, _, _, _, _⟩) rfl 23 (.tmp 4) rfl _ ?_ _ (l4.out _ HB5) ?_); rfl)
      | ((with_reducible refine wpList_loadG (op := ⟨some 68, _, _, _, _, _⟩) rfl 23 (.tmp 9) rfl _ ?_ _ (l9.out _ HB5) ?_); rfl)
      | ((with_reducible refine wpList_loadG (op := ⟨some 72, _, _, _, _, _⟩) rfl 23 (.tmp 11) rfl _ ?_ _ (l11.out _ HB5) ?_); rfl)
      | ((with_reducible refine wpList_loadG (op := ⟨some 73, _, _, _, _, _⟩) rfl 23 (.tmp 9) rfl _ ?_ _ (l9.out _ HB5) ?_); rfl)
      | ((with_reducible refine wpList_loadG (op := ⟨some 78, _, _, _, _, _⟩) rfl 23 (.tmp 9) rfl _ ?_ _ (l9.out _ HB5) ?_); rfl)
      | ((with_reducible refine wpList_loadG (op := ⟨some 79, _, _, _, _, _⟩) rfl 23 (.tmp 13) rfl _ ?_ _ (l13.out _ HB5) ?_); rfl)
      | ((with_reducible refine wpList_loadV (op := ⟨some 85, _, _, _, _, _⟩) rfl 23 (.tmp 4) rfl _ ?_ _ (l4.out _ HB5) ?_); rfl)
      | ((with_reducible refine wpList_loadV (op := ⟨some 86, _, _, _, _, _⟩) rfl 23 (.tmp 5) rfl _ ?_ _ (l5.out _ HB5) ?_); rfl)
      | (go_at_call 15; (with_reducible refine (C15.out _).mono ?_); rintro e wa ⟨rfl, hb1⟩; replace HB5 := HB5.trans (hb1.mono HB5.size); clear hb1)
      | (go_at_call 20; (with_reducible refine (P1.out _).mono ?_); rintro e wb ⟨rfl, hb1⟩; replace HB5 := HB5.trans (hb1.mono HB5.size); clear hb1)
      | (go_at_call 20; (with_reducible refine (P2.out _).mono ?_); rintro e wc ⟨rfl, hb1⟩; replace HB5 := HB5.trans (hb1.mono HB5.size); clear hb1)
      | (go_at_call 7; (with_reducible refine (C7.out _).mono ?_); rintro e wd ⟨rfl, hb1⟩; replace HB5 := HB5.trans (hb1.mono HB5.size); clear hb1))
    replace R := R.below HB5
    replace HB := HB.trans (HB5.mono HB.size)
    rcases HNX.out with ⟨rfl, rfl⟩ | ⟨rfl, hc3, hc4⟩
    · have k4 := Lib.hid (ldo.out _ _ w.heap.size R (by first | exact .head _ | exact .tail _ (.head _) | exact .tail _ (.tail _ (.head _)) | exact .tail _ (.tail _ (.tail _ (.head _))) | exact .tail _ (.tail _ (.tail _ (.tail _ (.head _)))) | exact .tail _ (.tail _ (.tail _ (.tail _ (.tail _ (.head _))))) | exact .tail _ (.tail _ (.tail _ (.tail _ (.tail _ (.tail _ (.head _)))))) | exact .tail _ (.tail _ (.tail _ (.tail _ (.tail _ (.tail _ (.tail _ (.head _))))))) | exact .tail _ (.tail _ (.tail _ (.tail _ (.tail _ (.tail _ (.tail _ (.tail _ (.head _)))))))) | exact .tail _ (.tail _ (.tail _ (.tail _ (.tail _ (.tail _ (.tail _ (.tail _ (.tail _ (.head _)))))))))))
      have k5 := Lib.hid (ldx.out _ _ (w.heap.size + 1) R (by first | exact .head _ | exact .tail _ (.head _) | exact .tail _ (.tail _ (.head _)) | exact .tail _ (.tail _ (.tail _ (.head _))) | exact .tail _ (.tail _ (.tail _ (.tail _ (.head _)))) | exact .tail _ (.tail _ (.tail _ (.tail _ (.tail _ (.head _))))) | exact .tail _ (.tail _ (.tail _ (.tail _ (.tail _ (.tail _ (.head _)))))) | exact .tail _ (.tail _ (.tail _ (.tail _ (.tail _ (.tail _ (.tail _ (.head _))))))) | exact .tail _ (.tail _ (.tail _ (.tail _ (.tail _ (.tail _ (.tail _ (.tail _ (.head _)))))))) | exact .tail _ (.tail _ (.tail _ (.tail _ (.tail _ (.tail _ (.tail _ (.tail _ (.tail _ (.head _)))))))))))
      go_wp2_with (first
        | ((with_reducible refine wpList_loadV (op := ⟨some 92, _, _, _, _, _⟩) rfl 23 (.tmp 4) rfl _ ?_ _ k4.out ?_); rfl)
        | ((with_reducible refine wpList_loadV (op := ⟨some 93, _, _, _, _, _⟩) rfl 23 (.tmp 5) rfl _ ?_ _ k5.out ?_); rfl)
        | (go_at_call 6; (with_reducible refine (C6.out _).mono ?_); rintro e we ⟨rfl, hb1⟩; replace HB := HB.trans (hb1.mono HB.size); clear hb1))
      go_ret
      exact ⟨rfl, HBL.out.trans (HB.mono HBL.out.size)⟩
    · clear l4 l5 l9 l11 l13 C15 P1 P2 C7 C9 C11 C13 HB5
      go_upto_region 13 with fail
      have M4 : Hid (∀ W, Below wd.heap.size wd W → (loadVar 23 ⟨w.heap.size, 0, none⟩).run Try.prog W = .ok (.agg OA) W) := Lib.hid (fun W h => ldo.out W _ w.heap.size (R.below h) (by first | exact .head _ | exact .tail _ (.head _) | exact .tail _ (.tail _ (.head _)) | exact .tail _ (.tail _ (.tail _ (.head _))) | exact .tail _ (.tail _ (.tail _ (.tail _ (.head _)))) | exact .tail _ (.tail _ (.tail _ (.tail _ (.tail _ (.head _))))) | exact .tail _ (.tail _ (.tail _ (.tail _ (.tail _ (.tail _ (.head _)))))) | exact .tail _ (.tail _ (.tail _ (.tail _ (.tail _ (.tail _ (.tail _ (.head _))))))) | exact .tail _ (.tail _ (.tail _ (.tail _ (.tail _ (.tail _ (.tail _ (.tail _ (.head _)))))))) | exact .tail _ (.tail _ (.tail _ (.tail _ (.tail _ (.tail _ (.tail _ (.tail _ (.tail _ (.head _)))))))))))
      have hD13 := Lib.hid (fun W h => D13.out (by simp) wd W _ R (by first | exact .head _ | exact .tail _ (.head _) | exact .tail _ (.tail _ (.head _)) | exact .tail _ (.tail _ (.tail _ (.head _))) | exact .tail _ (.tail _ (.tail _ (.tail _ (.head _)))) | exact .tail _ (.tail _ (.tail _ (.tail _ (.tail _ (.head _))))) | exact .tail _ (.tail _ (.tail _ (.tail _ (.tail _ (.tail _ (.head _)))))) | exact .tail _ (.tail _ (.tail _ (.tail _ (.tail _ (.tail _ (.tail _ (.head _))))))) | exact .tail _ (.tail _ (.tail _ (.tail _ (.tail _ (.tail _ (.tail _ (.tail _ (.head _)))))))) | exact .tail _ (.tail _ (.tail _ (.tail _ (.tail _ (.tail _ (.tail _ (.tail _ (.tail _ (.head _)))))))))) h)
      have hNX := Lib.hid (fun W2 g h1 h2 h3 => NX.out wd W2 _ g Z R h1 h2 h3)
      have hS1 : Below wd.heap.size wd wd.drew := (Below.refl _ wd).drew
      refine wp_region_noPanic ?_
      refine wp_region_held_drew (S := fun w' => Below wd.heap.size wd w') (by kernel_rfl) hS1 (fun hHeld => ?_)
      refine takeH_at 0 99 (v := .agg OA) rfl rfl (by kernel_rfl) (by kernel_rfl) (by kernel_rfl) (fun _ _ _ h => h) (yieldsIf_loadS (by rfl) 23 (.tmp 4) rfl _ rfl _ M4.out) (by assumption) ?_
      simp only [Act.put, List.setIfInBounds_toArray, List.set_cons_zero, List.set_cons_succ]
      refine takeH_at 1 100 (v := ?_) rfl rfl (by kernel_rfl) (by kernel_rfl) (by kernel_rfl) (fun _ _ _ h => h) (Or.inl ⟨by rfl, ?_⟩) (by assumption) ?_
      rotate_left
      · (intro wx hSw; clear hSw; go_simp) <;> with_reducible rfl
      simp only [Act.put, List.setIfInBounds_toArray, List.set_cons_zero, List.set_cons_succ]
      refine takeH_at 2 101 (v := ?_) rfl rfl (by kernel_rfl) (by kernel_rfl) (by kernel_rfl) (fun _ _ _ h => h) (Or.inl ⟨by rfl, ?_⟩) (by assumption) ?_
      rotate_left
      · (intro wx hSw; clear hSw; go_simp) <;> with_reducible rfl
      simp only [Act.put, List.setIfInBounds_toArray, List.set_cons_zero, List.set_cons_succ]
      refine wpAnyH_ready (rs := [3, 7]) (by kernel_rfl) (by simp) (AllReadyH.cons rfl (fun K hK => ?_) (AllReadyH.cons rfl (fun K hK => ?_) AllReadyH.nil))
      · rw [if_pos (by rfl)]
        refine LooseR.wpD (S := fun w' => Below wd.heap.size wd w') (X := fun v _ => v = .tuple #[.agg XA, .bool true]) 102 rfl (looseR_call 13 rfl (enters_of Try.func13 (by kernel_rfl) rfl) _ (by simp only [List.map_toArray, List.map_cons, List.map_nil]; rfl) (hD13.out _ hHeld)) (fun u wa hSa hba hu => hK.out _ _ hSa (fun hHa => ?_))
        subst hu
        simp only [Act.put, List.setIfInBounds_toArray, List.set_cons_zero, List.set_cons_succ]
        refine takeH_at 4 98 (v := ?_) rfl rfl (by kernel_rfl) (by kernel_rfl) (by kernel_rfl) (fun _ _ _ h => h) (Or.inl ⟨by rfl, ?_⟩) (by assumption) ?_
        rotate_left
        · (intro wx hSw; clear hSw; go_simp) <;> with_reducible rfl
        simp only [Act.put, List.setIfInBounds_toArray, List.set_cons_zero, List.set_cons_succ]
        refine takeH_at 5 103 (v := ?_) rfl rfl (by kernel_rfl) (by kernel_rfl) (by kernel_rfl) (fun _ _ _ h => h) (Or.inl ⟨by rfl, ?_⟩) (by assumption) ?_
        rotate_left
        · (intro wx hSw; clear hSw; go_simp) <;> with_reducible rfl
        simp only [Act.put, List.setIfInBounds_toArray, List.set_cons_zero, List.set_cons_succ]
        refine takeH_at 6 104 (v := ?_) rfl rfl (by kernel_rfl) (by kernel_rfl) (by kernel_rfl) (fun _ _ _ h => h) (Or.inl ⟨by rfl, ?_⟩) (by assumption) ?_
        rotate_left
        · (intro wx hSw; clear hSw; go_simp) <;> with_reducible rfl
        simp only [Act.put, List.setIfInBounds_toArray, List.set_cons_zero, List.set_cons_succ]
        refine single 7 17 rfl rfl (by kernel_rfl) (by rfl) (fun v w' => v = .pointer (some ⟨wa.heap.size, 0, none⟩) ∧ w' = wa.alloc (.cells Z 23)) (looseR_alloc 23 rfl Z hz1 (hSa.alloc hSa.size _)) ?_
        intro u wz hSz hbz hu
        obtain ⟨rfl, rfl⟩ := hu
        simp only [Act.put, List.setIfInBounds_toArray, List.set_cons_zero, List.set_cons_succ]
        obtain ⟨r1, r2⟩ := hNX.out (wa.alloc (.cells Z 23)) wa.heap.size hSz hSa.size (heap_alloc_new wa _)
        refine single_store 8 rfl rfl (by kernel_rfl) (by rfl) 23 (.tmp 17) (.tmp 103) rfl wa.heap.size XA rfl rfl 23 Z (heap_alloc_new wa _) hIx.out hSx.out hTx.out r2 ?_
        refine takeH_at 9 18 (v := ?_) rfl rfl (by kernel_rfl) (by kernel_rfl) (by kernel_rfl) (fun _ _ _ h => h) (Or.inl ⟨by rfl, ?_⟩) (by assumption) ?_
        rotate_left
        · (intro wx hSw; clear hSw; go_simp) <;> with_reducible rfl
        simp only [Act.put, List.setIfInBounds_toArray, List.set_cons_zero, List.set_cons_succ]
        generalize wa.alloc (.cells Z 23) = wz at r1 r2 hSz ⊢
        generalize wa.heap.size = g17 at r1 r2 ⊢
        refine wpAnyH_done (by kernel_rfl) ?_ _
        refine NoPanic.normal ?_
        clear R hK K hHeld hS1 M4 hD13 hNX D13 NX
        have R := r1
        replace HB := HB.trans (r2.mono HB.size)
        clear r1 r2
        generalize wz.setRow g17 XA = W13 at R HB ⊢
        have k1 := Lib.hid (ldo.out _ _ w.heap.size R (by first | exact .head _ | exact .tail _ (.head _) | exact .tail _ (.tail _ (.head _)) | exact .tail _ (.tail _ (.tail _ (.head _))) | exact .tail _ (.tail _ (.tail _ (.tail _ (.head _)))) | exact .tail _ (.tail _ (.tail _ (.tail _ (.tail _ (.head _))))) | exact .tail _ (.tail _ (.tail _ (.tail _ (.tail _ (.tail _ (.head _)))))) | exact .tail _ (.tail _ (.tail _ (.tail _ (.tail _ (.tail _ (.tail _ (.head _))))))) | exact .tail _ (.tail _ (.tail _ (.tail _ (.tail _ (.tail _ (.tail _ (.tail _ (.head _)))))))) | exact .tail _ (.tail _ (.tail _ (.tail _ (.tail _ (.tail _ (.tail _ (.tail _ (.tail _ (.head _)))))))))))
        go_upto_region 15 with (first
          | ((with_reducible refine wpList_loadV (op := ⟨some 106, _, _, _, _, _⟩) rfl 23 (.tmp 4) rfl _ ?_ _ k1.out ?_); rfl)
          | (go_at_call 9; (with_reducible refine (D9.out _).mono ?_); rintro e w14 ⟨rfl, hb1⟩; replace R := R.below hb1; replace HB := HB.trans (hb1.mono HB.size); clear hb1)
          | ((with_reducible refine wpList_store_row rfl 23 (.tmp 19) (.tmp 109) rfl w14.heap.size YL ?_ ?_ 23 Z (heap_alloc_new w14 _) hIyl.out hSyl.out hTyl.out ?_); rfl; rfl))
        clear k1
        replace R := Nyl.out _ _ R Z 23
        replace HB := HB.trans ((below_new (W := w14) Z YL 23).mono HB.size)
        generalize (w14.alloc (.cells Z 23)).setRow w14.heap.size YL = W14 at R HB ⊢
        generalize w14.heap.size = g19 at R HB ⊢
        have k1 := Lib.hid (ldo.out _ _ w.heap.size R (by first | exact .head _ | exact .tail _ (.head _) | exact .tail _ (.tail _ (.head _)) | exact .tail _ (.tail _ (.tail _ (.head _))) | exact .tail _ (.tail _ (.tail _ (.tail _ (.head _)))) | exact .tail _ (.tail _ (.tail _ (.tail _ (.tail _ (.head _))))) | exact .tail _ (.tail _ (.tail _ (.tail _ (.tail _ (.tail _ (.head _)))))) | exact .tail _ (.tail _ (.tail _ (.tail _ (.tail _ (.tail _ (.tail _ (.head _))))))) | exact .tail _ (.tail _ (.tail _ (.tail _ (.tail _ (.tail _ (.tail _ (.tail _ (.head _)))))))) | exact .tail _ (.tail _ (.tail _ (.tail _ (.tail _ (.tail _ (.tail _ (.tail _ (.tail _ (.head _)))))))))))
        go_upto_region 16 with (first
          | ((with_reducible refine wpList_loadV (op := ⟨some 112, _, _, _, _, _⟩) rfl 23 (.tmp 4) rfl _ ?_ _ k1.out ?_); rfl)
          | (go_at_call 11; (with_reducible refine (D11.out _).mono ?_); rintro e w15 ⟨rfl, hb1⟩; replace R := R.below hb1; replace HB := HB.trans (hb1.mono HB.size); clear hb1)
          | ((with_reducible refine wpList_store_row rfl 23 (.tmp 21) (.tmp 115) rfl w15.heap.size YH ?_ ?_ 23 Z (heap_alloc_new w15 _) hIyh.out hSyh.out hTyh.out ?_); rfl; rfl))
        clear k1
        replace R := Nyh.out _ _ R Z 23
        replace HB := HB.trans ((below_new (W := w15) Z YH 23).mono HB.size)
        generalize (w15.alloc (.cells Z 23)).setRow w15.heap.size YH = W15 at R HB ⊢
        generalize w15.heap.size = g21 at R HB ⊢
        have m17 : Hid (∀ W, Below W15.heap.size W15 W → (loadVar 23 ⟨g17, 0, none⟩).run Try.prog W = .ok (.agg XA) W) := Lib.hid (fun W h => ldx.out W _ g17 (R.below h) (by first | exact .head _ | exact .tail _ (.head _) | exact .tail _ (.tail _ (.head _)) | exact .tail _ (.tail _ (.tail _ (.head _))) | exact .tail _ (.tail _ (.tail _ (.tail _ (.head _)))) | exact .tail _ (.tail _ (.tail _ (.tail _ (.tail _ (.head _))))) | exact .tail _ (.tail _ (.tail _ (.tail _ (.tail _ (.tail _ (.head _)))))) | exact .tail _ (.tail _ (.tail _ (.tail _ (.tail _ (.tail _ (.tail _ (.head _))))))) | exact .tail _ (.tail _ (.tail _ (.tail _ (.tail _ (.tail _ (.tail _ (.tail _ (.head _)))))))) | exact .tail _ (.tail _ (.tail _ (.tail _ (.tail _ (.tail _ (.tail _ (.tail _ (.tail _ (.head _)))))))))))
        have m5 : Hid (∀ W, Below W15.heap.size W15 W → (loadVar 23 ⟨(w.heap.size + 1), 0, none⟩).run Try.prog W = .ok (.agg XA) W) := Lib.hid (fun W h => ldx.out W _ (w.heap.size + 1) (R.below h) (by first | exact .head _ | exact .tail _ (.head _) | exact .tail _ (.tail _ (.head _)) | exact .tail _ (.tail _ (.tail _ (.head _))) | exact .tail _ (.tail _ (.tail _ (.tail _ (.head _)))) | exact .tail _ (.tail _ (.tail _ (.tail _ (.tail _ (.head _))))) | exact .tail _ (.tail _ (.tail _ (.tail _ (.tail _ (.tail _ (.head _)))))) | exact .tail _ (.tail _ (.tail _ (.tail _ (.tail _ (.tail _ (.tail _ (.head _))))))) | exact .tail _ (.tail _ (.tail _ (.tail _ (.tail _ (.tail _ (.tail _ (.tail _ (.head _)))))))) | exact .tail _ (.tail _ (.tail _ (.tail _ (.tail _ (.tail _ (.tail _ (.tail _ (.tail _ (.head _)))))))))))
        have m19 : Hid (∀ W, Below W15.heap.size W15 W → (loadVar 23 ⟨g19, 0, none⟩).run Try.prog W = .ok (.agg YL) W) := Lib.hid (fun W h => ldyl.out W _ g19 (R.below h) (by first | exact .head _ | exact .tail _ (.head _) | exact .tail _ (.tail _ (.head _)) | exact .tail _ (.tail _ (.tail _ (.head _))) | exact .tail _ (.tail _ (.tail _ (.tail _ (.head _)))) | exact .tail _ (.tail _ (.tail _ (.tail _ (.tail _ (.head _))))) | exact .tail _ (.tail _ (.tail _ (.tail _ (.tail _ (.tail _ (.head _)))))) | exact .tail _ (.tail _ (.tail _ (.tail _ (.tail _ (.tail _ (.tail _ (.head _))))))) | exact .tail _ (.tail _ (.tail _ (.tail _ (.tail _ (.tail _ (.tail _ (.tail _ (.head _)))))))) | exact .tail _ (.tail _ (.tail _ (.tail _ (.tail _ (.tail _ (.tail _ (.tail _ (.tail _ (.head _)))))))))))
        have m21 : Hid (∀ W, Below W15.heap.size W15 W → (loadVar 23 ⟨g21, 0, none⟩).run Try.prog W = .ok (.agg YH) W) := Lib.hid (fun W h => ldyh.out W _ g21 (R.below h) (by first | exact .head _ | exact .tail _ (.head _) | exact .tail _ (.tail _ (.head _)) | exact .tail _ (.tail _ (.tail _ (.head _))) | exact .tail _ (.tail _ (.tail _ (.tail _ (.head _)))) | exact .tail _ (.tail _ (.tail _ (.tail _ (.tail _ (.head _))))) | exact .tail _ (.tail _ (.tail _ (.tail _ (.tail _ (.tail _ (.head _)))))) | exact .tail _ (.tail _ (.tail _ (.tail _ (.tail _ (.tail _ (.tail _ (.head _))))))) | exact .tail _ (.tail _ (.tail _ (.tail _ (.tail _ (.tail _ (.tail _ (.tail _ (.head _)))))))) | exact .tail _ (.tail _ (.tail _ (.tail _ (.tail _ (.tail _ (.tail _ (.tail _ (.tail _ (.head _)))))))))))
        have HB6 : Below W15.heap.size W15 W15 := Below.refl _ _
        go_wp2_with (first
          | ((with_reducible refine wpList_valG (op := ⟨some 127, _, _, _, _, _⟩) rfl (.bool true) ?_ ?_); (go_simp; simp [hc3]))
          | ((with_reducible refine wpList_valG (op := ⟨some 133, _, _, _, _, _⟩) rfl (.bool true) ?_ ?_); (go_simp; simp [hc4]))
          | ((with_reducible refine wpList_loadG (op := ⟨some 119, _, _, _, _, _⟩) rfl 23 (.tmp 17) rfl _ ?_ _ (m17.out _ HB6) ?_); rfl)
          | ((with_reducible refine wpList_loadG (op := ⟨some 120, _, _, _, _, _⟩) rfl 23 (.tmp 5) rfl _ ?_ _ (m5.out _ HB6) ?_); rfl)
          | ((with_reducible refine wpList_loadG (op := ⟨some 124, _, _, _, _, _⟩) rfl 23 (.tmp 19) rfl _ ?_ _ (m19.out _ HB6) ?_); rfl)
          | ((with_reducible refine wpList_loadG (op := ⟨some 125, _, _, _, _, _⟩) rfl 23 (.tmp 5) rfl _ ?_ _ (m5.out _ HB6) ?_); rfl)
          | ((with_reducible refine wpList_loadG (op := ⟨some 130, _, _, _, _, _⟩) rfl 23 (.tmp 5) rfl _ ?_ _ (m5.out _ HB6) ?_); rfl)
          | ((with_reducible refine wpList_loadG (op := ⟨some 131, _, _, _, _, _⟩) rfl 23 (.tmp 21) rfl _ ?_ _ (m21.out _ HB6) ?_); rfl)
          | (go_at_call 20; (with_reducible refine (P3.out _).mono ?_); rintro e wp ⟨rfl, hb1⟩; replace HB6 := HB6.trans (hb1.mono HB6.size); clear hb1)
          | (go_at_call 20; (with_reducible refine (P4.out _).mono ?_); rintro e wq ⟨rfl, hb1⟩; replace HB6 := HB6.trans (hb1.mono HB6.size); clear hb1)
          | (go_at_call 6; (with_reducible refine (C6.out _).mono ?_); rintro e ws ⟨rfl, hb1⟩; replace HB6 := HB6.trans (hb1.mono HB6.size); clear hb1))
        go_ret
        exact ⟨rfl, HBL.out.trans ((HB.trans (HB6.mono HB.size)).mono HBL.out.size)⟩
      · rw [if_pos (by rfl)]
        refine LooseR.wpD (S := fun w' => Below wd.heap.size wd w') 17 rfl (looseR_alloc 23 rfl Z hz1 (hHeld.alloc hHeld.size _)) (fun u wa hSa hba hu => hK.out _ _ hSa (fun hHa => ?_))
        obtain ⟨rfl, hwa⟩ := hu
        have hrow : wa.heap[wd.drew.heap.size]? = some (.cells Z 23 (0, 0)) := by rw [hwa]; exact heap_alloc_new _ _
        simp only [Act.put, List.setIfInBounds_toArray, List.set_cons_zero, List.set_cons_succ]
        refine single 3 102 rfl rfl (by kernel_rfl) (by rfl) (fun v _ => v = .tuple #[.agg XA, .bool true]) (looseR_call 13 rfl (enters_of Try.func13 (by kernel_rfl) rfl) _ (by simp only [List.map_toArray, List.map_cons, List.map_nil]; rfl) (hD13.out _ hSa)) ?_
        intro u wz hSz hbz hu
        subst hu
        simp only [Act.put, List.setIfInBounds_toArray, List.set_cons_zero, List.set_cons_succ]
        refine takeH_at 4 98 (v := ?_) rfl rfl (by kernel_rfl) (by kernel_rfl) (by kernel_rfl) (fun _ _ _ h => h) (Or.inl ⟨by rfl, ?_⟩) (by assumption) ?_
        rotate_left
        · (intro wx hSw; clear hSw; go_simp) <;> with_reducible rfl
        simp only [Act.put, List.setIfInBounds_toArray, List.set_cons_zero, List.set_cons_succ]
        refine takeH_at 5 103 (v := ?_) rfl rfl (by kernel_rfl) (by kernel_rfl) (by kernel_rfl) (fun _ _ _ h => h) (Or.inl ⟨by rfl, ?_⟩) (by assumption) ?_
        rotate_left
        · (intro wx hSw; clear hSw; go_simp) <;> with_reducible rfl
        simp only [Act.put, List.setIfInBounds_toArray, List.set_cons_zero, List.set_cons_succ]
        refine takeH_at 6 104 (v := ?_) rfl rfl (by kernel_rfl) (by kernel_rfl) (by kernel_rfl) (fun _ _ _ h => h) (Or.inl ⟨by rfl, ?_⟩) (by assumption) ?_
        rotate_left
        · (intro wx hSw; clear hSw; go_simp) <;> with_reducible rfl
        simp only [Act.put, List.setIfInBounds_toArray, List.set_cons_zero, List.set_cons_succ]
        have hrz := (hbz.block _ (Array.getElem?_eq_some_iff.1 hrow).1).trans hrow
        obtain ⟨r1, r2⟩ := hNX.out wz wd.drew.heap.size hSz (Nat.le_refl _) hrz
        refine single_store 8 rfl rfl (by kernel_rfl) (by rfl) 23 (.tmp 17) (.tmp 103) rfl wd.drew.heap.size XA rfl rfl 23 Z hrz hIx.out hSx.out hTx.out r2 ?_
        refine takeH_at 9 18 (v := ?_) rfl rfl (by kernel_rfl) (by kernel_rfl) (by kernel_rfl) (fun _ _ _ h => h) (Or.inl ⟨by rfl, ?_⟩) (by assumption) ?_
        rotate_left
        · (intro wx hSw; clear hSw; go_simp) <;> with_reducible rfl
        simp only [Act.put, List.setIfInBounds_toArray, List.set_cons_zero, List.set_cons_succ]
        generalize wd.drew.heap.size = g17 at r1 r2 hrz ⊢
        refine wpAnyH_done (by kernel_rfl) ?_ _
        refine NoPanic.normal ?_
        clear R hK K hHeld hS1 M4 hD13 hNX D13 NX
        have R := r1
        replace HB := HB.trans (r2.mono HB.size)
        clear r1 r2
        generalize wz.setRow g17 XA = W13 at R HB ⊢
        have k1 := Lib.hid (ldo.out _ _ w.heap.size R (by first | exact .head _ | exact .tail _ (.head _) | exact .tail _ (.tail _ (.head _)) | exact .tail _ (.tail _ (.tail _ (.head _))) | exact .tail _ (.tail _ (.tail _ (.tail _ (.head _)))) | exact .tail _ (.tail _ (.tail _ (.tail _ (.tail _ (.head _))))) | exact .tail _ (.tail _ (.tail _ (.tail _ (.tail _ (.tail _ (.head _)))))) | exact .tail _ (.tail _ (.tail _ (.tail _ (.tail _ (.tail _ (.tail _ (.head _))))))) | exact .tail _ (.tail _ (.tail _ (.tail _ (.tail _ (.tail _ (.tail _ (.tail _ (.head _)))))))) | exact .tail _ (.tail _ (.tail _ (.tail _ (.tail _ (.tail _ (.tail _ (.tail _ (.tail _ (.head _)))))))))))
        go_upto_region 15 with (first
          | ((with_reducible refine wpList_loadV (op := ⟨some 106, _, _, _, _, _⟩) rfl 23 (.tmp 4) rfl _ ?_ _ k1.out ?_); rfl)
          | (go_at_call 9; (with_reducible refine (D9.out _).mono ?_); rintro e w14 ⟨rfl, hb1⟩; replace R := R.below hb1; replace HB := HB.trans (hb1.mono HB.size); clear hb1)
          | ((with_reducible refine wpList_store_row rfl 23 (.tmp 19) (.tmp 109) rfl w14.heap.size YL ?_ ?_ 23 Z (heap_alloc_new w14 _) hIyl.out hSyl.out hTyl.out ?_); rfl; rfl))
        clear k1
        replace R := Nyl.out _ _ R Z 23
        replace HB := HB.trans ((below_new (W := w14) Z YL 23).mono HB.size)
        generalize (w14.alloc (.cells Z 23)).setRow w14.heap.size YL = W14 at R HB ⊢
        generalize w14.heap.size = g19 at R HB ⊢
        have k1 := Lib.hid (ldo.out _ _ w.heap.size R (by first | exact .head _ | exact .tail _ (.head _) | exact .tail _ (.tail _ (.head _)) | exact .tail _ (.tail _ (.tail _ (.head _))) | exact .tail _ (.tail _ (.tail _ (.tail _ (.head _)))) | exact .tail _ (.tail _ (.tail _ (.tail _ (.tail _ (.head _))))) | exact .tail _ (.tail _ (.tail _ (.tail _ (.tail _ (.tail _ (.head _)))))) | exact .tail _ (.tail _ (.tail _ (.tail _ (.tail _ (.tail _ (.tail _ (.head _))))))) | exact .tail _ (.tail _ (.tail _ (.tail _ (.tail _ (.tail _ (.tail _ (.tail _ (.head _)))))))) | exact .tail _ (.tail _ (.tail _ (.tail _ (.tail _ (.tail _ (.tail _ (.tail _ (.tail _ (.head _)))))))))))
        go_upto_region 16 with (first
          | ((with_reducible refine wpList_loadV (op := ⟨some 112, _, _, _, _, _⟩) rfl 23 (.tmp 4) rfl _ ?_ _ k1.out ?_); rfl)
          | (go_at_call 11; (with_reducible refine (D11.out _).mono ?_); rintro e w15 ⟨rfl, hb1⟩; replace R := R.below hb1; replace HB := HB.trans (hb1.mono HB.size); clear hb1)
          | ((with_reducible refine wpList_store_row rfl 23 (.tmp 21) (.tmp 115) rfl w15.heap.size YH ?_ ?_ 23 Z (heap_alloc_new w15 _) hIyh.out hSyh.out hTyh.out ?_); rfl; rfl))
        clear k1
        replace R := Nyh.out _ _ R Z 23
        replace HB := HB.trans ((below_new (W := w15) Z YH 23).mono HB.size)
        generalize (w15.alloc (.cells Z 23)).setRow w15.heap.size YH = W15 at R HB ⊢
        generalize w15.heap.size = g21 at R HB ⊢
        have m17 : Hid (∀ W, Below W15.heap.size W15 W → (loadVar 23 ⟨g17, 0, none⟩).run Try.prog W = .ok (.agg XA) W) := Lib.hid (fun W h => ldx.out W _ g17 (R.below h) (by first | exact .head _ | exact .tail _ (.head _) | exact .tail _ (.tail _ (.head _)) | exact .tail _ (.tail _ (.tail _ (.head _))) | exact .tail _ (.tail _ (.tail _ (.tail _ (.head _)))) | exact .tail _ (.tail _ (.tail _ (.tail _ (.tail _ (.head _))))) | exact .tail _ (.tail _ (.tail _ (.tail _ (.tail _ (.tail _ (.head _)))))) | exact .tail _ (.tail _ (.tail _ (.tail _ (.tail _ (.tail _ (.tail _ (.head _))))))) | exact .tail _ (.tail _ (.tail _ (.tail _ (.tail _ (.tail _ (.tail _ (.tail _ (.head _)))))))) | exact .tail _ (.tail _ (.tail _ (.tail _ (.tail _ (.tail _ (.tail _ (.tail _ (.tail _ (.head _)))))))))))
        have m5 : Hid (∀ W, Below W15.heap.size W15 W → (loadVar 23 ⟨(w.heap.size + 1), 0, none⟩).run Try.prog W = .ok (.agg XA) W) := Lib.hid (fun W h => ldx.out W _ (w.heap.size + 1) (R.below h) (by first | exact .head _ | exact .tail _ (.head _) | exact .tail _ (.tail _ (.head _)) | exact .tail _ (.tail _ (.tail _ (.head _))) | exact .tail _ (.tail _ (.tail _ (.tail _ (.head _)))) | exact .tail _ (.tail _ (.tail _ (.tail _ (.tail _ (.head _))))) | exact .tail _ (.tail _ (.tail _ (.tail _ (.tail _ (.tail _ (.head _)))))) | exact .tail _ (.tail _ (.tail _ (.tail _ (.tail _ (.tail _ (.tail _ (.head _))))))) | exact .tail _ (.tail _ (.tail _ (.tail _ (.tail _ (.tail _ (.tail _ (.tail _ (.head _)))))))) | exact .tail _ (.tail _ (.tail _ (.tail _ (.tail _ (.tail _ (.tail _ (.tail _ (.tail _ (.head _)))))))))))
        have m19 : Hid (∀ W, Below W15.heap.size W15 W → (loadVar 23 ⟨g19, 0, none⟩).run Try.prog W = .ok (.agg YL) W) := Lib.hid (fun W h => ldyl.out W _ g19 (R.below h) (by first | exact .head _ | exact .tail _ (.head _) | exact .tail _ (.tail _ (.head _)) | exact .tail _ (.tail _ (.tail _ (.head _))) | exact .tail _ (.tail _ (.tail _ (.tail _ (.head _)))) | exact .tail _ (.tail _ (.tail _ (.tail _ (.tail _ (.head _))))) | exact .tail _ (.tail _ (.tail _ (.tail _ (.tail _ (.tail _ (.head _)))))) | exact .tail _ (.tail _ (.tail _ (.tail _ (.tail _ (.tail _ (.tail _ (.head _))))))) | exact .tail _ (.tail _ (.tail _ (.tail _ (.tail _ (.tail _ (.tail _ (.tail _ (.head _)))))))) | exact .tail _ (.tail _ (.tail _ (.tail _ (.tail _ (.tail _ (.tail _ (.tail _ (.tail _ (.head _)))))))))))
        have m21 : Hid (∀ W, Below W15.heap.size W15 W → (loadVar 23 ⟨g21, 0, none⟩).run Try.prog W = .ok (.agg YH) W) := Lib.hid (fun W h => ldyh.out W _ g21 (R.below h) (by first | exact .head _ | exact .tail _ (.head _) | exact .tail _ (.tail _ (.head _)) | exact .tail _ (.tail _ (.tail _ (.head _))) | exact .tail _ (.tail _ (.tail _ (.tail _ (.head _)))) | exact .tail _ (.tail _ (.tail _ (.tail _ (.tail _ (.head _))))) | exact .tail _ (.tail _ (.tail _ (.tail _ (.tail _ (.tail _ (.head _)))))) | exact .tail _ (.tail _ (.tail _ (.tail _ (.tail _ (.tail _ (.tail _ (.head _))))))) | exact .tail _ (.tail _ (.tail _ (.tail _ (.tail _ (.tail _ (.tail _ (.tail _ (.head _)))))))) | exact .tail _ (.tail _ (.tail _ (.tail _ (.tail _ (.tail _ (.tail _ (.tail _ (.tail _ (.head _)))))))))))
        have HB6 : Below W15.heap.size W15 W15 := Below.refl _ _
        go_wp2_with (first
          | ((with_reducible refine wpList_valG (op := ⟨some 127, _, _, _, _, _⟩) rfl (.bool true) ?_ ?_); (go_simp; simp [hc3]))
          | ((with_reducible refine wpList_valG (op := ⟨some 133, _, _, _, _, _⟩) rfl (.bool true) ?_ ?_); (go_simp; simp [hc4]))
          | ((with_reducible refine wpList_loadG (op := ⟨some 119, _, _, _, _, _⟩) rfl 23 (.tmp 17) rfl _ ?_ _ (m17.out _ HB6) ?_); rfl)
          | ((with_reducible refine wpList_loadG (op := ⟨some 120, _, _, _, _, _⟩) rfl 23 (.tmp 5) rfl _ ?_ _ (m5.out _ HB6) ?_); rfl)
          | ((with_reducible refine wpList_loadG (op := ⟨some 124, _, _, _, _, _⟩) rfl 23 (.tmp 19) rfl _ ?_ _ (m19.out _ HB6) ?_); rfl)
          | ((with_reducible refine wpList_loadG (op := ⟨some 125, _, _, _, _, _⟩) rfl 23 (.tmp 5) rfl _ ?_ _ (m5.out _ HB6) ?_); rfl)
          | ((with_reducible refine wpList_loadG (op := ⟨some 130, _, _, _, _, _⟩) rfl 23 (.tmp 5) rfl _ ?_ _ (m5.out _ HB6) ?_); rfl)
          | ((with_reducible refine wpList_loadG (op := ⟨some 131, _, _, _, _, _⟩) rfl 23 (.tmp 21) rfl _ ?_ _ (m21.out _ HB6) ?_); rfl)
          | (go_at_call 20; (with_reducible refine (P3.out _).mono ?_); rintro e wp ⟨rfl, hb1⟩; replace HB6 := HB6.trans (hb1.mono HB6.size); clear hb1)
          | (go_at_call 20; (with_reducible refine (P4.out _).mono ?_); rintro e wq ⟨rfl, hb1⟩; replace HB6 := HB6.trans (hb1.mono HB6.size); clear hb1)
          | (go_at_call 6; (with_reducible refine (C6.out _).mono ?_); rintro e ws ⟨rfl, hb1⟩; replace HB6 := HB6.trans (hb1.mono HB6.size); clear hb1))
        go_ret
        exact ⟨rfl, HBL.out.trans ((HB.trans (HB6.mono HB.size)).mono HBL.out.size)⟩
  · go_upto_region 11 with (first
      | ((with_reducible refine wpList_loadG (op := ⟨some 66, _, _, _, _, _⟩) rfl 23 (.tmp 4) rfl _ ?_ _ (l4.out _ HB5) ?_); rfl)
      | ((with_reducible refine wpList_loadG (op := ⟨some 68, _, _, _, _, _⟩) rfl 23 (.tmp 9) rfl _ ?_ _ (l9.out _ HB5) ?_); rfl)
      | ((with_reducible refine wpList_loadG (op := ⟨some 72, _, _, _, _, _⟩) rfl 23 (.tmp 11) rfl _ ?_ _ (l11.out _ HB5) ?_); rfl)
      | ((with_reducible refine wpList_loadG (op := ⟨some 73, _, _, _, _, _⟩) rfl 23 (.tmp 9) rfl _ ?_ _ (l9.out _ HB5) ?_); rfl)
      | ((with_reducible refine wpList_loadG (op := ⟨some 78, _, _, _, _, _⟩) rfl 23 (.tmp 9) rfl _ ?_ _ (l9.out _ HB5) ?_); rfl)
      | ((with_reducible refine wpList_loadG (op := ⟨some 79, _, _, _, _, _⟩) rfl 23 (.tmp 13) rfl _ ?_ _ (l13.out _ HB5) ?_); rfl)
      | ((with_reducible refine wpList_loadV (op := ⟨some 85, _, _, _, _, _⟩) rfl 23 (.tmp 4) rfl _ ?_ _ (l4.out _ HB5) ?_); rfl)
      | ((with_reducible refine wpList_loadV (op := ⟨some 86, _, _, _, _, _⟩) rfl 23 (.tmp 5) rfl _ ?_ _ (l5.out _ HB5) ?_); rfl)
      | (go_at_call 15; (with_reducible refine (C15.out _).mono ?_); rintro e wa ⟨rfl, hb1⟩; replace HB5 := HB5.trans (hb1.mono HB5.size); clear hb1)
      | (go_at_call 20; (with_reducible refine (P1.out _).mono ?_); rintro e wb ⟨rfl, hb1⟩; replace HB5 := HB5.trans (hb1.mono HB5.size); clear hb1)
      | (go_at_call 20; (with_reducible refine (P2.out _).mono ?_); rintro e wc ⟨rfl, hb1⟩; replace HB5 := HB5.trans (hb1.mono HB5.size); clear hb1)
      | (go_at_call 7; (with_reducible refine (C7.out _).mono ?_); rintro e wd ⟨rfl, hb1⟩; replace HB5 := HB5.trans (hb1.mono HB5.size); clear hb1))
    replace R := R.below HB5
    replace HB := HB.trans (HB5.mono HB.size)
    rcases HNX.out with ⟨rfl, rfl⟩ | ⟨rfl, hc3, hc4⟩
    · have k4 := Lib.hid (ldo.out _ _ w.heap.size R (by first | exact .head _ | exact .tail _ (.head _) | exact .tail _ (.tail _ (.head _)) | exact .tail _ (.tail _ (.tail _ (.head _))) | exact .tail _ (.tail _ (.tail _ (.tail _ (.head _)))) | exact .tail _ (.tail _ (.tail _ (.tail _ (.tail _ (.head _))))) | exact .tail _ (.tail _ (.tail _ (.tail _ (.tail _ (.tail _ (.head _)))))) | exact .tail _ (.tail _ (.tail _ (.tail _ (.tail _ (.tail _ (.tail _ (.head _))))))) | exact .tail _ (.tail _ (.tail _ (.tail _ (.tail _ (.tail _ (.tail _ (.tail _ (.head _)))))))) | exact .tail _ (.tail _ (.tail _ (.tail _ (.tail _ (.tail _ (.tail _ (.tail _ (.tail _ (.head _)))))))))))
      have k5 := Lib.hid (ldx.out _ _ (w.heap.size + 1) R (by first | exact .head _ | exact .tail _ (.head _) | exact .tail _ (.tail _ (.head _)) | exact .tail _ (.tail _ (.tail _ (.head _))) | exact .tail _ (.tail _ (.tail _ (.tail _ (.head _)))) | exact .tail _ (.tail _ (.tail _ (.tail _ (.tail _ (.head _))))) | exact .tail _ (.tail _ (.tail _ (.tail _ (.tail _ (.tail _ (.head _)))))) | exact .tail _ (.tail _ (.tail _ (.tail _ (.tail _ (.tail _ (.tail _ (.head _))))))) | exact .tail _ (.tail _ (.tail _ (.tail _ (.tail _ (.tail _ (.tail _ (.tail _ (.head _)))))))) | exact .tail _ (.tail _ (.tail _ (.tail _ (.tail _ (.tail _ (.tail _ (.tail _ (.tail _ (.head _)))))))))))
      go_wp2_with (first
        | ((with_reducible refine wpList_loadV (op := ⟨some 92, _, _, _, _, _⟩) rfl 23 (.tmp 4) rfl _ ?_ _ k4.out ?_); rfl)
        | ((with_reducible refine wpList_loadV (op := ⟨some 93, _, _, _, _, _⟩) rfl 23 (.tmp 5) rfl _ ?_ _ k5.out ?_); rfl)
        | (go_at_call 6; (with_reducible refine (C6.out _).mono ?_); rintro e we ⟨rfl, hb1⟩; replace HB := HB.trans (hb1.mono HB.size); clear hb1))
      go_ret
      exact ⟨rfl, HBL.out.trans (HB.mono HBL.out.size)⟩
    · clear l4 l5 l9 l11 l13 C15 P1 P2 C7 C9 C11 C13 HB5
      go_upto_region 13 with fail
      have M4 : Hid (∀ W, Below wd.heap.size wd W → (loadVar 23 ⟨w.heap.size, 0, none⟩).run Try.prog W = .ok (.agg OA) W) := Lib.hid (fun W h => ldo.out W _ w.heap.size (R.below h) (by first | exact .head _ | exact .tail _ (.head _) | exact .tail _ (.tail _ (.head _)) | exact .tail _ (.tail _ (.tail _ (.head _))) | exact .tail _ (.tail _ (.tail _ (.tail _ (.head _)))) | exact .tail _ (.tail _ (.tail _ (.tail _ (.tail _ (.head _))))) | exact .tail _ (.tail _ (.tail _ (.tail _ (.tail _ (.tail _ (.head _)))))) | exact .tail _ (.tail _ (.tail _ (.tail _ (.tail _ (.tail _ (.tail _ (.head _))))))) | exact .tail _ (.tail _ (.tail _ (.tail _ (.tail _ (.tail _ (.tail _ (.tail _ (.head _)))))))) | exact .tail _ (.tail _ (.tail _ (.tail _ (.tail _ (.tail _ (.tail _ (.tail _ (.tail _ (.head _)))))))))))
      have hD13 := Lib.hid (fun W h => D13.out (by simp) wd W _ R (by first | exact .head _ | exact .tail _ (.head _) | exact .tail _ (.tail _ (.head _)) | exact .tail _ (.tail _ (.tail _ (.head _))) | exact .tail _ (.tail _ (.tail _ (.tail _ (.head _)))) | exact .tail _ (.tail _ (.tail _ (.tail _ (.tail _ (.head _))))) | exact .tail _ (.tail _ (.tail _ (.tail _ (.tail _ (.tail _ (.head _)))))) | exact .tail _ (.tail _ (.tail _ (.tail _ (.tail _ (.tail _ (.tail _ (.head _))))))) | exact .tail _ (.tail _ (.tail _ (.tail _ (.tail _ (.tail _ (.tail _ (.tail _ (.head _)))))))) | exact .tail _ (.tail _ (.tail _ (.tail _ (.tail _ (.tail _ (.tail _ (.tail _ (.tail _ (.head _)))))))))) h)
      have hNX := Lib.hid (fun W2 g h1 h2 h3 => NX.out wd W2 _ g Z R h1 h2 h3)
      have hS1 : Below wd.heap.size wd wd.drew := (Below.refl _ wd).drew
      refine wp_region_noPanic ?_
      refine wp_region_held_drew (S := fun w' => Below wd.heap.size wd w') (by kernel_rfl) hS1 (fun hHeld => ?_)
      refine takeH_at 0 99 (v := .agg OA) rfl rfl (by kernel_rfl) (by kernel_rfl) (by kernel_rfl) (fun _ _ _ h => h) (yieldsIf_loadS (by rfl) 23 (.tmp 4) rfl _ rfl _ M4.out) (by assumption) ?_
      simp only [Act.put, List.setIfInBounds_toArray, List.set_cons_zero, List.set_cons_succ]
      refine takeH_at 1 100 (v := ?_) rfl rfl (by kernel_rfl) (by kernel_rfl) (by kernel_rfl) (fun _ _ _ h => h) (Or.inl ⟨by rfl, ?_⟩) (by assumption) ?_
      rotate_left
      · (intro wx hSw; clear hSw; go_simp) <;> with_reducible rfl
      simp only [Act.put, List.setIfInBounds_toArray, List.set_cons_zero, List.set_cons_succ]
      refine takeH_at 2 101 (v := ?_) rfl rfl (by kernel_rfl) (by kernel_rfl) (by kernel_rfl) (fun _ _ _ h => h) (Or.inl ⟨by rfl, ?_⟩) (by assumption) ?_
      rotate_left
      · (intro wx hSw; clear hSw; go_simp) <;> with_reducible rfl
      simp only [Act.put, List.setIfInBounds_toArray, List.set_cons_zero, List.set_cons_succ]
      refine wpAnyH_ready (rs := [3, 7]) (by kernel_rfl) (by simp) (AllReadyH.cons rfl (fun K hK => ?_) (AllReadyH.cons rfl (fun K hK => ?_) AllReadyH.nil))
      · rw [if_pos (by rfl)]
        refine LooseR.wpD (S := fun w' => Below wd.heap.size wd w') (X := fun v _ => v = .tuple #[.agg XA, .bool true]) 102 rfl (looseR_call 13 rfl (enters_of Try.func13 (by kernel_rfl) rfl) _ (by simp only [List.map_toArray, List.map_cons, List.map_nil]; rfl) (hD13.out _ hHeld)) (fun u wa hSa hba hu => hK.out _ _ hSa (fun hHa => ?_))
        subst hu
        simp only [Act.put, List.setIfInBounds_toArray, List.set_cons_zero, List.set_cons_succ]
        refine takeH_at 4 98 (v := ?_) rfl rfl (by kernel_rfl) (by kernel_rfl) (by kernel_rfl) (fun _ _ _ h => h) (Or.inl ⟨by rfl, ?_⟩) (by assumption) ?_
        rotate_left
        · (intro wx hSw; clear hSw; go_simp) <;> with_reducible rfl
        simp only [Act.put, List.setIfInBounds_toArray, List.set_cons_zero, List.set_cons_succ]
        refine takeH_at 5 103 (v := ?_) rfl rfl (by kernel_rfl) (by kernel_rfl) (by kernel_rfl) (fun _ _ _ h => h) (Or.inl ⟨by rfl, ?_⟩) (by assumption) ?_
        rotate_left
        · (intro wx hSw; clear hSw; go_simp) <;> with_reducible rfl
        simp only [Act.put, List.setIfInBounds_toArray, List.set_cons_zero, List.set_cons_succ]
        refine takeH_at 6 104 (v := ?_) rfl rfl (by kernel_rfl) (by kernel_rfl) (by kernel_rfl) (fun _ _ _ h => h) (Or.inl ⟨by rfl, ?_⟩) (by assumption) ?_
        rotate_left
        · (intro wx hSw; clear hSw; go_simp) <;> with_reducible rfl
        simp only [Act.put, List.setIfInBounds_toArray, List.set_cons_zero, List.set_cons_succ]
        refine single 7 17 rfl rfl (by kernel_rfl) (by rfl) (fun v w' => v = .pointer (some ⟨wa.heap.size, 0, none⟩) ∧ w' = wa.alloc (.cells Z 23)) (looseR_alloc 23 rfl Z hz1 (hSa.alloc hSa.size _)) ?_
        intro u wz hSz hbz hu
        obtain ⟨rfl, rfl⟩ := hu
        simp only [Act.put, List.setIfInBounds_toArray, List.set_cons_zero, List.set_cons_succ]
        obtain ⟨r1, r2⟩ := hNX.out (wa.alloc (.cells Z 23)) wa.heap.size hSz hSa.size (heap_alloc_new wa _)
        refine single_store 8 rfl rfl (by kernel_rfl) (by rfl) 23 (.tmp 17) (.tmp 103) rfl wa.heap.size XA rfl rfl 23 Z (heap_alloc_new wa _) hIx.out hSx.out hTx.out r2 ?_
        refine takeH_at 9 18 (v := ?_) rfl rfl (by kernel_rfl) (by kernel_rfl) (by kernel_rfl) (fun _ _ _ h => h) (Or.inl ⟨by rfl, ?_⟩) (by assumption) ?_
        rotate_left
        · (intro wx hSw; clear hSw; go_simp) <;> with_reducible rfl
        simp only [Act.put, List.setIfInBounds_toArray, List.set_cons_zero, List.set_cons_succ]
        generalize wa.alloc (.cells Z 23) = wz at r1 r2 hSz ⊢
        generalize wa.heap.size = g17 at r1 r2 ⊢
        refine wpAnyH_done (by kernel_rfl) ?_ _
        refine NoPanic.normal ?_
        clear R hK K hHeld hS1 M4 hD13 hNX D13 NX
        have R := r1
        replace HB := HB.trans (r2.mono HB.size)
        clear r1 r2
        generalize wz.setRow g17 XA = W13 at R HB ⊢
        have k1 := Lib.hid (ldo.out _ _ w.heap.size R (by first | exact .head _ | exact .tail _ (.head _) | exact .tail _ (.tail _ (.head _)) | exact .tail _ (.tail _ (.tail _ (.head _))) | exact .tail _ (.tail _ (.tail _ (.tail _ (.head _)))) | exact .tail _ (.tail _ (.tail _ (.tail _ (.tail _ (.head _))))) | exact .tail _ (.tail _ (.tail _ (.tail _ (.tail _ (.tail _ (.head _)))))) | exact .tail _ (.tail _ (.tail _ (.tail _ (.tail _ (.tail _ (.tail _ (.head _))))))) | exact .tail _ (.tail _ (.tail _ (.tail _ (.tail _ (.tail _ (.tail _ (.tail _ (.head _)))))))) | exact .tail _ (.tail _ (.tail _ (.tail _ (.tail _ (.tail _ (.tail _ (.tail _ (.tail _ (.head _)))))))))))
        go_upto_region 15 with (first
          | ((with_reducible refine wpList_loadV (op := ⟨some 106, _, _, _, _, _⟩) rfl 23 (.tmp 4) rfl _ ?_ _ k1.out ?_); rfl)
          | (go_at_call 9; (with_reducible refine (D9.out _).mono ?_); rintro e w14 ⟨rfl, hb1⟩; replace R := R.below hb1; replace HB := HB.trans (hb1.mono HB.size); clear hb1)
          | ((with_reducible refine wpList_store_row rfl 23 (.tmp 19) (.tmp 109) rfl w14.heap.size YL ?_ ?_ 23 Z (heap_alloc_new w14 _) hIyl.out hSyl.out hTyl.out ?_); rfl; rfl))
        clear k1
        replace R := Nyl.out _ _ R Z 23
        replace HB := HB.trans ((below_new (W := w14) Z YL 23).mono HB.size)
        generalize (w14.alloc (.cells Z 23)).setRow w14.heap.size YL = W14 at R HB ⊢
        generalize w14.heap.size = g19 at R HB ⊢
        have k1 := Lib.hid (ldo.out _ _ w.heap.size R (by first | exact .head _ | exact .tail _ (.head _) | exact .tail _ (.tail _ (.head _)) | exact .tail _ (.tail _ (.tail _ (.head _))) | exact .tail _ (.tail _ (.tail _ (.tail _ (.head _)))) | exact .tail _ (.tail _ (.tail _ (.tail _ (.tail _ (.head _))))) | exact .tail _ (.tail _ (.tail _ (.tail _ (.tail _ (.tail _ (.head _)))))) | exact .tail _ (.tail _ (.tail _ (.tail _ (.tail _ (.tail _ (.tail _ (.head _))))))) | exact .tail _ (.tail _ (.tail _ (.tail _ (.tail _ (.tail _ (.tail _ (.tail _ (.head _)))))))) | exact .tail _ (.tail _ (.tail _ (.tail _ (.tail _ (.tail _ (.tail _ (.tail _ (.tail _ (.head _)))))))))))
        go_upto_region 16 with (first
          | ((with_reducible refine wpList_loadV (op := ⟨some 112, _, _, _, _, _⟩) rfl 23 (.tmp 4) rfl _ ?_ _ k1.out ?_); rfl)
          | (go_at_call 11; (with_reducible refine (D11.out _).mono ?_); rintro e w15 ⟨rfl, hb1⟩; replace R := R.below hb1; replace HB := HB.trans (hb1.mono HB.size); clear hb1)
          | ((with_reducible refine wpList_store_row rfl 23 (.tmp 21) (.tmp 115) rfl w15.heap.size YH ?_ ?_ 23 Z (heap_alloc_new w15 _) hIyh.out hSyh.out hTyh.out ?_); rfl; rfl))
        clear k1
        replace R := Nyh.out _ _ R Z 23
        replace HB := HB.trans ((below_new (W := w15) Z YH 23).mono HB.size)
        generalize (w15.alloc (.cells Z 23)).setRow w15.heap.size YH = W15 at R HB ⊢
        generalize w15.heap.size = g21 at R HB ⊢
        have m17 : Hid (∀ W, Below W15.heap.size W15 W → (loadVar 23 ⟨g17, 0, none⟩).run Try.prog W = .ok (.agg XA) W) := Lib.hid (fun W h => ldx.out W _ g17 (R.below h) (by first | exact .head _ | exact .tail _ (.head _) | exact .tail _ (.tail _ (.head _)) | exact .tail _ (.tail _ (.tail _ (.head _))) | exact .tail _ (.tail _ (.tail _ (.tail _ (.head _)))) | exact .tail _ (.tail _ (.tail _ (.tail _ (.tail _ (.head _))))) | exact .tail _ (.tail _ (.tail _ (.tail _ (.tail _ (.tail _ (.head _)))))) | exact .tail _ (.tail _ (.tail _ (.tail _ (.tail _ (.tail _ (.tail _ (.head _))))))) | exact .tail _ (.tail _ (.tail _ (.tail _ (.tail _ (.tail _ (.tail _ (.tail _ (.head _)))))))) | exact .tail _ (.tail _ (.tail _ (.tail _ (.tail _ (.tail _ (.tail _ (.tail _ (.tail _ (.head _)))))))))))
        have m5 : Hid (∀ W, Below W15.heap.size W15 W → (loadVar 23 ⟨(w.heap.size + 1), 0, none⟩).run Try.prog W = .ok (.agg XA) W) := Lib.hid (fun W h => ldx.out W _ (w.heap.size + 1) (R.below h) (by first | exact .head _ | exact .tail _ (.head _) | exact .tail _ (.tail _ (.head _)) | exact .tail _ (.tail _ (.tail _ (.head _))) | exact .tail _ (.tail _ (.tail _ (.tail _ (.head _)))) | exact .tail _ (.tail _ (.tail _ (.tail _ (.tail _ (.head _))))) | exact .tail _ (.tail _ (.tail _ (.tail _ (.tail _ (.tail _ (.head _)))))) | exact .tail _ (.tail _ (.tail _ (.tail _ (.tail _ (.tail _ (.tail _ (.head _))))))) | exact .tail _ (.tail _ (.tail _ (.tail _ (.tail _ (.tail _ (.tail _ (.tail _ (.head _)))))))) | exact .tail _ (.tail _ (.tail _ (.tail _ (.tail _ (.tail _ (.tail _ (.tail _ (.tail _ (.head _)))))))))))
        have m19 : Hid (∀ W, Below W15.heap.size W15 W → (loadVar 23 ⟨g19, 0, none⟩).run Try.prog W = .ok (.agg YL) W) := Lib.hid (fun W h => ldyl.out W _ g19 (R.below h) (by first | exact .head _ | exact .tail _ (.head _) | exact .tail _ (.tail _ (.head _)) | exact .tail _ (.tail _ (.tail _ (.head _))) | exact .tail _ (.tail _ (.tail _ (.tail _ (.head _)))) | exact .tail _ (.tail _ (.tail _ (.tail _ (.tail _ (.head _))))) | exact .tail _ (.tail _ (.tail _ (.tail _ (.tail _ (.tail _ (.head _)))))) | exact .tail _ (.tail _ (.tail _ (.tail _ (.tail _ (.tail _ (.tail _ (.head _))))))) | exact .tail _ (.tail _ (.tail _ (.tail _ (.tail _ (.tail _ (.tail _ (.tail _ (.head _)))))))) | exact .tail _ (.tail _ (.tail _ (.tail _ (.tail _ (.tail _ (.tail _ (.tail _ (.tail _ (.head _)))))))))))
        have m21 : Hid (∀ W, Below W15.heap.size W15 W → (loadVar 23 ⟨g21, 0, none⟩).run Try.prog W = .ok (.agg YH) W) := Lib.hid (fun W h => ldyh.out W _ g21 (R.below h) (by first | exact .head _ | exact .tail _ (.head _) | exact .tail _ (.tail _ (.head _)) | exact .tail _ (.tail _ (.tail _ (.head _))) | exact .tail _ (.tail _ (.tail _ (.tail _ (.head _)))) | exact .tail _ (.tail _ (.tail _ (.tail _ (.tail _ (.head _))))) | exact .tail _ (.tail _ (.tail _ (.tail _ (.tail _ (.tail _ (.head _)))))) | exact .tail _ (.tail _ (.tail _ (.tail _ (.tail _ (.tail _ (.tail _ (.head _))))))) | exact .tail _ (.tail _ (.tail _ (.tail _ (.tail _ (.tail _ (.tail _ (.tail _ (.head _)))))))) | exact .tail _ (.tail _ (.tail _ (.tail _ (.tail _ (.tail _ (.tail _ (.tail _ (.tail _ (.head _)))))))))))
        have HB6 : Below W15.heap.size W15 W15 := Below.refl _ _
        go_wp2_with (first
          | ((with_reducible refine wpList_valG (op := ⟨some 127, _, _, _, _, _⟩) rfl (.bool true) ?_ ?_); (go_simp; simp [hc3]))
          | ((with_reducible refine wpList_valG (op := ⟨some 133, _, _, _, _, _⟩) rfl (.bool true) ?_ ?_); (go_simp; simp [hc4]))
          | ((with_reducible refine wpList_loadG (op := ⟨some 119, _, _, _, _, _⟩) rfl 23 (.tmp 17) rfl _ ?_ _ (m17.out _ HB6) ?_); rfl)
          | ((with_reducible refine wpList_loadG (op := ⟨some 120, _, _, _, _, _⟩) rfl 23 (.tmp 5) rfl _ ?_ _ (m5.out _ HB6) ?_); rfl)
          | ((with_reducible refine wpList_loadG (op := ⟨some 124, _, _, _, _, _⟩) rfl 23 (.tmp 19) rfl _ ?_ _ (m19.out _ HB6) ?_); rfl)
          | ((with_reducible refine wpList_loadG (op := ⟨some 125, _, _, _, _, _⟩) rfl 23 (.tmp 5) rfl _ ?_ _ (m5.out _ HB6) ?_); rfl)
          | ((with_reducible refine wpList_loadG (op := ⟨some 130, _, _, _, _, _⟩) rfl 23 (.tmp 5) rfl _ ?_ _ (m5.out _ HB6) ?_); rfl)
          | ((with_reducible refine wpList_loadG (op := ⟨some 131, _, _, _, _, _⟩) rfl 23 (.tmp 21) rfl _ ?_ _ (m21.out _ HB6) ?_); rfl)
          | (go_at_call 20; (with_reducible refine (P3.out _).mono ?_); rintro e wp ⟨rfl, hb1⟩; replace HB6 := HB6.trans (hb1.mono HB6.size); clear hb1)
          | (go_at_call 20; (with_reducible refine (P4.out _).mono ?_); rintro e wq ⟨rfl, hb1⟩; replace HB6 := HB6.trans (hb1.mono HB6.size); clear hb1)
          | (go_at_call 6; (with_reducible refine (C6.out _).mono ?_); rintro e ws ⟨rfl, hb1⟩; replace HB6 := HB6.trans (hb1.mono HB6.size); clear hb1))
        go_ret
        exact ⟨rfl, HBL.out.trans ((HB.trans (HB6.mono HB.size)).mono HBL.out.size)⟩
      · rw [if_pos (by rfl)]
        refine LooseR.wpD (S := fun w' => Below wd.heap.size wd w') 17 rfl (looseR_alloc 23 rfl Z hz1 (hHeld.alloc hHeld.size _)) (fun u wa hSa hba hu => hK.out _ _ hSa (fun hHa => ?_))
        obtain ⟨rfl, hwa⟩ := hu
        have hrow : wa.heap[wd.drew.heap.size]? = some (.cells Z 23 (0, 0)) := by rw [hwa]; exact heap_alloc_new _ _
        simp only [Act.put, List.setIfInBounds_toArray, List.set_cons_zero, List.set_cons_succ]
        refine single 3 102 rfl rfl (by kernel_rfl) (by rfl) (fun v _ => v = .tuple #[.agg XA, .bool true]) (looseR_call 13 rfl (enters_of Try.func13 (by kernel_rfl) rfl) _ (by simp only [List.map_toArray, List.map_cons, List.map_nil]; rfl) (hD13.out _ hSa)) ?_
        intro u wz hSz hbz hu
        subst hu
        simp only [Act.put, List.setIfInBounds_toArray, List.set_cons_zero, List.set_cons_succ]
        refine takeH_at 4 98 (v := ?_) rfl rfl (by kernel_rfl) (by kernel_rfl) (by kernel_rfl) (fun _ _ _ h => h) (Or.inl ⟨by rfl, ?_⟩) (by assumption) ?_
        rotate_left
        · (intro wx hSw; clear hSw; go_simp) <;> with_reducible rfl
        simp only [Act.put, List.setIfInBounds_toArray, List.set_cons_zero, List.set_cons_succ]
        refine takeH_at 5 103 (v := ?_) rfl rfl (by kernel_rfl) (by kernel_rfl) (by kernel_rfl) (fun _ _ _ h => h) (Or.inl ⟨by rfl, ?_⟩) (by assumption) ?_
        rotate_left
        · (intro wx hSw; clear hSw; go_simp) <;> with_reducible rfl
        simp only [Act.put, List.setIfInBounds_toArray, List.set_cons_zero, List.set_cons_succ]
        refine takeH_at 6 104 (v := ?_) rfl rfl (by kernel_rfl) (by kernel_rfl) (by kernel_rfl) (fun _ _ _ h => h) (Or.inl ⟨by rfl, ?_⟩) (by assumption) ?_
        rotate_left
        · (intro wx hSw; clear hSw; go_simp) <;> with_reducible rfl
        simp only [Act.put, List.setIfInBounds_toArray, List.set_cons_zero, List.set_cons_succ]
        have hrz := (hbz.block _ (Array.getElem?_eq_some_iff.1 hrow).1).trans hrow
        obtain ⟨r1, r2⟩ := hNX.out wz wd.drew.heap.size hSz (Nat.le_refl _) hrz
        refine single_store 8 rfl rfl (by kernel_rfl) (by rfl) 23 (.tmp 17) (.tmp 103) rfl wd.drew.heap.size XA rfl rfl 23 Z hrz hIx.out hSx.out hTx.out r2 ?_
        refine takeH_at 9 18 (v := ?_) rfl rfl (by kernel_rfl) (by kernel_rfl) (by kernel_rfl) (fun _ _ _ h => h) (Or.inl ⟨by rfl, ?_⟩) (by assumption) ?_
        rotate_left
        · (intro wx hSw; clear hSw; go_simp) <;> with_reducible rfl
        simp only [Act.put, List.setIfInBounds_toArray, List.set_cons_zero, List.set_cons_succ]
        generalize wd.drew.heap.size = g17 at r1 r2 hrz ⊢
        refine wpAnyH_done (by kernel_rfl) ?_ _
        refine NoPanic.normal ?_
        clear R hK K hHeld hS1 M4 hD13 hNX D13 NX
        have R := r1
        replace HB := HB.trans (r2.mono HB.size)
        clear r1 r2
        generalize wz.setRow g17 XA = W13 at R HB ⊢
        have k1 := Lib.hid (ldo.out _ _ w.heap.size R (by first | exact .head _ | exact .tail _ (.head _) | exact .tail _ (.tail _ (.head _)) | exact .tail _ (.tail _ (.tail _ (.head _))) | exact .tail _ (.tail _ (.tail _ (.tail _ (.head _)))) | exact .tail _ (.tail _ (.tail _ (.tail _ (.tail _ (.head _))))) | exact .tail _ (.tail _ (.tail _ (.tail _ (.tail _ (.tail _ (.head _)))))) | exact .tail _ (.tail _ (.tail _ (.tail _ (.tail _ (.tail _ (.tail _ (.head _))))))) | exact .tail _ (.tail _ (.tail _ (.tail _ (.tail _ (.tail _ (.tail _ (.tail _ (.head _)))))))) | exact .tail _ (.tail _ (.tail _ (.tail _ (.tail _ (.tail _ (.tail _ (.tail _ (.tail _ (.head _)))))))))))
        go_upto_region 15 with (first
          | ((with_reducible refine wpList_loadV (op := ⟨some 106, _, _, _, _, _⟩) rfl 23 (.tmp 4) rfl _ ?_ _ k1.out ?_); rfl)
          | (go_at_call 9; (with_reducible refine (D9.out _).mono ?_); rintro e w14 ⟨rfl, hb1⟩; replace R := R.below hb1; replace HB := HB.trans (hb1.mono HB.size); clear hb1)
          | ((with_reducible refine wpList_store_row rfl 23 (.tmp 19) (.tmp 109) rfl w14.heap.size YL ?_ ?_ 23 Z (heap_alloc_new w14 _) hIyl.out hSyl.out hTyl.out ?_); rfl; rfl))
        clear k1
        replace R := Nyl.out _ _ R Z 23
        replace HB := HB.trans ((below_new (W := w14) Z YL 23).mono HB.size)
        generalize (w14.alloc (.cells Z 23)).setRow w14.heap.size YL = W14 at R HB ⊢
        generalize w14.heap.size = g19 at R HB ⊢
        have k1 := Lib.hid (ldo.out _ _ w.heap.size R (by first | exact .head _ | exact .tail _ (.head _) | exact .tail _ (.tail _ (.head _)) | exact .tail _ (.tail _ (.tail _ (.head _))) | exact .tail _ (.tail _ (.tail _ (.tail _ (.head _)))) | exact .tail _ (.tail _ (.tail _ (.tail _ (.tail _ (.head _))))) | exact .tail _ (.tail _ (.tail _ (.tail _ (.tail _ (.tail _ (.head _)))))) | exact .tail _ (.tail _ (.tail _ (.tail _ (.tail _ (.tail _ (.tail _ (.head _))))))) | exact .tail _ (.tail _ (.tail _ (.tail _ (.tail _ (.tail _ (.tail _ (.tail _ (.head _)))))))) | exact .tail _ (.tail _ (.tail _ (.tail _ (.tail _ (.tail _ (.tail _ (.tail _ (.tail _ (.head _)))))))))))
        go_upto_region 16 with (first
          | ((with_reducible refine wpList_loadV (op := ⟨some 112, _, _, _, _, _⟩) rfl 23 (.tmp 4) rfl _ ?_ _ k1.out ?_); rfl)
          | (go_at_call 11; (with_reducible refine (D11.out _).mono ?_); rintro e w15 ⟨rfl, hb1⟩; replace R := R.below hb1; replace HB := HB.trans (hb1.mono HB.size); clear hb1)
          | ((with_reducible refine wpList_store_row rfl 23 (.tmp 21) (.tmp 115) rfl w15.heap.size YH ?_ ?_ 23 Z (heap_alloc_new w15 _) hIyh.out hSyh.out hTyh.out ?_); rfl; rfl))
        clear k1
        replace R := Nyh.out _ _ R Z 23
        replace HB := HB.trans ((below_new (W := w15) Z YH 23).mono HB.size)
        generalize (w15.alloc (.cells Z 23)).setRow w15.heap.size YH = W15 at R HB ⊢
        generalize w15.heap.size = g21 at R HB ⊢
        have m17 : Hid (∀ W, Below W15.heap.size W15 W → (loadVar 23 ⟨g17, 0, none⟩).run Try.prog W = .ok (.agg XA) W) := Lib.hid (fun W h => ldx.out W _ g17 (R.below h) (by first | exact .head _ | exact .tail _ (.head _) | exact .tail _ (.tail _ (.head _)) | exact .tail _ (.tail _ (.tail _ (.head _))) | exact .tail _ (.tail _ (.tail _ (.tail _ (.head _)))) | exact .tail _ (.tail _ (.tail _ (.tail _ (.tail _ (.head _))))) | exact .tail _ (.tail _ (.tail _ (.tail _ (.tail _ (.tail _ (.head _)))))) | exact .tail _ (.tail _ (.tail _ (.tail _ (.tail _ (.tail _ (.tail _ (.head _))))))) | exact .tail _ (.tail _ (.tail _ (.tail _ (.tail _ (.tail _ (.tail _ (.tail _ (.head _)))))))) | exact .tail _ (.tail _ (.tail _ (.tail _ (.tail _ (.tail _ (.tail _ (.tail _ (.tail _ (.head _)))))))))))
        have m5 : Hid (∀ W, Below W15.heap.size W15 W → (loadVar 23 ⟨(w.heap.size + 1), 0, none⟩).run Try.prog W = .ok (.agg XA) W) := Lib.hid (fun W h => ldx.out W _ (w.heap.size + 1) (R.below h) (by first | exact .head _ | exact .tail _ (.head _) | exact .tail _ (.tail _ (.head _)) | exact .tail _ (.tail _ (.tail _ (.head _))) | exact .tail _ (.tail _ (.tail _ (.tail _ (.head _)))) | exact .tail _ (.tail _ (.tail _ (.tail _ (.tail _ (.head _))))) | exact .tail _ (.tail _ (.tail _ (.tail _ (.tail _ (.tail _ (.head _)))))) | exact .tail _ (.tail _ (.tail _ (.tail _ (.tail _ (.tail _ (.tail _ (.head _))))))) | exact .tail _ (.tail _ (.tail _ (.tail _ (.tail _ (.tail _ (.tail _ (.tail _ (.head _)))))))) | exact .tail _ (.tail _ (.tail _ (.tail _ (.tail _ (.tail _ (.tail _ (.tail _ (.tail _ (.head _)))))))))))
        have m19 : Hid (∀ W, Below W15.heap.size W15 W → (loadVar 23 ⟨g19, 0, none⟩).run Try.prog W = .ok (.agg YL) W) := Lib.hid (fun W h => ldyl.out W _ g19 (R.below h) (by first | exact .head _ | exact .tail _ (.head _) | exact .tail _ (.tail _ (.head _)) | exact .tail _ (.tail _ (.tail _ (.head _))) | exact .tail _ (.tail _ (.tail _ (.tail _ (.head _)))) | exact .tail _ (.tail _ (.tail _ (.tail _ (.tail _ (.head _))))) | exact .tail _ (.tail _ (.tail _ (.tail _ (.tail _ (.tail _ (.head _)))))) | exact .tail _ (.tail _ (.tail _ (.tail _ (.tail _ (.tail _ (.tail _ (.head _))))))) | exact .tail _ (.tail _ (.tail _ (.tail _ (.tail _ (.tail _ (.tail _ (.tail _ (.head _)))))))) | exact .tail _ (.tail _ (.tail _ (.tail _ (.tail _ (.tail _ (.tail _ (.tail _ (.tail _ (.head _)))))))))))
        have m21 : Hid (∀ W, Below W15.heap.size W15 W → (loadVar 23 ⟨g21, 0, none⟩).run Try.prog W = .ok (.agg YH) W) := Lib.hid (fun W h => ldyh.out W _ g21 (R.below h) (by first | exact .head _ | exact .tail _ (.head _) | exact .tail _ (.tail _ (.head _)) | exact .tail _ (.tail _ (.tail _ (.head _))) | exact .tail _ (.tail _ (.tail _ (.tail _ (.head _)))) | exact .tail _ (.tail _ (.tail _ (.tail _ (.tail _ (.head _))))) | exact .tail _ (.tail _ (.tail _ (.tail _ (.tail _ (.tail _ (.head _)))))) | exact .tail _ (.tail _ (.tail _ (.tail _ (.tail _ (.tail _ (.tail _ (.head _))))))) | exact .tail _ (.tail _ (.tail _ (.tail _ (.tail _ (.tail _ (.tail _ (.tail _ (.head _)))))))) | exact .tail _ (.tail _ (.tail _ (.tail _ (.tail _ (.tail _ (.tail _ (.tail _ (.tail _ (.head _)))))))))))
        have HB6 : Below W15.heap.size W15 W15 := Below.refl _ _
        go_wp2_with (first
          | ((with_reducible refine wpList_valG (op := ⟨some 127, _, _, _, _, _⟩) rfl (.bool true) ?_ ?_); (go_simp; simp [hc3]))
          | ((with_reducible refine wpList_valG (op := ⟨some 133, _, _, _, _, _⟩) rfl (.bool true) ?_ ?_); (go_simp; simp [hc4]))
          | ((with_reducible refine wpList_loadG (op := ⟨some 119, _, _, _, _, _⟩) rfl 23 (.tmp 17) rfl _ ?_ _ (m17.out _ HB6) ?_); rfl)
          | ((with_reducible refine wpList_loadG (op := ⟨some 120, _, _, _, _, _⟩) rfl 23 (.tmp 5) rfl _ ?_ _ (m5.out _ HB6) ?_); rfl)
          | ((with_reducible refine wpList_loadG (op := ⟨some 124, _, _, _, _, _⟩) rfl 23 (.tmp 19) rfl _ ?_ _ (m19.out _ HB6) ?_); rfl)
          | ((with_reducible refine wpList_loadG (op := ⟨some 125, _, _, _, _, _⟩) rfl 23 (.tmp 5) rfl _ ?_ _ (m5.out _ HB6) ?_); rfl)
          | ((with_reducible refine wpList_loadG (op := ⟨some 130, _, _, _, _, _⟩) rfl 23 (.tmp 5) rfl _ ?_ _ (m5.out _ HB6) ?_); rfl)
          | ((with_reducible refine wpList_loadG (op := ⟨some 131, _, _, _, _, _⟩) rfl 23 (.tmp 21) rfl _ ?_ _ (m21.out _ HB6) ?_); rfl)
          | (go_at_call 20; (with_reducible refine (P3.out _).mono ?_); rintro e wp ⟨rfl, hb1⟩; replace HB6 := HB6.trans (hb1.mono HB6.size); clear hb1)
          | (go_at_call 20; (with_reducible refine (P4.out _).mono ?_); rintro e wq ⟨rfl, hb1⟩; replace HB6 := HB6.trans (hb1.mono HB6.size); clear hb1)
          | (go_at_call 6; (with_reducible refine (C6.out _).mono ?_); rintro e ws ⟨rfl, hb1⟩; replace HB6 := HB6.trans (hb1.mono HB6.size); clear hb1))
        go_ret
        exact ⟨rfl, HBL.out.trans ((HB.trans (HB6.mono HB.size)).mono HBL.out.size)⟩
theorem sdraws_walk (o x : List UInt8) (ho : o.length = 20) (hx : x.length = 20) (i : Int) (A : Option Addr) (c : Nat) (s : List UInt8) (w : World) (hA : BAt w w.heap.size A s) :
    Calls Try.prog 4 #[.agg (bcells o).toArray, .agg (bcells x).toArray, .int .i64 i, .slice A s.length c] w fun e w' => e = .returned (.bool true) ∧ Below w.heap.size w w' := by
  by_cases h : 100 < s.length
  · exact sdraws_far _ _ i A s.length c h w
  · exact sdraws_near o x ho hx i A c s w (by omega) hA
end Go.Proofs.Ytieeffebecghiaa
