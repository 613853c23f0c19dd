/- The walk of the statement SpanTells of this seat: it answers true for any ids, number and seed. No condition. -/
import Derived.Test.YtieeffebecghiaaSch
namespace Go.Proofs.Ytieeffebecghiaa
set_option maxRecDepth 100000
set_option maxHeartbeats 4000000
open Go.RowKit Go.Lib Go.Great

theorem stells_far (O X : Array Value) (i : Int) (A : Option Addr) (n c : Nat) (h : 100 < n) (w : World) : Calls Try.prog 3 #[.agg O, .agg X, .int .i64 i, .slice A n c] w fun e w' => e = .returned (.bool true) ∧ Below w.heap.size w w' := by
  have h1' : (100 : Int) < (n : Int) := by omega
  have hb0 : Hid (Below w.heap.size w ((w.alloc (.cells O 23)).alloc (.cells X 23))) := Lib.hid (heap2 w (.cells O 23) (.cells X 23)).2.2
  go_enter Try.func3, Try.ntmps3
  go_wp2_with (go_at_call 6; (with_reducible refine (slives_any _).mono ?_); rintro e w2 ⟨rfl, hb2⟩)
  go_ret
  exact ⟨rfl, hb0.out.trans (hb2.mono hb0.out.size)⟩

def NSl (L : List Nat) (v : Value) (W : World) : Prop := ∃ A c, v = .slice A L.length c ∧ NAt W W.heap.size A L
theorem NSl.keep {L : List Nat} {v : Value} {W W' : World} (h : NSl L v W) (hb : Below W.heap.size W W') : NSl L v W' := by
  obtain ⟨A, c, rfl, h2⟩ := h
  exact ⟨A, c, rfl, (h2.below hb).more hb.size⟩
theorem NearerIs.sl {o t : List UInt8} {base : Nat} {v : Value} {W : World} (h : NearerIs o t base v W) : NSl (nearL o t 160) v W := by
  obtain ⟨A, c, rfl, _, h2⟩ := nat_own h
  exact ⟨A, c, rfl, h2⟩

theorem stells_near (o x : List UInt8) (ho : o.length = 20) (hx : x.length = 20) (i : Int) (A : Option Addr) (c : Nat) (s : List UInt8) (w : World) (hL : s.length ≤ 100) (hA : BAt w w.heap.size A s) :
    Calls Try.prog 3 #[.agg (bcells o).toArray, .agg (bcells x).toArray, .int .i64 i, .slice A s.length c] w fun e w' => e = .returned (.bool true) ∧ Below w.heap.size w w' := by
  have hz1 := fun W => zero26 W
  have hz2 := fun W => zero42 W
  obtain ⟨xl, bb, hl⟩ := ld_value o (List.replicate 20 0) i
  obtain ⟨xh, b2, hh⟩ := ld_value o (List.replicate 20 255) i
  obtain ⟨xd, b3, hd⟩ := ld_value o (seedL s) i
  obtain rfl : bb = b2 := hl.yes.trans hh.yes.symm
  obtain rfl : bb = b3 := hl.yes.trans hd.yes.symm
  obtain ⟨h1, h2, hb0⟩ := heap2 w (.cells (bcells o).toArray 23) (.cells (bcells x).toArray 23)
  obtain ⟨W0, hW0⟩ : ∃ W0, W0 = (w.alloc (.cells (bcells o).toArray 23)).alloc (.cells (bcells x).toArray 23) := ⟨_, rfl⟩
  rw [← hW0] at h1 h2 hb0
  have hsz : W0.heap.size = w.heap.size + 1 + 1 := by rw [hW0]; simp
  have hA0 : ∀ W, Below W0.heap.size W0 W → BAt W W.heap.size A s := fun W h => (((hA.below hb0).more hb0.size).below h).more h.size
  obtain ⟨m, hm⟩ : ∃ m, m = s.length := ⟨_, rfl⟩
  have C7 : Hid (∀ W, Calls Try.prog 7 #[.agg (bcells o).toArray, .agg (bcells x).toArray] W fun e w' => e = .returned (.tuple #[.int .i64 (idxN o x : Int), .bool (idxB o x)]) ∧ Below W.heap.size W w') := Lib.hid (fun W => index_any o x ho hx W)
  have C8 : Hid (∀ W, Calls Try.prog 8 #[.agg (bcells o).toArray, .agg (bcells x).toArray] W fun e w' => e = .returned (.tuple #[.int .i64 (idxN o x : Int), .bool (idxB o x)]) ∧ Below W.heap.size W w') := Lib.hid (fun W => rindex_any o x ho hx W)
  have C9 : Hid (∀ W, Calls Try.prog 9 #[.agg (bcells o).toArray, .int .i64 i] W fun e w' => e = .returned (.tuple #[.agg (bcells xl).toArray, .bool bb]) ∧ Below W.heap.size W w') := Lib.hid (fun W => (low_any o i ho W).mono (by rintro e w' ⟨h, h'⟩; exact ⟨hl.val e h, h'⟩))
  have C10 : Hid (∀ W, Calls Try.prog 10 #[.agg (bcells o).toArray, .int .i64 i] W fun e w' => e = .returned (.tuple #[.agg (bcells xl).toArray, .bool bb]) ∧ Below W.heap.size W w') := Lib.hid (fun W => (rlow_any o i ho W).mono (by rintro e w' ⟨h, h'⟩; exact ⟨hl.val e h, h'⟩))
  have C11 : Hid (∀ W, Calls Try.prog 11 #[.agg (bcells o).toArray, .int .i64 i] W fun e w' => e = .returned (.tuple #[.agg (bcells xh).toArray, .bool bb]) ∧ Below W.heap.size W w') := Lib.hid (fun W => (high_any o i ho W).mono (by rintro e w' ⟨h, h'⟩; exact ⟨hh.val e h, h'⟩))
  have C12 : Hid (∀ W, Calls Try.prog 12 #[.agg (bcells o).toArray, .int .i64 i] W fun e w' => e = .returned (.tuple #[.agg (bcells xh).toArray, .bool bb]) ∧ Below W.heap.size W w') := Lib.hid (fun W => (rhigh_any o i ho W).mono (by rintro e w' ⟨h, h'⟩; exact ⟨hh.val e h, h'⟩))
  have C13 : Hid (∀ W, Below W0.heap.size W0 W → Calls Try.prog 13 #[.agg (bcells o).toArray, .int .i64 i, .slice A m c] W fun e w' => e = .returned (.tuple #[.agg (bcells xd).toArray, .bool bb]) ∧ Below W.heap.size W w') := Lib.hid (fun W h => by
    rw [hm]
    exact (draw_any o s i A c ho W (hA0 W h)).mono (by rintro e w' ⟨h, h'⟩; exact ⟨hd.val e h, h'⟩))
  have C14 : Hid (∀ W, Below W0.heap.size W0 W → Calls Try.prog 14 #[.agg (bcells o).toArray, .int .i64 i, .slice A m c] W fun e w' => e = .returned (.tuple #[.agg (bcells xd).toArray, .bool bb]) ∧ Below W.heap.size W w') := Lib.hid (fun W h => by
    rw [hm]
    exact (rdraw_any o s i A c ho W (hA0 W h)).mono (by rintro e w' ⟨h, h'⟩; exact ⟨hd.val e h, h'⟩))
  have F15 : Hid (∀ W1 W, Below W1.heap.size W1 W → Calls Try.prog 15 #[.agg (bcells o).toArray, .int .i64 i, .agg (bcells x).toArray] W fun e w' => ∃ v, e = .returned v ∧ Below W1.heap.size W1 w' ∧ Below W.heap.size W w' ∧ v = .bool (idxB o x && ((idxN o x : Int) == i))) := Lib.hid (fun W1 W h => (has_any o x i ho hx W).mono (by rintro e w' ⟨rfl, q⟩; exact ⟨_, rfl, h.trans (q.mono h.size), q, rfl⟩))
  have F16 : Hid (∀ W1 W, Below W1.heap.size W1 W → Calls Try.prog 16 #[.agg (bcells o).toArray, .int .i64 i, .agg (bcells x).toArray] W fun e w' => ∃ v, e = .returned v ∧ Below W1.heap.size W1 w' ∧ Below W.heap.size W w' ∧ v = .bool (idxB o x && ((idxN o x : Int) == i))) := Lib.hid (fun W1 W h => (rhas_any o x i ho hx W).mono (by rintro e w' ⟨rfl, q⟩; exact ⟨_, rfl, h.trans (q.mono h.size), q, rfl⟩))
  have F18 : Hid (∀ W1 W, Below W1.heap.size W1 W → Calls Try.prog 18 #[.agg (bcells o).toArray, .agg (bcells x).toArray] W fun e w' => ∃ v, e = .returned v ∧ Below W1.heap.size W1 w' ∧ Below W.heap.size W w' ∧ NSl (nearL o x 160) v w') := Lib.hid (fun W1 W h => (nearer_any o x ho hx W).mono (by rintro e w' ⟨v, rfl, k, q⟩; exact ⟨_, rfl, h.trans (q.mono h.size), q, k.sl⟩))
  have F19 : Hid (∀ W1 W, Below W1.heap.size W1 W → Calls Try.prog 19 #[.agg (bcells o).toArray, .agg (bcells x).toArray] W fun e w' => ∃ v, e = .returned v ∧ Below W1.heap.size W1 w' ∧ Below W.heap.size W w' ∧ NSl (nearL o x 160) v w') := Lib.hid (fun W1 W h => (rnearer_any o x ho hx W).mono (by rintro e w' ⟨v, rfl, k, q⟩; exact ⟨_, rfl, h.trans (q.mono h.size), q, k.sl⟩))
  have F17 : Hid (∀ W1 W u v, Below W1.heap.size W1 W → NSl (nearL o x 160) u W → NSl (nearL o x 160) v W → Calls Try.prog 17 #[u, v] W fun e w' => ∃ v, e = .returned v ∧ Below W1.heap.size W1 w' ∧ Below W.heap.size W w' ∧ v = .bool true) := Lib.hid (fun W1 W u v h hu hv => by
    obtain ⟨A1, c1, rfl, k1⟩ := hu
    obtain ⟨A2, c2, rfl, k2⟩ := hv
    exact (ints_same A1 A2 c1 c2 _ W (by have := nearL_len o x 160; omega) k1 k2).mono (by rintro e w' ⟨rfl, q⟩; exact ⟨_, rfl, h.trans (q.mono h.size), q, rfl⟩))
  have F6 : Hid (∀ W1 W, Below W1.heap.size W1 W → Calls Try.prog 6 #[] W fun e w' => ∃ v, e = .returned v ∧ Below W1.heap.size W1 w' ∧ Below W.heap.size W w' ∧ v = .bool true) := Lib.hid (fun W1 W h => (slives_any W).mono (by rintro e w' ⟨rfl, q⟩; exact ⟨_, rfl, h.trans (q.mono h.size), q, rfl⟩))
  have ldo : Hid (∀ (W : World) L g, RowsAt W L → (g, 23, o) ∈ L → (loadVar 23 ⟨g, 0, none⟩).run Try.prog W = .ok (.agg (bcells o).toArray) W) := Lib.hid (fun W L g h hm => h.load23 hm)
  have lro : Hid (∀ (W : World) L g, RowsAt W L → (g, 26, o) ∈ L → (loadVar 26 ⟨g, 0, none⟩).run Try.prog W = .ok (.agg (bcells o).toArray) W) := Lib.hid (fun W L g h hm => h.load26 hm)
  have ldx : Hid (∀ (W : World) L g, RowsAt W L → (g, 23, x) ∈ L → (loadVar 23 ⟨g, 0, none⟩).run Try.prog W = .ok (.agg (bcells x).toArray) W) := Lib.hid (fun W L g h hm => h.load23 hm)
  have lrx : Hid (∀ (W : World) L g, RowsAt W L → (g, 26, x) ∈ L → (loadVar 26 ⟨g, 0, none⟩).run Try.prog W = .ok (.agg (bcells x).toArray) W) := Lib.hid (fun W L g h hm => h.load26 hm)
  have ldxl : Hid (∀ (W : World) L g, RowsAt W L → (g, 23, xl) ∈ L → (loadVar 23 ⟨g, 0, none⟩).run Try.prog W = .ok (.agg (bcells xl).toArray) W) := Lib.hid (fun W L g h hm => h.load23 hm)
  have lrxl : Hid (∀ (W : World) L g, RowsAt W L → (g, 26, xl) ∈ L → (loadVar 26 ⟨g, 0, none⟩).run Try.prog W = .ok (.agg (bcells xl).toArray) W) := Lib.hid (fun W L g h hm => h.load26 hm)
  have ldxh : Hid (∀ (W : World) L g, RowsAt W L → (g, 23, xh) ∈ L → (loadVar 23 ⟨g, 0, none⟩).run Try.prog W = .ok (.agg (bcells xh).toArray) W) := Lib.hid (fun W L g h hm => h.load23 hm)
  have lrxh : Hid (∀ (W : World) L g, RowsAt W L → (g, 26, xh) ∈ L → (loadVar 26 ⟨g, 0, none⟩).run Try.prog W = .ok (.agg (bcells xh).toArray) W) := Lib.hid (fun W L g h hm => h.load26 hm)
  have ldxd : Hid (∀ (W : World) L g, RowsAt W L → (g, 23, xd) ∈ L → (loadVar 23 ⟨g, 0, none⟩).run Try.prog W = .ok (.agg (bcells xd).toArray) W) := Lib.hid (fun W L g h hm => h.load23 hm)
  have lrxd : Hid (∀ (W : World) L g, RowsAt W L → (g, 26, xd) ∈ L → (loadVar 26 ⟨g, 0, none⟩).run Try.prog W = .ok (.agg (bcells xd).toArray) W) := Lib.hid (fun W L g h hm => h.load26 hm)
  have hIxl := Lib.hid (bc_info26 hl.len)
  have hJxl := Lib.hid (bc_info hl.len)
  have hSxl : Hid ((bcells (List.replicate 20 0)).toArray.size = (bcells xl).toArray.size) := Lib.hid (by rw [bc_size (by simp), bc_size hl.len])
  have hTxl := Lib.hid (bc_all xl)
  have Nxl : Hid (∀ (W : World) L, RowsAt W L → ∀ Z t, RowsAt ((W.alloc (.cells Z t)).setRow W.heap.size (bcells xl).toArray) ((W.heap.size, t, xl) :: L)) := Lib.hid (fun W L h Z t => h.new hl.len Z t)
  have exl : ∀ W, (Op.equalIn 10000 26 (.agg (bcells xl).toArray) (.agg (bcells xl).toArray)).run Try.prog W = .ok true W := fun W => by
    have := eq42 xl xl hl.len hl.len W
    rwa [beq_self_eq_true] at this
  have hIxh := Lib.hid (bc_info26 hh.len)
  have hJxh := Lib.hid (bc_info hh.len)
  have hSxh : Hid ((bcells (List.replicate 20 0)).toArray.size = (bcells xh).toArray.size) := Lib.hid (by rw [bc_size (by simp), bc_size hh.len])
  have hTxh := Lib.hid (bc_all xh)
  have Nxh : Hid (∀ (W : World) L, RowsAt W L → ∀ Z t, RowsAt ((W.alloc (.cells Z t)).setRow W.heap.size (bcells xh).toArray) ((W.heap.size, t, xh) :: L)) := Lib.hid (fun W L h Z t => h.new hh.len Z t)
  have exh : ∀ W, (Op.equalIn 10000 26 (.agg (bcells xh).toArray) (.agg (bcells xh).toArray)).run Try.prog W = .ok true W := fun W => by
    have := eq42 xh xh hh.len hh.len W
    rwa [beq_self_eq_true] at this
  have hIxd := Lib.hid (bc_info26 hd.len)
  have hJxd := Lib.hid (bc_info hd.len)
  have hSxd : Hid ((bcells (List.replicate 20 0)).toArray.size = (bcells xd).toArray.size) := Lib.hid (by rw [bc_size (by simp), bc_size hd.len])
  have hTxd := Lib.hid (bc_all xd)
  have Nxd : Hid (∀ (W : World) L, RowsAt W L → ∀ Z t, RowsAt ((W.alloc (.cells Z t)).setRow W.heap.size (bcells xd).toArray) ((W.heap.size, t, xd) :: L)) := Lib.hid (fun W L h Z t => h.new hd.len Z t)
  have exd : ∀ W, (Op.equalIn 10000 26 (.agg (bcells xd).toArray) (.agg (bcells xd).toArray)).run Try.prog W = .ok true W := fun W => by
    have := eq42 xd xd hd.len hd.len W
    rwa [beq_self_eq_true] at this
  have R0 : RowsAt W0 [(w.heap.size, 23, o), (w.heap.size + 1, 23, x)] := RowsAt.cons ho h1 (RowsAt.cons hx h2 RowsAt.nil)
  have HSS : Hid (∀ (W1 : World) g g', Below W0.heap.size W0 W1 → (g = W0.heap.size ∧ g' = W0.heap.size + 1 ∨ g = W0.heap.size + 1 ∧ g' = W0.heap.size) → W1.heap[g]? = some (.cells (bcells (List.replicate 20 0)).toArray 26 (0, 0)) → W1.heap[g']? = some (.cells (bcells (List.replicate 20 0)).toArray 26 (0, 0)) →
      (W1.setRow g (bcells o).toArray).heap[g']? = some (.cells (bcells (List.replicate 20 0)).toArray 26 (0, 0)) ∧ Below W0.heap.size W0 (W1.setRow g (bcells o).toArray) ∧ Below W0.heap.size W0 ((W1.setRow g (bcells o).toArray).setRow g' (bcells x).toArray) ∧ RowsAt ((W1.setRow g (bcells o).toArray).setRow g' (bcells x).toArray) [(g, 26, o), (g', 26, x), (w.heap.size, 23, o), (w.heap.size + 1, 23, x)]) := Lib.hid (fun W1 g g' hb hg k1 k2 => by
    have hne : g ≠ g' := by omega
    have b1 : Below W0.heap.size W0 (W1.setRow g (bcells o).toArray) := below_setRow hb (by omega) _
    have b2 : Below W0.heap.size W0 ((W1.setRow g (bcells o).toArray).setRow g' (bcells x).toArray) := below_setRow b1 (by omega) _
    have r1 : (W1.setRow g (bcells o).toArray).heap[g']? = some (.cells (bcells (List.replicate 20 0)).toArray 26 (0, 0)) := by rw [setRow_other _ _ _ _ (Ne.symm hne)]; exact k2
    refine ⟨r1, b1, b2, RowsAt.cons ho ?_ (RowsAt.cons hx (setRow_heap _ _ _ _ 26 (0, 0) r1) (R0.below b2))⟩
    rw [setRow_other _ _ _ _ hne]
    exact setRow_heap _ _ _ _ 26 (0, 0) k1)
  have HIO := Lib.hid (bc_info ho)
  have HIX := Lib.hid (bc_info hx)
  have HSO : Hid ((bcells (List.replicate 20 0)).toArray.size = (bcells o).toArray.size) := Lib.hid (by rw [bc_size (by simp), bc_size ho])
  have HSX : Hid ((bcells (List.replicate 20 0)).toArray.size = (bcells x).toArray.size) := Lib.hid (by rw [bc_size (by simp), bc_size hx])
  have HTO := Lib.hid (bc_all o)
  have HTX := Lib.hid (bc_all x)
  have L1 : Hid (∀ W, Below W0.heap.size W0 W → (loadVar 23 ⟨w.heap.size, 0, none⟩).run Try.prog W = .ok (.agg (bcells o).toArray) W) := Lib.hid (fun W h => (R0.below h).load23 (.head _))
  have L2 : Hid (∀ W, Below W0.heap.size W0 W → (loadVar 23 ⟨w.heap.size + 1, 0, none⟩).run Try.prog W = .ok (.agg (bcells x).toArray) W) := Lib.hid (fun W h => (R0.below h).load23 (.tail _ (.head _)))
  have HBL := Lib.hid hb0
  have HW := Lib.hid hW0
  have hL' : ¬ (100 : Int) < (m : Int) := by omega
  rw [← hm]
  clear hA h1 h2 hb0 hW0 hm hL hA0 R0 hsz
  generalize (bcells o).toArray = OA at *
  generalize (bcells x).toArray = XA at *
  generalize (bcells xl).toArray = LA at *
  generalize (bcells xh).toArray = HA at *
  generalize (bcells xd).toArray = DA at *
  generalize (bcells (List.replicate 20 0)).toArray = Z at *
  clear hl hh hd ho hx
  generalize idxN o x = n at *
  generalize idxB o x = nb at *
  generalize (nb && ((n : Int) == i)) = hb at *
  generalize nearL o x 160 = NL at *
  go_enter Try.func3, Try.ntmps3
  go_upto_region 3 with fail
  rw [← HW.out]
  clear HW
  have hS0 : Below W0.heap.size W0 W0.drew := (Below.refl _ W0).drew
  refine wp_region_noPanic ?_
  refine wp_region_held_drew (S := fun w' => Below W0.heap.size W0 w') (by kernel_rfl) hS0 (fun hHeld => ?_)
  refine takeH_at 0 31 (v := .agg OA) rfl rfl (by kernel_rfl) (by kernel_rfl) (by kernel_rfl) (fun _ _ _ h => h) (yieldsIf_loadS (by rfl) 23 (.tmp 4) rfl _ rfl _ L1.out) (by assumption) ?_
  simp only [Act.put, List.setIfInBounds_toArray, List.set_cons_zero, List.set_cons_succ]
  refine takeH_at 1 32 (v := .agg XA) rfl rfl (by kernel_rfl) (by kernel_rfl) (by kernel_rfl) (fun _ _ _ h => h) (yieldsIf_loadS (by rfl) 23 (.tmp 5) rfl _ rfl _ L2.out) (by assumption) ?_
  simp only [Act.put, List.setIfInBounds_toArray, List.set_cons_zero, List.set_cons_succ]
  refine diamond_alloc 2 3 9 10 rfl rfl rfl rfl 26 26 rfl rfl (by kernel_rfl) (by kernel_rfl) (by kernel_rfl) (by omega) (by omega) rfl rfl Z (alloc_run 26 rfl Z hz2) (alloc_run 26 rfl Z hz2) (fun w o h => h.alloc h.size o) hHeld ?_
  intro g g' w3 hg hS3 hb3 k1 k2
  simp only [Act.put, List.setIfInBounds_toArray, List.set_cons_zero, List.set_cons_succ]
  obtain ⟨r1, r2, r3, R⟩ := HSS.out w3 g g' hS3 (by simpa using hg) k1 k2
  refine single_store 4 rfl rfl (by kernel_rfl) (by rfl) 26 (.tmp 9) (.tmp 31) rfl g OA rfl rfl 26 Z k1 HIO.out HSO.out HTO.out r2 ?_
  refine single_store 5 rfl rfl (by kernel_rfl) (by rfl) 26 (.tmp 10) (.tmp 32) rfl g' XA rfl rfl 26 Z r1 HIX.out HSX.out HTX.out r3 ?_
  refine wpAnyH_done (by kernel_rfl) ?_ _
  refine NoPanic.normal ?_
  have HB := r3
  generalize (w3.setRow g OA).setRow g' XA = W3 at R HB ⊢
  clear hg hS3 hb3 k1 k2 r1 r2 r3 hS0 hHeld HSS HIO HIX HSO HSX HTO HTX L1 L2
  have k1 := Lib.hid (ldo.out _ _ w.heap.size R (by first | exact .head _ | exact .tail _ (.head _) | exact .tail _ (.tail _ (.head _)) | exact .tail _ (.tail _ (.tail _ (.head _))) | exact .tail _ (.tail _ (.tail _ (.tail _ (.head _)))) | exact .tail _ (.tail _ (.tail _ (.tail _ (.tail _ (.head _))))) | exact .tail _ (.tail _ (.tail _ (.tail _ (.tail _ (.tail _ (.head _)))))) | exact .tail _ (.tail _ (.tail _ (.tail _ (.tail _ (.tail _ (.tail _ (.head _))))))) | exact .tail _ (.tail _ (.tail _ (.tail _ (.tail _ (.tail _ (.tail _ (.tail _ (.head _)))))))) | exact .tail _ (.tail _ (.tail _ (.tail _ (.tail _ (.tail _ (.tail _ (.tail _ (.tail _ (.head _)))))))))))
  have k2 := Lib.hid (ldx.out _ _ (w.heap.size + 1) R (by first | exact .head _ | exact .tail _ (.head _) | exact .tail _ (.tail _ (.head _)) | exact .tail _ (.tail _ (.tail _ (.head _))) | exact .tail _ (.tail _ (.tail _ (.tail _ (.head _)))) | exact .tail _ (.tail _ (.tail _ (.tail _ (.tail _ (.head _))))) | exact .tail _ (.tail _ (.tail _ (.tail _ (.tail _ (.tail _ (.head _)))))) | exact .tail _ (.tail _ (.tail _ (.tail _ (.tail _ (.tail _ (.tail _ (.head _))))))) | exact .tail _ (.tail _ (.tail _ (.tail _ (.tail _ (.tail _ (.tail _ (.tail _ (.head _)))))))) | exact .tail _ (.tail _ (.tail _ (.tail _ (.tail _ (.tail _ (.tail _ (.tail _ (.tail _ (.head _)))))))))))
  go_upto_region 5 with (first
    | ((with_reducible refine wpList_loadV (op := ⟨some 34, _, _, _, _, _⟩) rfl 23 (.tmp 4) rfl _ ?_ _ k1.out ?_); rfl)
    | ((with_reducible refine wpList_loadV (op := ⟨some 35, _, _, _, _, _⟩) rfl 23 (.tmp 5) rfl _ ?_ _ k2.out ?_); rfl)
    | (go_at_call 7; (with_reducible refine (C7.out _).mono ?_); rintro e w4 ⟨rfl, hb1⟩; replace R := R.below hb1; replace HB := HB.trans (hb1.mono HB.size); clear hb1))
  clear k1 k2
  have k1 := Lib.hid (lro.out _ _ g R (by first | exact .head _ | exact .tail _ (.head _) | exact .tail _ (.tail _ (.head _)) | exact .tail _ (.tail _ (.tail _ (.head _))) | exact .tail _ (.tail _ (.tail _ (.tail _ (.head _)))) | exact .tail _ (.tail _ (.tail _ (.tail _ (.tail _ (.head _))))) | exact .tail _ (.tail _ (.tail _ (.tail _ (.tail _ (.tail _ (.head _)))))) | exact .tail _ (.tail _ (.tail _ (.tail _ (.tail _ (.tail _ (.tail _ (.head _))))))) | exact .tail _ (.tail _ (.tail _ (.tail _ (.tail _ (.tail _ (.tail _ (.tail _ (.head _)))))))) | exact .tail _ (.tail _ (.tail _ (.tail _ (.tail _ (.tail _ (.tail _ (.tail _ (.tail _ (.head _)))))))))))
  have k2 := Lib.hid (lrx.out _ _ g' R (by first | exact .head _ | exact .tail _ (.head _) | exact .tail _ (.tail _ (.head _)) | exact .tail _ (.tail _ (.tail _ (.head _))) | exact .tail _ (.tail _ (.tail _ (.tail _ (.head _)))) | exact .tail _ (.tail _ (.tail _ (.tail _ (.tail _ (.head _))))) | exact .tail _ (.tail _ (.tail _ (.tail _ (.tail _ (.tail _ (.head _)))))) | exact .tail _ (.tail _ (.tail _ (.tail _ (.tail _ (.tail _ (.tail _ (.head _))))))) | exact .tail _ (.tail _ (.tail _ (.tail _ (.tail _ (.tail _ (.tail _ (.tail _ (.head _)))))))) | exact .tail _ (.tail _ (.tail _ (.tail _ (.tail _ (.tail _ (.tail _ (.tail _ (.tail _ (.head _)))))))))))
  go_upto_region 6 with (first
    | ((with_reducible refine wpList_loadV (op := ⟨some 40, _, _, _, _, _⟩) rfl 26 (.tmp 9) rfl _ ?_ _ k1.out ?_); rfl)
    | ((with_reducible refine wpList_loadV (op := ⟨some 41, _, _, _, _, _⟩) rfl 26 (.tmp 10) rfl _ ?_ _ k2.out ?_); rfl)
    | (go_at_call 8; (with_reducible refine (C8.out _).mono ?_); rintro e w5 ⟨rfl, hb1⟩; replace R := R.below hb1; replace HB := HB.trans (hb1.mono HB.size); clear hb1))
  clear k1 k2
  have k1 := Lib.hid (ldo.out _ _ w.heap.size R (by first | exact .head _ | exact .tail _ (.head _) | exact .tail _ (.tail _ (.head _)) | exact .tail _ (.tail _ (.tail _ (.head _))) | exact .tail _ (.tail _ (.tail _ (.tail _ (.head _)))) | exact .tail _ (.tail _ (.tail _ (.tail _ (.tail _ (.head _))))) | exact .tail _ (.tail _ (.tail _ (.tail _ (.tail _ (.tail _ (.head _)))))) | exact .tail _ (.tail _ (.tail _ (.tail _ (.tail _ (.tail _ (.tail _ (.head _))))))) | exact .tail _ (.tail _ (.tail _ (.tail _ (.tail _ (.tail _ (.tail _ (.tail _ (.head _)))))))) | exact .tail _ (.tail _ (.tail _ (.tail _ (.tail _ (.tail _ (.tail _ (.tail _ (.tail _ (.head _)))))))))))
  go_upto_region 7 with (first
    | ((with_reducible refine wpList_loadV (op := ⟨some 46, _, _, _, _, _⟩) rfl 23 (.tmp 4) rfl _ ?_ _ k1.out ?_); rfl)
    | (go_at_call 9; (with_reducible refine (C9.out _).mono ?_); rintro e w6 ⟨rfl, hb1⟩; replace R := R.below hb1; replace HB := HB.trans (hb1.mono HB.size); clear hb1)
    | ((with_reducible refine wpList_store_row rfl 23 (.tmp 15) (.tmp 49) rfl w6.heap.size LA ?_ ?_ 23 Z (heap_alloc_new w6 _) hIxl.out hSxl.out hTxl.out ?_); rfl; rfl))
  clear k1
  replace R := Nxl.out _ _ R Z 23
  replace HB := HB.trans ((below_new (W := w6) Z LA 23).mono HB.size)
  generalize (w6.alloc (.cells Z 23)).setRow w6.heap.size LA = W6 at R HB ⊢
  generalize w6.heap.size = g15 at R HB ⊢
  have k1 := Lib.hid (lro.out _ _ g R (by first | exact .head _ | exact .tail _ (.head _) | exact .tail _ (.tail _ (.head _)) | exact .tail _ (.tail _ (.tail _ (.head _))) | exact .tail _ (.tail _ (.tail _ (.tail _ (.head _)))) | exact .tail _ (.tail _ (.tail _ (.tail _ (.tail _ (.head _))))) | exact .tail _ (.tail _ (.tail _ (.tail _ (.tail _ (.tail _ (.head _)))))) | exact .tail _ (.tail _ (.tail _ (.tail _ (.tail _ (.tail _ (.tail _ (.head _))))))) | exact .tail _ (.tail _ (.tail _ (.tail _ (.tail _ (.tail _ (.tail _ (.tail _ (.head _)))))))) | exact .tail _ (.tail _ (.tail _ (.tail _ (.tail _ (.tail _ (.tail _ (.tail _ (.tail _ (.head _)))))))))))
  go_upto_region 8 with (first
    | ((with_reducible refine wpList_loadV (op := ⟨some 52, _, _, _, _, _⟩) rfl 26 (.tmp 9) rfl _ ?_ _ k1.out ?_); rfl)
    | (go_at_call 10; (with_reducible refine (C10.out _).mono ?_); rintro e w7 ⟨rfl, hb1⟩; replace R := R.below hb1; replace HB := HB.trans (hb1.mono HB.size); clear hb1)
    | ((with_reducible refine wpList_store_row rfl 26 (.tmp 17) (.tmp 55) rfl w7.heap.size LA ?_ ?_ 26 Z (heap_alloc_new w7 _) hJxl.out hSxl.out hTxl.out ?_); rfl; rfl))
  clear k1
  replace R := Nxl.out _ _ R Z 26
  replace HB := HB.trans ((below_new (W := w7) Z LA 26).mono HB.size)
  generalize (w7.alloc (.cells Z 26)).setRow w7.heap.size LA = W7 at R HB ⊢
  generalize w7.heap.size = g17 at R HB ⊢
  have k1 := Lib.hid (ldo.out _ _ w.heap.size R (by first | exact .head _ | exact .tail _ (.head _) | exact .tail _ (.tail _ (.head _)) | exact .tail _ (.tail _ (.tail _ (.head _))) | exact .tail _ (.tail _ (.tail _ (.tail _ (.head _)))) | exact .tail _ (.tail _ (.tail _ (.tail _ (.tail _ (.head _))))) | exact .tail _ (.tail _ (.tail _ (.tail _ (.tail _ (.tail _ (.head _)))))) | exact .tail _ (.tail _ (.tail _ (.tail _ (.tail _ (.tail _ (.tail _ (.head _))))))) | exact .tail _ (.tail _ (.tail _ (.tail _ (.tail _ (.tail _ (.tail _ (.tail _ (.head _)))))))) | exact .tail _ (.tail _ (.tail _ (.tail _ (.tail _ (.tail _ (.tail _ (.tail _ (.tail _ (.head _)))))))))))
  go_upto_region 9 with (first
    | ((with_reducible refine wpList_loadV (op := ⟨some 58, _, _, _, _, _⟩) rfl 23 (.tmp 4) rfl _ ?_ _ k1.out ?_); rfl)
    | (go_at_call 11; (with_reducible refine (C11.out _).mono ?_); rintro e w8 ⟨rfl, hb1⟩; replace R := R.below hb1; replace HB := HB.trans (hb1.mono HB.size); clear hb1)
    | ((with_reducible refine wpList_store_row rfl 23 (.tmp 19) (.tmp 61) rfl w8.heap.size HA ?_ ?_ 23 Z (heap_alloc_new w8 _) hIxh.out hSxh.out hTxh.out ?_); rfl; rfl))
  clear k1
  replace R := Nxh.out _ _ R Z 23
  replace HB := HB.trans ((below_new (W := w8) Z HA 23).mono HB.size)
  generalize (w8.alloc (.cells Z 23)).setRow w8.heap.size HA = W8 at R HB ⊢
  generalize w8.heap.size = g19 at R HB ⊢
  have k1 := Lib.hid (lro.out _ _ g R (by first | exact .head _ | exact .tail _ (.head _) | exact .tail _ (.tail _ (.head _)) | exact .tail _ (.tail _ (.tail _ (.head _))) | exact .tail _ (.tail _ (.tail _ (.tail _ (.head _)))) | exact .tail _ (.tail _ (.tail _ (.tail _ (.tail _ (.head _))))) | exact .tail _ (.tail _ (.tail _ (.tail _ (.tail _ (.tail _ (.head _)))))) | exact .tail _ (.tail _ (.tail _ (.tail _ (.tail _ (.tail _ (.tail _ (.head _))))))) | exact .tail _ (.tail _ (.tail _ (.tail _ (.tail _ (.tail _ (.tail _ (.tail _ (.head _)))))))) | exact .tail _ (.tail _ (.tail _ (.tail _ (.tail _ (.tail _ (.tail _ (.tail _ (.tail _ (.head _)))))))))))
  go_upto_region 10 with (first
    | ((with_reducible refine wpList_loadV (op := ⟨some 64, _, _, _, _, _⟩) rfl 26 (.tmp 9) rfl _ ?_ _ k1.out ?_); rfl)
    | (go_at_call 12; (with_reducible refine (C12.out _).mono ?_); rintro e w9 ⟨rfl, hb1⟩; replace R := R.below hb1; replace HB := HB.trans (hb1.mono HB.size); clear hb1)
    | ((with_reducible refine wpList_store_row rfl 26 (.tmp 21) (.tmp 67) rfl w9.heap.size HA ?_ ?_ 26 Z (heap_alloc_new w9 _) hJxh.out hSxh.out hTxh.out ?_); rfl; rfl))
  clear k1
  replace R := Nxh.out _ _ R Z 26
  replace HB := HB.trans ((below_new (W := w9) Z HA 26).mono HB.size)
  generalize (w9.alloc (.cells Z 26)).setRow w9.heap.size HA = W9 at R HB ⊢
  generalize w9.heap.size = g21 at R HB ⊢
  have k1 := Lib.hid (ldo.out _ _ w.heap.size R (by first | exact .head _ | exact .tail _ (.head _) | exact .tail _ (.tail _ (.head _)) | exact .tail _ (.tail _ (.tail _ (.head _))) | exact .tail _ (.tail _ (.tail _ (.tail _ (.head _)))) | exact .tail _ (.tail _ (.tail _ (.tail _ (.tail _ (.head _))))) | exact .tail _ (.tail _ (.tail _ (.tail _ (.tail _ (.tail _ (.head _)))))) | exact .tail _ (.tail _ (.tail _ (.tail _ (.tail _ (.tail _ (.tail _ (.head _))))))) | exact .tail _ (.tail _ (.tail _ (.tail _ (.tail _ (.tail _ (.tail _ (.tail _ (.head _)))))))) | exact .tail _ (.tail _ (.tail _ (.tail _ (.tail _ (.tail _ (.tail _ (.tail _ (.tail _ (.head _)))))))))))
  go_upto_region 11 with (first
    | ((with_reducible refine wpList_loadV (op := ⟨some 70, _, _, _, _, _⟩) rfl 23 (.tmp 4) rfl _ ?_ _ k1.out ?_); rfl)
    | (go_at_call 13; (with_reducible refine (C13.out _ HB).mono ?_); rintro e w10 ⟨rfl, hb1⟩; replace R := R.below hb1; replace HB := HB.trans (hb1.mono HB.size); clear hb1)
    | ((with_reducible refine wpList_store_row rfl 23 (.tmp 23) (.tmp 74) rfl w10.heap.size DA ?_ ?_ 23 Z (heap_alloc_new w10 _) hIxd.out hSxd.out hTxd.out ?_); rfl; rfl))
  clear k1
  replace R := Nxd.out _ _ R Z 23
  replace HB := HB.trans ((below_new (W := w10) Z DA 23).mono HB.size)
  generalize (w10.alloc (.cells Z 23)).setRow w10.heap.size DA = W10 at R HB ⊢
  generalize w10.heap.size = g23 at R HB ⊢
  have k1 := Lib.hid (lro.out _ _ g R (by first | exact .head _ | exact .tail _ (.head _) | exact .tail _ (.tail _ (.head _)) | exact .tail _ (.tail _ (.tail _ (.head _))) | exact .tail _ (.tail _ (.tail _ (.tail _ (.head _)))) | exact .tail _ (.tail _ (.tail _ (.tail _ (.tail _ (.head _))))) | exact .tail _ (.tail _ (.tail _ (.tail _ (.tail _ (.tail _ (.head _)))))) | exact .tail _ (.tail _ (.tail _ (.tail _ (.tail _ (.tail _ (.tail _ (.head _))))))) | exact .tail _ (.tail _ (.tail _ (.tail _ (.tail _ (.tail _ (.tail _ (.tail _ (.head _)))))))) | exact .tail _ (.tail _ (.tail _ (.tail _ (.tail _ (.tail _ (.tail _ (.tail _ (.tail _ (.head _)))))))))))
  go_upto_region 12 with (first
    | ((with_reducible refine wpList_loadV (op := ⟨some 77, _, _, _, _, _⟩) rfl 26 (.tmp 9) rfl _ ?_ _ k1.out ?_); rfl)
    | (go_at_call 14; (with_reducible refine (C14.out _ HB).mono ?_); rintro e w11 ⟨rfl, hb1⟩; replace R := R.below hb1; replace HB := HB.trans (hb1.mono HB.size); clear hb1)
    | ((with_reducible refine wpList_store_row rfl 26 (.tmp 25) (.tmp 81) rfl w11.heap.size DA ?_ ?_ 26 Z (heap_alloc_new w11 _) hJxd.out hSxd.out hTxd.out ?_); rfl; rfl))
  clear k1
  replace R := Nxd.out _ _ R Z 26
  replace HB := HB.trans ((below_new (W := w11) Z DA 26).mono HB.size)
  generalize (w11.alloc (.cells Z 26)).setRow w11.heap.size DA = W11 at R HB ⊢
  generalize w11.heap.size = g25 at R HB ⊢
  have K15 := Lib.hid (ldxl.out W11 _ g15 R (by first | exact .head _ | exact .tail _ (.head _) | exact .tail _ (.tail _ (.head _)) | exact .tail _ (.tail _ (.tail _ (.head _))) | exact .tail _ (.tail _ (.tail _ (.tail _ (.head _)))) | exact .tail _ (.tail _ (.tail _ (.tail _ (.tail _ (.head _))))) | exact .tail _ (.tail _ (.tail _ (.tail _ (.tail _ (.tail _ (.head _)))))) | exact .tail _ (.tail _ (.tail _ (.tail _ (.tail _ (.tail _ (.tail _ (.head _))))))) | exact .tail _ (.tail _ (.tail _ (.tail _ (.tail _ (.tail _ (.tail _ (.tail _ (.head _)))))))) | exact .tail _ (.tail _ (.tail _ (.tail _ (.tail _ (.tail _ (.tail _ (.tail _ (.tail _ (.head _)))))))))))
  have K17 := Lib.hid (lrxl.out W11 _ g17 R (by first | exact .head _ | exact .tail _ (.head _) | exact .tail _ (.tail _ (.head _)) | exact .tail _ (.tail _ (.tail _ (.head _))) | exact .tail _ (.tail _ (.tail _ (.tail _ (.head _)))) | exact .tail _ (.tail _ (.tail _ (.tail _ (.tail _ (.head _))))) | exact .tail _ (.tail _ (.tail _ (.tail _ (.tail _ (.tail _ (.head _)))))) | exact .tail _ (.tail _ (.tail _ (.tail _ (.tail _ (.tail _ (.tail _ (.head _))))))) | exact .tail _ (.tail _ (.tail _ (.tail _ (.tail _ (.tail _ (.tail _ (.tail _ (.head _)))))))) | exact .tail _ (.tail _ (.tail _ (.tail _ (.tail _ (.tail _ (.tail _ (.tail _ (.tail _ (.head _)))))))))))
  have K19 := Lib.hid (ldxh.out W11 _ g19 R (by first | exact .head _ | exact .tail _ (.head _) | exact .tail _ (.tail _ (.head _)) | exact .tail _ (.tail _ (.tail _ (.head _))) | exact .tail _ (.tail _ (.tail _ (.tail _ (.head _)))) | exact .tail _ (.tail _ (.tail _ (.tail _ (.tail _ (.head _))))) | exact .tail _ (.tail _ (.tail _ (.tail _ (.tail _ (.tail _ (.head _)))))) | exact .tail _ (.tail _ (.tail _ (.tail _ (.tail _ (.tail _ (.tail _ (.head _))))))) | exact .tail _ (.tail _ (.tail _ (.tail _ (.tail _ (.tail _ (.tail _ (.tail _ (.head _)))))))) | exact .tail _ (.tail _ (.tail _ (.tail _ (.tail _ (.tail _ (.tail _ (.tail _ (.tail _ (.head _)))))))))))
  have K21 := Lib.hid (lrxh.out W11 _ g21 R (by first | exact .head _ | exact .tail _ (.head _) | exact .tail _ (.tail _ (.head _)) | exact .tail _ (.tail _ (.tail _ (.head _))) | exact .tail _ (.tail _ (.tail _ (.tail _ (.head _)))) | exact .tail _ (.tail _ (.tail _ (.tail _ (.tail _ (.head _))))) | exact .tail _ (.tail _ (.tail _ (.tail _ (.tail _ (.tail _ (.head _)))))) | exact .tail _ (.tail _ (.tail _ (.tail _ (.tail _ (.tail _ (.tail _ (.head _))))))) | exact .tail _ (.tail _ (.tail _ (.tail _ (.tail _ (.tail _ (.tail _ (.tail _ (.head _)))))))) | exact .tail _ (.tail _ (.tail _ (.tail _ (.tail _ (.tail _ (.tail _ (.tail _ (.tail _ (.head _)))))))))))
  have M23 : Hid (∀ W, Below W11.heap.size W11 W → (loadVar 23 ⟨g23, 0, none⟩).run Try.prog W = .ok (.agg DA) W) := Lib.hid (fun W h => ldxd.out W _ g23 (R.below h) (by first | exact .head _ | exact .tail _ (.head _) | exact .tail _ (.tail _ (.head _)) | exact .tail _ (.tail _ (.tail _ (.head _))) | exact .tail _ (.tail _ (.tail _ (.tail _ (.head _)))) | exact .tail _ (.tail _ (.tail _ (.tail _ (.tail _ (.head _))))) | exact .tail _ (.tail _ (.tail _ (.tail _ (.tail _ (.tail _ (.head _)))))) | exact .tail _ (.tail _ (.tail _ (.tail _ (.tail _ (.tail _ (.tail _ (.head _))))))) | exact .tail _ (.tail _ (.tail _ (.tail _ (.tail _ (.tail _ (.tail _ (.tail _ (.head _)))))))) | exact .tail _ (.tail _ (.tail _ (.tail _ (.tail _ (.tail _ (.tail _ (.tail _ (.tail _ (.head _)))))))))))
  have M25 : Hid (∀ W, Below W11.heap.size W11 W → (loadVar 26 ⟨g25, 0, none⟩).run Try.prog W = .ok (.agg DA) W) := Lib.hid (fun W h => lrxd.out W _ g25 (R.below h) (by first | exact .head _ | exact .tail _ (.head _) | exact .tail _ (.tail _ (.head _)) | exact .tail _ (.tail _ (.tail _ (.head _))) | exact .tail _ (.tail _ (.tail _ (.tail _ (.head _)))) | exact .tail _ (.tail _ (.tail _ (.tail _ (.tail _ (.head _))))) | exact .tail _ (.tail _ (.tail _ (.tail _ (.tail _ (.tail _ (.head _)))))) | exact .tail _ (.tail _ (.tail _ (.tail _ (.tail _ (.tail _ (.tail _ (.head _))))))) | exact .tail _ (.tail _ (.tail _ (.tail _ (.tail _ (.tail _ (.tail _ (.tail _ (.head _)))))))) | exact .tail _ (.tail _ (.tail _ (.tail _ (.tail _ (.tail _ (.tail _ (.tail _ (.tail _ (.head _)))))))))))
  have M4 : Hid (∀ W, Below W11.heap.size W11 W → (loadVar 23 ⟨w.heap.size, 0, none⟩).run Try.prog W = .ok (.agg OA) W) := Lib.hid (fun W h => ldo.out W _ w.heap.size (R.below h) (by first | exact .head _ | exact .tail _ (.head _) | exact .tail _ (.tail _ (.head _)) | exact .tail _ (.tail _ (.tail _ (.head _))) | exact .tail _ (.tail _ (.tail _ (.tail _ (.head _)))) | exact .tail _ (.tail _ (.tail _ (.tail _ (.tail _ (.head _))))) | exact .tail _ (.tail _ (.tail _ (.tail _ (.tail _ (.tail _ (.head _)))))) | exact .tail _ (.tail _ (.tail _ (.tail _ (.tail _ (.tail _ (.tail _ (.head _))))))) | exact .tail _ (.tail _ (.tail _ (.tail _ (.tail _ (.tail _ (.tail _ (.tail _ (.head _)))))))) | exact .tail _ (.tail _ (.tail _ (.tail _ (.tail _ (.tail _ (.tail _ (.tail _ (.tail _ (.head _)))))))))))
  have M5 : Hid (∀ W, Below W11.heap.size W11 W → (loadVar 23 ⟨(w.heap.size + 1), 0, none⟩).run Try.prog W = .ok (.agg XA) W) := Lib.hid (fun W h => ldx.out W _ (w.heap.size + 1) (R.below h) (by first | exact .head _ | exact .tail _ (.head _) | exact .tail _ (.tail _ (.head _)) | exact .tail _ (.tail _ (.tail _ (.head _))) | exact .tail _ (.tail _ (.tail _ (.tail _ (.head _)))) | exact .tail _ (.tail _ (.tail _ (.tail _ (.tail _ (.head _))))) | exact .tail _ (.tail _ (.tail _ (.tail _ (.tail _ (.tail _ (.head _)))))) | exact .tail _ (.tail _ (.tail _ (.tail _ (.tail _ (.tail _ (.tail _ (.head _))))))) | exact .tail _ (.tail _ (.tail _ (.tail _ (.tail _ (.tail _ (.tail _ (.tail _ (.head _)))))))) | exact .tail _ (.tail _ (.tail _ (.tail _ (.tail _ (.tail _ (.tail _ (.tail _ (.tail _ (.head _)))))))))))
  have M9 : Hid (∀ W, Below W11.heap.size W11 W → (loadVar 26 ⟨g, 0, none⟩).run Try.prog W = .ok (.agg OA) W) := Lib.hid (fun W h => lro.out W _ g (R.below h) (by first | exact .head _ | exact .tail _ (.head _) | exact .tail _ (.tail _ (.head _)) | exact .tail _ (.tail _ (.tail _ (.head _))) | exact .tail _ (.tail _ (.tail _ (.tail _ (.head _)))) | exact .tail _ (.tail _ (.tail _ (.tail _ (.tail _ (.head _))))) | exact .tail _ (.tail _ (.tail _ (.tail _ (.tail _ (.tail _ (.head _)))))) | exact .tail _ (.tail _ (.tail _ (.tail _ (.tail _ (.tail _ (.tail _ (.head _))))))) | exact .tail _ (.tail _ (.tail _ (.tail _ (.tail _ (.tail _ (.tail _ (.tail _ (.head _)))))))) | exact .tail _ (.tail _ (.tail _ (.tail _ (.tail _ (.tail _ (.tail _ (.tail _ (.tail _ (.head _)))))))))))
  have M10 : Hid (∀ W, Below W11.heap.size W11 W → (loadVar 26 ⟨g', 0, none⟩).run Try.prog W = .ok (.agg XA) W) := Lib.hid (fun W h => lrx.out W _ g' (R.below h) (by first | exact .head _ | exact .tail _ (.head _) | exact .tail _ (.tail _ (.head _)) | exact .tail _ (.tail _ (.tail _ (.head _))) | exact .tail _ (.tail _ (.tail _ (.tail _ (.head _)))) | exact .tail _ (.tail _ (.tail _ (.tail _ (.tail _ (.head _))))) | exact .tail _ (.tail _ (.tail _ (.tail _ (.tail _ (.tail _ (.head _)))))) | exact .tail _ (.tail _ (.tail _ (.tail _ (.tail _ (.tail _ (.tail _ (.head _))))))) | exact .tail _ (.tail _ (.tail _ (.tail _ (.tail _ (.tail _ (.tail _ (.tail _ (.head _)))))))) | exact .tail _ (.tail _ (.tail _ (.tail _ (.tail _ (.tail _ (.tail _ (.tail _ (.tail _ (.head _)))))))))))
  have HBB := Lib.hid HB
  clear R HB C7 C8 C9 C10 C11 C12 C13 C14 ldo ldx ldxl ldxh ldxd lro lrx lrxl lrxh lrxd hIxl hJxl hSxl hTxl Nxl hIxh hJxh hSxh hTxh Nxh hIxd hJxd hSxd hTxd Nxd
  cases nb <;> cases bb
  all_goals
    go_upto_region 14 with (first
      | ((with_reducible refine wpList_loadG (op := ⟨some 92, _, _, _, _, _⟩) rfl 23 (.tmp 15) rfl _ ?_ _ K15.out ?_); rfl)
      | ((with_reducible refine wpList_loadG (op := ⟨some 93, _, _, _, _, _⟩) rfl 26 (.tmp 17) rfl _ ?_ _ K17.out ?_); rfl)
      | ((with_reducible refine wpList_loadG (op := ⟨some 102, _, _, _, _, _⟩) rfl 23 (.tmp 19) rfl _ ?_ _ K19.out ?_); rfl)
      | ((with_reducible refine wpList_loadG (op := ⟨some 103, _, _, _, _, _⟩) rfl 26 (.tmp 21) rfl _ ?_ _ K21.out ?_); rfl))
    have hS1 : Below W11.heap.size W11 W11.drew := (Below.refl _ W11).drew
    refine wp_region_noPanic ?_
    refine wp_region_held_drew (S := fun w' => Below W11.heap.size W11 w') (by kernel_rfl) hS1 (fun hHeld => ?_)
    refine takeH_at 0 111 (v := .agg DA) rfl rfl (by kernel_rfl) (by kernel_rfl) (by kernel_rfl) (fun _ _ _ h => h) (yieldsIf_loadS (by rfl) 23 (.tmp 23) rfl _ rfl _ M23.out) (by assumption) ?_
    simp only [Act.put, List.setIfInBounds_toArray, List.set_cons_zero, List.set_cons_succ]
    refine takeH_at 1 112 (v := .agg DA) rfl rfl (by kernel_rfl) (by kernel_rfl) (by kernel_rfl) (fun _ _ _ h => h) (yieldsIf_loadS (by rfl) 26 (.tmp 25) rfl _ rfl _ M25.out) (by assumption) ?_
    simp only [Act.put, List.setIfInBounds_toArray, List.set_cons_zero, List.set_cons_succ]
    refine takeH_at 2 113 (v := ?_) rfl rfl (by kernel_rfl) (by kernel_rfl) (by kernel_rfl) (fun _ _ _ h => h) (Or.inl ⟨by rfl, ?_⟩) (by assumption) ?_
    rotate_left
    · (intro wx hSw; clear hSw; go_simp) <;> with_reducible rfl
    simp only [Act.put, List.setIfInBounds_toArray, List.set_cons_zero, List.set_cons_succ]
    refine takeH_at 3 114 (v := ?_) rfl rfl (by kernel_rfl) (by kernel_rfl) (by kernel_rfl) (fun _ _ _ h => h) (Or.inl ⟨by rfl, ?_⟩) (by assumption) ?_
    rotate_left
    · (intro wx hSw; clear hSw; go_simp) <;> with_reducible rfl
    simp only [Act.put, List.setIfInBounds_toArray, List.set_cons_zero, List.set_cons_succ]
    refine takeH_at 4 115 (v := ?_) rfl rfl (by kernel_rfl) (by kernel_rfl) (by kernel_rfl) (fun _ _ _ h => h) (Or.inl ⟨by rfl, ?_⟩) (by assumption) ?_
    rotate_left
    · (intro wx hSw; clear hSw; go_simp) <;> with_reducible rfl
    simp only [Act.put, List.setIfInBounds_toArray, List.set_cons_zero, List.set_cons_succ]
    refine takeH_at 5 116 (v := ?_) rfl rfl (by kernel_rfl) (by kernel_rfl) (by kernel_rfl) (fun _ _ _ h => h) (Or.inl ⟨by rfl, ?_⟩) (by assumption) ?_
    rotate_left
    · (intro wx hSw; clear hSw; go_simp) <;> with_reducible rfl
    simp only [Act.put, List.setIfInBounds_toArray, List.set_cons_zero, List.set_cons_succ]
    refine takeH_at 6 117 (v := ?_) rfl rfl (by kernel_rfl) (by kernel_rfl) (by kernel_rfl) (fun _ _ _ h => h) (Or.inl ⟨by rfl, ?_⟩) (by assumption) ?_
    rotate_left
    · (intro wx hSw; clear hSw; go_simp) <;> with_reducible rfl
    simp only [Act.put, List.setIfInBounds_toArray, List.set_cons_zero, List.set_cons_succ]
    refine takeH_at 7 118 (v := ?_) rfl rfl (by kernel_rfl) (by kernel_rfl) (by kernel_rfl) (fun _ _ _ h => h) (Or.inl ⟨by rfl, ?_⟩) (by assumption) ?_
    rotate_left
    · (intro wx hSw; clear hSw; go_simp) <;> with_reducible rfl
    simp only [Act.put, List.setIfInBounds_toArray, List.set_cons_zero, List.set_cons_succ]
    refine takeH_at 8 119 (v := ?_) rfl rfl (by kernel_rfl) (by kernel_rfl) (by kernel_rfl) (fun _ _ _ h => h) (Or.inl ⟨by rfl, ?_⟩) (by assumption) ?_
    rotate_left
    · (intro wx hSw; clear hSw; go_simp) <;> with_reducible rfl
    simp only [Act.put, List.setIfInBounds_toArray, List.set_cons_zero, List.set_cons_succ]
    refine takeH_at 9 120 (v := .agg OA) rfl rfl (by kernel_rfl) (by kernel_rfl) (by kernel_rfl) (fun _ _ _ h => h) (yieldsIf_loadS (by rfl) 23 (.tmp 4) rfl _ rfl _ M4.out) (by assumption) ?_
    simp only [Act.put, List.setIfInBounds_toArray, List.set_cons_zero, List.set_cons_succ]
    refine takeH_at 10 121 (v := ?_) rfl rfl (by kernel_rfl) (by kernel_rfl) (by kernel_rfl) (fun _ _ _ h => h) (Or.inl ⟨by rfl, ?_⟩) (by assumption) ?_
    rotate_left
    · (intro wx hSw; clear hSw; go_simp) <;> with_reducible rfl
    simp only [Act.put, List.setIfInBounds_toArray, List.set_cons_zero, List.set_cons_succ]
    refine takeH_at 11 122 (v := .agg XA) rfl rfl (by kernel_rfl) (by kernel_rfl) (by kernel_rfl) (fun _ _ _ h => h) (yieldsIf_loadS (by rfl) 23 (.tmp 5) rfl _ rfl _ M5.out) (by assumption) ?_
    simp only [Act.put, List.setIfInBounds_toArray, List.set_cons_zero, List.set_cons_succ]
    refine takeH_at 13 124 (v := .agg OA) rfl rfl (by kernel_rfl) (by kernel_rfl) (by kernel_rfl) (fun _ _ _ h => h) (yieldsIf_loadS (by rfl) 26 (.tmp 9) rfl _ rfl _ M9.out) (by assumption) ?_
    simp only [Act.put, List.setIfInBounds_toArray, List.set_cons_zero, List.set_cons_succ]
    refine takeH_at 14 125 (v := ?_) rfl rfl (by kernel_rfl) (by kernel_rfl) (by kernel_rfl) (fun _ _ _ h => h) (Or.inl ⟨by rfl, ?_⟩) (by assumption) ?_
    rotate_left
    · (intro wx hSw; clear hSw; go_simp) <;> with_reducible rfl
    simp only [Act.put, List.setIfInBounds_toArray, List.set_cons_zero, List.set_cons_succ]
    refine takeH_at 15 126 (v := .agg XA) rfl rfl (by kernel_rfl) (by kernel_rfl) (by kernel_rfl) (fun _ _ _ h => h) (yieldsIf_loadS (by rfl) 26 (.tmp 10) rfl _ rfl _ M10.out) (by assumption) ?_
    simp only [Act.put, List.setIfInBounds_toArray, List.set_cons_zero, List.set_cons_succ]
    refine single 12 123 rfl rfl (by kernel_rfl) (by rfl) (fun v _ => v = .bool hb) (looseR_call 15 rfl (enters_of Try.func15 (by kernel_rfl) rfl) _ (by simp only [List.map_toArray, List.map_cons, List.map_nil]; rfl) (F15.out _ _ hHeld)) ?_
    intro v123 wa hSa hba hva
    subst hva
    simp only [Act.put, List.setIfInBounds_toArray, List.set_cons_zero, List.set_cons_succ]
    refine single 16 127 rfl rfl (by kernel_rfl) (by rfl) (fun v _ => v = .bool hb) (looseR_call 16 rfl (enters_of Try.func16 (by kernel_rfl) rfl) _ (by simp only [List.map_toArray, List.map_cons, List.map_nil]; rfl) (F16.out _ _ hSa)) ?_
    intro v127 wb hSb hbb hvb
    subst hvb
    simp only [Act.put, List.setIfInBounds_toArray, List.set_cons_zero, List.set_cons_succ]
    have hbe : (hb == hb) = true := by simp
    refine takeH_at 17 128 (v := ?_) rfl rfl (by kernel_rfl) (by kernel_rfl) (by kernel_rfl) (fun _ _ _ h => h) (Or.inl ⟨by rfl, ?_⟩) (by assumption) ?_
    rotate_left
    · (intro wx hSw; clear hSw; go_simp) <;> with_reducible rfl
    simp only [Act.put, List.setIfInBounds_toArray, List.set_cons_zero, List.set_cons_succ]
    refine takeH_at 18 129 (v := ?_) rfl rfl (by kernel_rfl) (by kernel_rfl) (by kernel_rfl) (fun _ _ _ h => h) (Or.inl ⟨by rfl, ?_⟩) (by assumption) ?_
    rotate_left
    · (intro wx hSw; clear hSw; go_simp) <;> with_reducible rfl
    simp only [Act.put, List.setIfInBounds_toArray, List.set_cons_zero, List.set_cons_succ]
    refine takeH_at 19 130 (v := ?_) rfl rfl (by kernel_rfl) (by kernel_rfl) (by kernel_rfl) (fun _ _ _ h => h) (Or.inl ⟨by rfl, ?_⟩) (by assumption) ?_
    rotate_left
    · (intro wx hSw; clear hSw; go_simp) <;> with_reducible rfl
    simp only [Act.put, List.setIfInBounds_toArray, List.set_cons_zero, List.set_cons_succ]
    refine takeH_at 20 131 (v := .agg OA) rfl rfl (by kernel_rfl) (by kernel_rfl) (by kernel_rfl) (fun _ _ _ h => h) (yieldsIf_loadS (by rfl) 23 (.tmp 4) rfl _ rfl _ M4.out) (by assumption) ?_
    simp only [Act.put, List.setIfInBounds_toArray, List.set_cons_zero, List.set_cons_succ]
    refine takeH_at 21 132 (v := .agg XA) rfl rfl (by kernel_rfl) (by kernel_rfl) (by kernel_rfl) (fun _ _ _ h => h) (yieldsIf_loadS (by rfl) 23 (.tmp 5) rfl _ rfl _ M5.out) (by assumption) ?_
    simp only [Act.put, List.setIfInBounds_toArray, List.set_cons_zero, List.set_cons_succ]
    refine takeH_at 23 134 (v := .agg OA) rfl rfl (by kernel_rfl) (by kernel_rfl) (by kernel_rfl) (fun _ _ _ h => h) (yieldsIf_loadS (by rfl) 26 (.tmp 9) rfl _ rfl _ M9.out) (by assumption) ?_
    simp only [Act.put, List.setIfInBounds_toArray, List.set_cons_zero, List.set_cons_succ]
    refine takeH_at 24 135 (v := .agg XA) rfl rfl (by kernel_rfl) (by kernel_rfl) (by kernel_rfl) (fun _ _ _ h => h) (yieldsIf_loadS (by rfl) 26 (.tmp 10) rfl _ rfl _ M10.out) (by assumption) ?_
    simp only [Act.put, List.setIfInBounds_toArray, List.set_cons_zero, List.set_cons_succ]
    refine single 22 133 rfl rfl (by kernel_rfl) (by rfl) (fun v w' => NSl NL v w') (looseR_call 18 rfl (enters_of Try.func18 (by kernel_rfl) rfl) _ (by simp only [List.map_toArray, List.map_cons, List.map_nil]; rfl) (F18.out _ _ hSb)) ?_
    intro v133 wc hSc hbc hvc
    simp only [Act.put, List.setIfInBounds_toArray, List.set_cons_zero, List.set_cons_succ]
    refine single 25 136 rfl rfl (by kernel_rfl) (by rfl) (fun v w' => NSl NL v w') (looseR_call 19 rfl (enters_of Try.func19 (by kernel_rfl) rfl) _ (by simp only [List.map_toArray, List.map_cons, List.map_nil]; rfl) (F19.out _ _ hSc)) ?_
    intro v136 wd hSd hbd hvd
    replace hvc := hvc.keep hbd
    simp only [Act.put, List.setIfInBounds_toArray, List.set_cons_zero, List.set_cons_succ]
    refine single 26 137 rfl rfl (by kernel_rfl) (by rfl) (fun v _ => v = .bool true) (looseR_call 17 rfl (enters_of Try.func17 (by kernel_rfl) rfl) _ (by simp only [List.map_toArray, List.map_cons, List.map_nil]; rfl) (F17.out _ _ _ _ hSd hvc hvd)) ?_
    intro v137 we hSe hbe1 hve
    subst hve
    clear hvc hvd
    simp only [Act.put, List.setIfInBounds_toArray, List.set_cons_zero, List.set_cons_succ]
    refine takeH_at 27 138 (v := ?_) rfl rfl (by kernel_rfl) (by kernel_rfl) (by kernel_rfl) (fun _ _ _ h => h) (Or.inl ⟨by rfl, ?_⟩) (by assumption) ?_
    rotate_left
    · (intro wx hSw; clear hSw; go_simp) <;> with_reducible rfl
    simp only [Act.put, List.setIfInBounds_toArray, List.set_cons_zero, List.set_cons_succ]
    refine takeH_at 28 139 (v := ?_) rfl rfl (by kernel_rfl) (by kernel_rfl) (by kernel_rfl) (fun _ _ _ h => h) (Or.inl ⟨by rfl, ?_⟩) (by assumption) ?_
    rotate_left
    · (intro wx hSw; clear hSw; go_simp) <;> with_reducible rfl
    simp only [Act.put, List.setIfInBounds_toArray, List.set_cons_zero, List.set_cons_succ]
    refine single 29 140 rfl rfl (by kernel_rfl) (by rfl) (fun v _ => v = .bool true) (looseR_call 6 rfl (enters_of Try.func6 (by kernel_rfl) rfl) _ (by simp only [List.map_toArray, List.map_nil]) (F6.out _ _ hSe)) ?_
    intro v140 wf hSf hbf hvf
    subst hvf
    simp only [Act.put, List.setIfInBounds_toArray, List.set_cons_zero, List.set_cons_succ]
    refine takeH_at 30 141 (v := ?_) rfl rfl (by kernel_rfl) (by kernel_rfl) (by kernel_rfl) (fun _ _ _ h => h) (Or.inl ⟨by rfl, ?_⟩) (by assumption) ?_
    rotate_left
    · (intro wx hSw; clear hSw; go_simp) <;> with_reducible rfl
    simp only [Act.put, List.setIfInBounds_toArray, List.set_cons_zero, List.set_cons_succ]
    refine takeH_at 31 8 (v := ?_) rfl rfl (by kernel_rfl) (by kernel_rfl) (by kernel_rfl) (fun _ _ _ h => h) (Or.inl ⟨by rfl, ?_⟩) (by assumption) ?_
    rotate_left
    · (intro wx hSw; clear hSw; go_simp) <;> with_reducible rfl
    simp only [Act.put, List.setIfInBounds_toArray, List.set_cons_zero, List.set_cons_succ]
    refine wpAnyH_done (by kernel_rfl) ?_ _
    refine NoPanic.normal ?_
    have HF := Lib.hid (HBL.out.trans ((HBB.out.trans (hSf.mono HBB.out.size)).mono HBL.out.size))
    clear hSf hSe hSd hSc hSb hSa hba hbb hbc hbd hbe1 hbf
    go_wp2
    go_ret
    exact ⟨rfl, HF.out⟩
theorem stells_walk (o x : List UInt8) (ho : o.length = 20) (hx : x.length = 20) (i : Int) (A : Option Addr) (c : Nat) (s : List UInt8) (w : World) (hA : BAt w w.heap.size A s) :
    Calls Try.prog 3 #[.agg (bcells o).toArray, .agg (bcells x).toArray, .int .i64 i, .slice A s.length c] w fun e w' => e = .returned (.bool true) ∧ Below w.heap.size w w' := by
  by_cases h : 100 < s.length
  · exact stells_far _ _ i A s.length c h w
  · exact stells_near o x ho hx i A c s w (by omega) hA
end Go.Proofs.Ytieeffebecghiaa
