/- The walk of the statement SpanOrder of this seat: it answers true for any ids, seeds and numbers. No condition. -/
import Derived.Test.YtieeffebecghiaaSci
namespace Go.Proofs.Ytieeffebecghiaa
set_option maxRecDepth 100000
set_option maxHeartbeats 4000000
open Go.RowKit Go.Lib Go.Great

theorem sorder_far (O X : Array Value) (A B : Option Addr) (n c m d : Nat) (i k : Int) (h : 100 < n ∨ 100 < m) (w : World) : Calls Try.prog 5 #[.agg O, .agg X, .slice A n c, .slice B m d, .int .i64 i, .int .i64 k] w fun e w' => e = .returned (.bool true) ∧ Below w.heap.size w w' := by
  have hq : (100 : Int) < (n : Int) ∨ (¬ (100 : Int) < (n : Int) ∧ (100 : Int) < (m : Int)) := by omega
  have hb0 : Hid (Below w.heap.size w ((w.alloc (.cells O 23)).alloc (.cells X 23))) := Lib.hid (heap2 w (.cells O 23) (.cells X 23)).2.2
  clear h
  rcases hq with h | ⟨h, h'⟩
  all_goals
    go_enter Try.func5, Try.ntmps5
    go_wp2_with (go_at_call 6; (with_reducible refine (slives_any _).mono ?_); rintro e w2 ⟨rfl, hb2⟩)
    go_ret
    exact ⟨rfl, hb0.out.trans (hb2.mono hb0.out.size)⟩

theorem mcmp_val (t x y : List UInt8) (ht : t.length = 20) (hx : x.length = 20) (hy : y.length = 20) (h : cmpL (xorL t x) (xorL t y) = -1) (w : World) :
    Calls Try.prog 21 #[.agg (bcells t).toArray, .agg (bcells x).toArray, .agg (bcells y).toArray] w fun e w' => e = .returned (.int .i64 (-1)) ∧ Below w.heap.size w w' :=
  (mcmp_g t x y ht hx hy w).mono (by rintro e w' ⟨rfl, hg⟩; exact ⟨by rw [h], hg.1⟩)
/-- A number's place among N. -/
theorem place_lt (i : Int) (N : Nat) (h : 0 < N) (h2 : N ≤ 160) : ∃ a : Nat, a < N ∧ wrap64 (Int.tmod (IntKind.u64.wrap i) (N : Int)) = (a : Int) := by
  have h0 : 0 ≤ IntKind.u64.wrap i := by rw [IntKind.wrap_u64]; omega
  have h3 := Int.tmod_nonneg (b := (N : Int)) h0
  have h4 := Int.tmod_lt_of_pos (IntKind.u64.wrap i) (b := (N : Int)) (by omega)
  refine ⟨(Int.tmod (IntKind.u64.wrap i) (N : Int)).toNat, by omega, ?_⟩
  unfold wrap64
  omega

theorem sorder_near (o t : List UInt8) (ho : o.length = 20) (ht : t.length = 20) (A : Option Addr) (c : Nat) (s : List UInt8) (A' : Option Addr) (c' : Nat) (s' : List UInt8) (i k : Int) (w : World) (hL : s.length ≤ 100) (hA : BAt w w.heap.size A s) (hL2 : s'.length ≤ 100) (hA' : BAt w w.heap.size A' s') :
    Calls Try.prog 5 #[.agg (bcells o).toArray, .agg (bcells t).toArray, .slice A s.length c, .slice A' s'.length c', .int .i64 i, .int .i64 k] w fun e w' => e = .returned (.bool true) ∧ Below w.heap.size w w' := by
  have hz1 := fun W => zero26 W
  obtain ⟨h1, h2, hb0⟩ := heap2 w (.cells (bcells o).toArray 23) (.cells (bcells t).toArray 23)
  obtain ⟨W0, hW0⟩ : ∃ W0, W0 = (w.alloc (.cells (bcells o).toArray 23)).alloc (.cells (bcells t).toArray 23) := ⟨_, rfl⟩
  rw [← hW0] at h1 h2 hb0
  obtain ⟨m, hm⟩ : ∃ m, m = s.length := ⟨_, rfl⟩
  obtain ⟨m', hm'⟩ : ∃ m', m' = s'.length := ⟨_, rfl⟩
  have C13 : Hid (∀ (q : Nat) x, q < 160 → Laid o q (seedL s) x → ∀ W1 W, Below W0.heap.size W0 W1 → Below W1.heap.size W1 W → Calls Try.prog 13 #[.agg (bcells o).toArray, .int .i64 (q : Int), .slice A m c] W fun e w' => ∃ v, e = .returned v ∧ Below W1.heap.size W1 w' ∧ Below W.heap.size W w' ∧ v = .tuple #[.agg (bcells x).toArray, .bool true]) := Lib.hid (fun q x hq hx W1 W hb1 hb => by
    rw [hm]
    have hb2 := hb1.trans (hb.mono hb1.size)
    exact (draw_any o s (q : Int) A c ho W ((((hA.below hb0).more hb0.size).below hb2).more hb2.size)).mono (by rintro e w' ⟨h, h'⟩; exact ⟨_, h.laid hq hx, hb.trans (h'.mono hb.size), h', rfl⟩))
  have D13 : Hid (∀ (q : Nat) x, q < 160 → Laid o q (seedL s') x → ∀ W1 W, Below W0.heap.size W0 W1 → Below W1.heap.size W1 W → Calls Try.prog 13 #[.agg (bcells o).toArray, .int .i64 (q : Int), .slice A' m' c'] W fun e w' => ∃ v, e = .returned v ∧ Below W1.heap.size W1 w' ∧ Below W.heap.size W w' ∧ v = .tuple #[.agg (bcells x).toArray, .bool true]) := Lib.hid (fun q x hq hx W1 W hb1 hb => by
    rw [hm']
    have hb2 := hb1.trans (hb.mono hb1.size)
    exact (draw_any o s' (q : Int) A' c' ho W ((((hA'.below hb0).more hb0.size).below hb2).more hb2.size)).mono (by rintro e w' ⟨h, h'⟩; exact ⟨_, h.laid hq hx, hb.trans (h'.mono hb.size), h', rfl⟩))
  have C18 : Hid (∀ W, Calls Try.prog 18 #[.agg (bcells o).toArray, .agg (bcells t).toArray] W fun e w' => ∃ v, e = .returned v ∧ NSl (nearL o t 160) v w' ∧ Below W.heap.size W w') := Lib.hid (fun W => (nearer_any o t ho ht W).mono (by rintro e w' ⟨v, rfl, k, q⟩; exact ⟨_, rfl, k.sl, q⟩))
  have C6 := Lib.hid slives_any
  have R : RowsAt W0 [(w.heap.size, 23, o), (w.heap.size + 1, 23, t)] := RowsAt.cons ho h1 (RowsAt.cons ht h2 RowsAt.nil)
  have ldo : Hid (∀ (W : World) L g, RowsAt W L → (g, 23, o) ∈ L → (loadVar 23 ⟨g, 0, none⟩).run Try.prog W = .ok (.agg (bcells o).toArray) W) := Lib.hid (fun W L g h hm => h.load23 hm)
  have ldt : Hid (∀ (W : World) L g, RowsAt W L → (g, 23, t) ∈ L → (loadVar 23 ⟨g, 0, none⟩).run Try.prog W = .ok (.agg (bcells t).toArray) W) := Lib.hid (fun W L g h hm => h.load23 hm)
  have HE : Hid (nearL o t 160 = [] → ∀ W, (Op.equalIn 10000 23 (.agg (bcells o).toArray) (.agg (bcells t).toArray)).run Try.prog W = .ok true W) := Lib.hid (fun h W => by
    have := eq61 o t ho ht W
    rw [(nearL_nil ho ht).1 h] at this ⊢
    rwa [beq_self_eq_true] at this)
  have P1 : Hid (∀ (q : Nat) f x, q < 160 → Laid o q f x → bitL o q ≠ bitL t q → ∀ W, Calls Try.prog 21 #[.agg (bcells t).toArray, .agg (bcells x).toArray, .agg (bcells o).toArray] W fun e w' => e = .returned (.int .i64 (-1)) ∧ Below W.heap.size W w') := Lib.hid (fun q f x hq hx hd W => mcmp_val t x o ht hx.len ho (hx.nearer ht ho hq hd) W)
  have P2 : Hid (∀ (q r : Nat) f f' x y, q < r → r < 160 → Laid o q f x → Laid o r f' y → bitL o q ≠ bitL t q → ∀ W, Calls Try.prog 21 #[.agg (bcells t).toArray, .agg (bcells x).toArray, .agg (bcells y).toArray] W fun e w' => e = .returned (.int .i64 (-1)) ∧ Below W.heap.size W w') := Lib.hid (fun q r f f' x y hqr hr hx hy hd W => mcmp_val t x y ht hx.len hy.len (hx.earlier ht hqr hr hy hd) W)
  have hnl := nearL_len o t 160
  have HG : Hid (∀ q n, (nearL o t 160)[q]? = some n → n < 160 ∧ bitL o n ≠ bitL t n) := Lib.hid (fun q n h => nearL_get h)
  have HR : Hid (∀ p q i j, p < q → (nearL o t 160)[p]? = some i → (nearL o t 160)[q]? = some j → i < j) := Lib.hid (fun p q i j h h1 h2 => nearL_rise h h1 h2)
  have HBL := Lib.hid hb0
  have HB : Below W0.heap.size W0 W0 := Below.refl _ _
  have HW := Lib.hid hW0
  have hL' : ¬ (100 : Int) < (m : Int) := by omega
  have hL2' : ¬ (100 : Int) < (m' : Int) := by omega
  rw [← hm, ← hm']
  clear hA h1 h2 hb0 hW0 hm hL hA' hL2 hm'
  generalize (bcells o).toArray = OA at *
  generalize (bcells t).toArray = TA at *
  obtain ⟨Z, hZ⟩ : ∃ Z, Z = (bcells (List.replicate 20 0)).toArray := ⟨_, rfl⟩
  have HZS : Hid (Z.size = 20) := Lib.hid (by rw [hZ]; exact bc_size (by simp))
  rw [← hZ] at hz1
  clear hZ ho ht
  generalize nearL o t 160 = NL at *
  go_enter Try.func5, Try.ntmps5
  go_upto_region 3 with fail
  rw [← HW.out]
  clear HW
  have k1 := Lib.hid (ldo.out _ _ w.heap.size R (by first | exact .head _ | exact .tail _ (.head _) | exact .tail _ (.tail _ (.head _)) | exact .tail _ (.tail _ (.tail _ (.head _))) | exact .tail _ (.tail _ (.tail _ (.tail _ (.head _)))) | exact .tail _ (.tail _ (.tail _ (.tail _ (.tail _ (.head _))))) | exact .tail _ (.tail _ (.tail _ (.tail _ (.tail _ (.tail _ (.head _)))))) | exact .tail _ (.tail _ (.tail _ (.tail _ (.tail _ (.tail _ (.tail _ (.head _))))))) | exact .tail _ (.tail _ (.tail _ (.tail _ (.tail _ (.tail _ (.tail _ (.tail _ (.head _)))))))) | exact .tail _ (.tail _ (.tail _ (.tail _ (.tail _ (.tail _ (.tail _ (.tail _ (.tail _ (.head _)))))))))))
  have k2 := Lib.hid (ldt.out _ _ (w.heap.size + 1) R (by first | exact .head _ | exact .tail _ (.head _) | exact .tail _ (.tail _ (.head _)) | exact .tail _ (.tail _ (.tail _ (.head _))) | exact .tail _ (.tail _ (.tail _ (.tail _ (.head _)))) | exact .tail _ (.tail _ (.tail _ (.tail _ (.tail _ (.head _))))) | exact .tail _ (.tail _ (.tail _ (.tail _ (.tail _ (.tail _ (.head _)))))) | exact .tail _ (.tail _ (.tail _ (.tail _ (.tail _ (.tail _ (.tail _ (.head _))))))) | exact .tail _ (.tail _ (.tail _ (.tail _ (.tail _ (.tail _ (.tail _ (.tail _ (.head _)))))))) | exact .tail _ (.tail _ (.tail _ (.tail _ (.tail _ (.tail _ (.tail _ (.tail _ (.tail _ (.head _)))))))))))
  go_upto_region 4 with (first
    | ((with_reducible refine wpList_loadV (op := ⟨some 29, _, _, _, _, _⟩) rfl 23 (.tmp 6) rfl _ ?_ _ k1.out ?_); rfl)
    | ((with_reducible refine wpList_loadV (op := ⟨some 30, _, _, _, _, _⟩) rfl 23 (.tmp 7) rfl _ ?_ _ k2.out ?_); rfl)
    | (go_at_call 18; (with_reducible refine (C18.out _).mono ?_); rintro e w3 ⟨v, rfl, hns, hb1⟩; replace R := R.below hb1; replace HB := HB.trans (hb1.mono HB.size); clear hb1))
  clear k1 k2
  obtain ⟨A2, c2, rfl, hnat⟩ := hns
  by_cases hN : NL.length = 0
  · have hnil : NL = [] := List.eq_nil_of_length_eq_zero hN
    have hE := HE.out hnil
    have k1 := Lib.hid (ldo.out _ _ w.heap.size R (by first | exact .head _ | exact .tail _ (.head _) | exact .tail _ (.tail _ (.head _)) | exact .tail _ (.tail _ (.tail _ (.head _))) | exact .tail _ (.tail _ (.tail _ (.tail _ (.head _)))) | exact .tail _ (.tail _ (.tail _ (.tail _ (.tail _ (.head _))))) | exact .tail _ (.tail _ (.tail _ (.tail _ (.tail _ (.tail _ (.head _)))))) | exact .tail _ (.tail _ (.tail _ (.tail _ (.tail _ (.tail _ (.tail _ (.head _))))))) | exact .tail _ (.tail _ (.tail _ (.tail _ (.tail _ (.tail _ (.tail _ (.tail _ (.head _)))))))) | exact .tail _ (.tail _ (.tail _ (.tail _ (.tail _ (.tail _ (.tail _ (.tail _ (.tail _ (.head _)))))))))))
    have k2 := Lib.hid (ldt.out _ _ (w.heap.size + 1) R (by first | exact .head _ | exact .tail _ (.head _) | exact .tail _ (.tail _ (.head _)) | exact .tail _ (.tail _ (.tail _ (.head _))) | exact .tail _ (.tail _ (.tail _ (.tail _ (.head _)))) | exact .tail _ (.tail _ (.tail _ (.tail _ (.tail _ (.head _))))) | exact .tail _ (.tail _ (.tail _ (.tail _ (.tail _ (.tail _ (.head _)))))) | exact .tail _ (.tail _ (.tail _ (.tail _ (.tail _ (.tail _ (.tail _ (.head _))))))) | exact .tail _ (.tail _ (.tail _ (.tail _ (.tail _ (.tail _ (.tail _ (.tail _ (.head _)))))))) | exact .tail _ (.tail _ (.tail _ (.tail _ (.tail _ (.tail _ (.tail _ (.tail _ (.tail _ (.head _)))))))))))
    rw [hN]
    clear hN hnil hnat hnl HE HG HR
    go_wp2_with (first
      | ((with_reducible refine wpList_loadV (op := ⟨some 35, _, _, _, _, _⟩) rfl 23 (.tmp 6) rfl _ ?_ _ k1.out ?_); rfl)
      | ((with_reducible refine wpList_loadV (op := ⟨some 36, _, _, _, _, _⟩) rfl 23 (.tmp 7) rfl _ ?_ _ k2.out ?_); rfl)
      | (go_at_call 6; (with_reducible refine (C6.out _).mono ?_); rintro e we ⟨rfl, hb1⟩; replace HB := HB.trans (hb1.mono HB.size); clear hb1))
    go_ret
    exact ⟨rfl, HBL.out.trans (HB.mono HBL.out.size)⟩
  · obtain ⟨gl, off, rfl, hgl, hcell⟩ := hnat.some_ (by omega)
    obtain ⟨a, ha, hwa⟩ := place_lt i NL.length (by omega) hnl
    obtain ⟨b, hb, hwb⟩ := place_lt k NL.length (by omega) hnl
    obtain ⟨N, hNN⟩ : ∃ N, N = NL.length := ⟨_, rfl⟩
    rw [← hNN] at hN ha hb hwa hwb hnl ⊢
    have hnz : ¬ (N : Int) = 0 := by omega
    have hnw : IntKind.u64.wrap (N : Int) = (N : Int) := by rw [IntKind.wrap_u64]; omega
    have HWA := Lib.hid hwa
    have HWB := Lib.hid hwb
    have HNN := Lib.hid hNN
    obtain ⟨la, hla⟩ : ∃ n, NL[a]? = some n := ⟨NL[a]'(by omega), List.getElem?_eq_getElem _⟩
    obtain ⟨lb, hlb⟩ : ∃ n, NL[b]? = some n := ⟨NL[b]'(by omega), List.getElem?_eq_getElem _⟩
    obtain ⟨ga1, ga2⟩ := HG.out a la hla
    obtain ⟨gb1, gb2⟩ := HG.out b lb hlb
    have HRI : Hid (a < b → la < lb) := Lib.hid (fun h => HR.out a b la lb h hla hlb)
    have hc1 := hcell a la hla
    have hc2 := hcell b lb hlb
    obtain ⟨xa, hxa⟩ := laid_exist o (seedL s) la
    obtain ⟨xb, hxb⟩ := laid_exist o (seedL s') lb
    have hab : b ≤ a ∨ a < b := by omega
    have E13 := Lib.hid (C13.out la xa ga1 hxa)
    have F13 := Lib.hid (D13.out lb xb gb1 hxb)
    have Q1 := Lib.hid (P1.out la _ xa ga1 hxa ga2)
    have Q2 : Hid (a < b → ∀ W, Calls Try.prog 21 #[.agg TA, .agg (bcells xa).toArray, .agg (bcells xb).toArray] W fun e w' => e = .returned (.int .i64 (-1)) ∧ Below W.heap.size W w') := Lib.hid (fun h => P2.out la lb _ _ xa xb (HRI.out h) gb1 hxa hxb ga2)
    have ldxa : Hid (∀ (W : World) L g, RowsAt W L → (g, 23, xa) ∈ L → (loadVar 23 ⟨g, 0, none⟩).run Try.prog W = .ok (.agg (bcells xa).toArray) W) := Lib.hid (fun W L g h hm => h.load23 hm)
    have hIxa := Lib.hid (bc_info26 hxa.len)
    have hSxa : Hid (Z.size = (bcells xa).toArray.size) := Lib.hid (by rw [bc_size hxa.len]; exact HZS.out)
    have hTxa := Lib.hid (bc_all xa)
    have Nxa : Hid (∀ (W1 W2 : World) L g, RowsAt W1 L → Below W1.heap.size W1 W2 → W1.heap.size ≤ g → W2.heap[g]? = some (.cells Z 23 (0, 0)) → RowsAt (W2.setRow g (bcells xa).toArray) ((g, 23, xa) :: L) ∧ Below W1.heap.size W1 (W2.setRow g (bcells xa).toArray)) := Lib.hid (fun W1 W2 L g hR hb hg hr => ⟨RowsAt.cons hxa.len (setRow_heap _ _ _ _ 23 (0, 0) hr) (hR.below (below_setRow hb hg _)), below_setRow hb hg _⟩)
    have ldxb : Hid (∀ (W : World) L g, RowsAt W L → (g, 23, xb) ∈ L → (loadVar 23 ⟨g, 0, none⟩).run Try.prog W = .ok (.agg (bcells xb).toArray) W) := Lib.hid (fun W L g h hm => h.load23 hm)
    have hIxb := Lib.hid (bc_info26 hxb.len)
    have hSxb : Hid (Z.size = (bcells xb).toArray.size) := Lib.hid (by rw [bc_size hxb.len]; exact HZS.out)
    have hTxb := Lib.hid (bc_all xb)
    have Nxb : Hid (∀ (W1 W2 : World) L g, RowsAt W1 L → Below W1.heap.size W1 W2 → W1.heap.size ≤ g → W2.heap[g]? = some (.cells Z 23 (0, 0)) → RowsAt (W2.setRow g (bcells xb).toArray) ((g, 23, xb) :: L) ∧ Below W1.heap.size W1 (W2.setRow g (bcells xb).toArray)) := Lib.hid (fun W1 W2 L g hR hb hg hr => ⟨RowsAt.cons hxb.len (setRow_heap _ _ _ _ 23 (0, 0) hr) (hR.below (below_setRow hb hg _)), below_setRow hb hg _⟩)
    clear hwa hwb hnat HE hNN hcell hla hlb HG HR HRI C13 D13 P1 P2 hxa hxb ga1 ga2 gb1 gb2
    generalize (bcells xa).toArray = XA at *
    generalize (bcells xb).toArray = XB at *
    go_upto_region 6 with fail
    go_quiet (fail)
    rw [HWA.out, HWB.out]
    have hd6 : Below w3.heap.size w3 (w3.drewN nq) := below_drewN (Below.refl _ _) nq
    replace R := R.below hd6
    replace HB := HB.trans (hd6.mono HB.size)
    replace hc1 : (w3.drewN nq).cell? ⟨gl, off + a, none⟩ = some (.int .i64 (la : Int)) := hc1
    replace hc2 : (w3.drewN nq).cell? ⟨gl, off + b, none⟩ = some (.int .i64 (lb : Int)) := hc2
    have hgl6 : gl < (w3.drewN nq).heap.size := hgl
    clear HWA HWB hd6 hgl hnw hnz
    generalize w3.drewN nq = W6 at R HB hc1 hc2 hgl6 ⊢
    have HC1 : Hid (∀ W, Below W6.heap.size W6 W → W.cell? ⟨gl, off + a, none⟩ = some (.int .i64 (la : Int))) := Lib.hid (fun W h => (h.cell (p := ⟨gl, off + a, none⟩) hgl6).trans hc1)
    have HC2 : Hid (∀ W, Below W6.heap.size W6 W → W.cell? ⟨gl, off + b, none⟩ = some (.int .i64 (lb : Int))) := Lib.hid (fun W h => (h.cell (p := ⟨gl, off + b, none⟩) hgl6).trans hc2)
    have HB6 : Below W6.heap.size W6 W6 := Below.refl _ _
    clear hc1 hc2 hgl6
    go_upto_region 7 with fail
    have M6 : Hid (∀ W', Below W6.heap.size W6 W' → (loadVar 23 ⟨w.heap.size, 0, none⟩).run Try.prog W' = .ok (.agg OA) W') := Lib.hid (fun W' h => ldo.out W' _ w.heap.size (R.below h) (by first | exact .head _ | exact .tail _ (.head _) | exact .tail _ (.tail _ (.head _)) | exact .tail _ (.tail _ (.tail _ (.head _))) | exact .tail _ (.tail _ (.tail _ (.tail _ (.head _)))) | exact .tail _ (.tail _ (.tail _ (.tail _ (.tail _ (.head _))))) | exact .tail _ (.tail _ (.tail _ (.tail _ (.tail _ (.tail _ (.head _)))))) | exact .tail _ (.tail _ (.tail _ (.tail _ (.tail _ (.tail _ (.tail _ (.head _))))))) | exact .tail _ (.tail _ (.tail _ (.tail _ (.tail _ (.tail _ (.tail _ (.tail _ (.head _)))))))) | exact .tail _ (.tail _ (.tail _ (.tail _ (.tail _ (.tail _ (.tail _ (.tail _ (.tail _ (.head _)))))))))))
    have hE := Lib.hid (fun W' h => E13.out W6 W' HB h)
    have hNX := Lib.hid (fun W2 g h1 h2 h3 => Nxa.out W6 W2 _ g R h1 h2 h3)
    have hS1 : Below W6.heap.size W6 W6.drew := (Below.refl _ W6).drew
    refine wp_region_noPanic ?_
    refine wp_region_held_drew (S := fun w' => Below W6.heap.size W6 w') (by kernel_rfl) hS1 (fun hHeld => ?_)
    refine takeH_at 0 56 (v := .agg OA) rfl rfl (by kernel_rfl) (by kernel_rfl) (by kernel_rfl) (fun _ _ _ h => h) (yieldsIf_loadS (by rfl) 23 (.tmp 6) rfl _ rfl _ M6.out) (by assumption) ?_
    simp only [Act.put, List.setIfInBounds_toArray, List.set_cons_zero, List.set_cons_succ]
    refine takeH_at 1 57 (v := ?_) rfl rfl (by kernel_rfl) (by kernel_rfl) (by kernel_rfl) (fun _ _ _ h => h) (Or.inl ⟨by rfl, ?_⟩) (by assumption) ?_
    rotate_left
    · (intro wx hSw; clear hSw; go_simp) <;> with_reducible rfl
    simp only [Act.put, List.setIfInBounds_toArray, List.set_cons_zero, List.set_cons_succ]
    refine takeH_at 2 58 (v := ?_) rfl rfl (by kernel_rfl) (by kernel_rfl) (by kernel_rfl) (fun _ _ _ h => h) (Or.inl ⟨by rfl, ?_⟩) (by assumption) ?_
    rotate_left
    · (intro wx hSw; clear hSw; go_simp) <;> with_reducible rfl
    simp only [Act.put, List.setIfInBounds_toArray, List.set_cons_zero, List.set_cons_succ]
    refine takeH_at 3 59 (v := ?_) rfl rfl (by kernel_rfl) (by kernel_rfl) (by kernel_rfl) (fun _ _ _ h => h) (Or.inl ⟨by rfl, ?_⟩) (by assumption) ?_
    rotate_left
    · (intro wx hSw; clear hSw; go_simp) <;> with_reducible rfl
    simp only [Act.put, List.setIfInBounds_toArray, List.set_cons_zero, List.set_cons_succ]
    refine takeH_at 4 60 (v := ?_) rfl rfl (by kernel_rfl) (by kernel_rfl) (by kernel_rfl) (fun _ _ _ h => h) (Or.inl ⟨by rfl, ?_⟩) (by assumption) ?_
    rotate_left
    · (intro wx hSw; have hcw := HC1.out wx (HB6.trans (hSw.mono HB6.size)); clear hSw; go_simp) <;> with_reducible rfl
    simp only [Act.put, List.setIfInBounds_toArray, List.set_cons_zero, List.set_cons_succ]
    refine takeH_at 5 61 (v := ?_) rfl rfl (by kernel_rfl) (by kernel_rfl) (by kernel_rfl) (fun _ _ _ h => h) (Or.inl ⟨by rfl, ?_⟩) (by assumption) ?_
    rotate_left
    · (intro wx hSw; clear hSw; go_simp) <;> with_reducible rfl
    simp only [Act.put, List.setIfInBounds_toArray, List.set_cons_zero, List.set_cons_succ]
    refine wpAnyH_ready (rs := [6, 10]) (by kernel_rfl) (by simp) (AllReadyH.cons rfl (fun K hK => ?_) (AllReadyH.cons rfl (fun K hK => ?_) AllReadyH.nil))
    · rw [if_pos (by rfl)]
      refine LooseR.wpD (S := fun w' => Below W6.heap.size W6 w') (X := fun v _ => v = .tuple #[.agg XA, .bool true]) 62 rfl (looseR_call 13 rfl (enters_of Try.func13 (by kernel_rfl) rfl) _ (by simp only [List.map_toArray, List.map_cons, List.map_nil]; rfl) (hE.out _ hHeld)) (fun u wa hSa hba hu => hK.out _ _ hSa (fun hHa => ?_))
      subst hu
      simp only [Act.put, List.setIfInBounds_toArray, List.set_cons_zero, List.set_cons_succ]
      refine takeH_at 7 55 (v := ?_) rfl rfl (by kernel_rfl) (by kernel_rfl) (by kernel_rfl) (fun _ _ _ h => h) (Or.inl ⟨by rfl, ?_⟩) (by assumption) ?_
      rotate_left
      · (intro wx hSw; clear hSw; go_simp) <;> with_reducible rfl
      simp only [Act.put, List.setIfInBounds_toArray, List.set_cons_zero, List.set_cons_succ]
      refine takeH_at 8 63 (v := ?_) rfl rfl (by kernel_rfl) (by kernel_rfl) (by kernel_rfl) (fun _ _ _ h => h) (Or.inl ⟨by rfl, ?_⟩) (by assumption) ?_
      rotate_left
      · (intro wx hSw; clear hSw; go_simp) <;> with_reducible rfl
      simp only [Act.put, List.setIfInBounds_toArray, List.set_cons_zero, List.set_cons_succ]
      refine takeH_at 9 64 (v := ?_) rfl rfl (by kernel_rfl) (by kernel_rfl) (by kernel_rfl) (fun _ _ _ h => h) (Or.inl ⟨by rfl, ?_⟩) (by assumption) ?_
      rotate_left
      · (intro wx hSw; clear hSw; go_simp) <;> with_reducible rfl
      simp only [Act.put, List.setIfInBounds_toArray, List.set_cons_zero, List.set_cons_succ]
      refine single 10 16 rfl rfl (by kernel_rfl) (by rfl) (fun v w' => v = .pointer (some ⟨wa.heap.size, 0, none⟩) ∧ w' = wa.alloc (.cells Z 23)) (looseR_alloc 23 rfl Z hz1 (hSa.alloc hSa.size _)) ?_
      intro u wz hSz hbz hu
      obtain ⟨rfl, rfl⟩ := hu
      simp only [Act.put, List.setIfInBounds_toArray, List.set_cons_zero, List.set_cons_succ]
      obtain ⟨r1, r2⟩ := hNX.out (wa.alloc (.cells Z 23)) wa.heap.size hSz hSa.size (heap_alloc_new wa _)
      refine single_store 11 rfl rfl (by kernel_rfl) (by rfl) 23 (.tmp 16) (.tmp 63) rfl wa.heap.size XA rfl rfl 23 Z (heap_alloc_new wa _) hIxa.out hSxa.out hTxa.out r2 ?_
      refine takeH_at 12 17 (v := ?_) rfl rfl (by kernel_rfl) (by kernel_rfl) (by kernel_rfl) (fun _ _ _ h => h) (Or.inl ⟨by rfl, ?_⟩) (by assumption) ?_
      rotate_left
      · (intro wx hSw; clear hSw; go_simp) <;> with_reducible rfl
      simp only [Act.put, List.setIfInBounds_toArray, List.set_cons_zero, List.set_cons_succ]
      generalize wa.alloc (.cells Z 23) = wz at r1 r2 hSz ⊢
      generalize wa.heap.size = g16 at r1 r2 ⊢
      clear hSz hSa hba hbz hHa
      refine wpAnyH_done (by kernel_rfl) ?_ _
      refine NoPanic.normal ?_
      clear R hK K hHeld hS1 M6 hE hNX
      have R := r1
      replace HB := HB.trans (r2.mono HB.size)
      replace HB6 := HB6.trans (r2.mono HB6.size)
      clear r1 r2
      generalize wz.setRow g16 XA = W7 at R HB HB6 ⊢
      go_upto_region 8 with fail
      have M6 : Hid (∀ W', Below W7.heap.size W7 W' → (loadVar 23 ⟨w.heap.size, 0, none⟩).run Try.prog W' = .ok (.agg OA) W') := Lib.hid (fun W' h => ldo.out W' _ w.heap.size (R.below h) (by first | exact .head _ | exact .tail _ (.head _) | exact .tail _ (.tail _ (.head _)) | exact .tail _ (.tail _ (.tail _ (.head _))) | exact .tail _ (.tail _ (.tail _ (.tail _ (.head _)))) | exact .tail _ (.tail _ (.tail _ (.tail _ (.tail _ (.head _))))) | exact .tail _ (.tail _ (.tail _ (.tail _ (.tail _ (.tail _ (.head _)))))) | exact .tail _ (.tail _ (.tail _ (.tail _ (.tail _ (.tail _ (.tail _ (.head _))))))) | exact .tail _ (.tail _ (.tail _ (.tail _ (.tail _ (.tail _ (.tail _ (.tail _ (.head _)))))))) | exact .tail _ (.tail _ (.tail _ (.tail _ (.tail _ (.tail _ (.tail _ (.tail _ (.tail _ (.head _)))))))))))
      have hE := Lib.hid (fun W' h => F13.out W7 W' HB h)
      have hNX := Lib.hid (fun W2 g h1 h2 h3 => Nxb.out W7 W2 _ g R h1 h2 h3)
      have hS1 : Below W7.heap.size W7 W7.drew := (Below.refl _ W7).drew
      refine wp_region_noPanic ?_
      refine wp_region_held_drew (S := fun w' => Below W7.heap.size W7 w') (by kernel_rfl) hS1 (fun hHeld => ?_)
      refine takeH_at 0 66 (v := .agg OA) rfl rfl (by kernel_rfl) (by kernel_rfl) (by kernel_rfl) (fun _ _ _ h => h) (yieldsIf_loadS (by rfl) 23 (.tmp 6) rfl _ rfl _ M6.out) (by assumption) ?_
      simp only [Act.put, List.setIfInBounds_toArray, List.set_cons_zero, List.set_cons_succ]
      refine takeH_at 1 67 (v := ?_) rfl rfl (by kernel_rfl) (by kernel_rfl) (by kernel_rfl) (fun _ _ _ h => h) (Or.inl ⟨by rfl, ?_⟩) (by assumption) ?_
      rotate_left
      · (intro wx hSw; clear hSw; go_simp) <;> with_reducible rfl
      simp only [Act.put, List.setIfInBounds_toArray, List.set_cons_zero, List.set_cons_succ]
      refine takeH_at 2 68 (v := ?_) rfl rfl (by kernel_rfl) (by kernel_rfl) (by kernel_rfl) (fun _ _ _ h => h) (Or.inl ⟨by rfl, ?_⟩) (by assumption) ?_
      rotate_left
      · (intro wx hSw; clear hSw; go_simp) <;> with_reducible rfl
      simp only [Act.put, List.setIfInBounds_toArray, List.set_cons_zero, List.set_cons_succ]
      refine takeH_at 3 69 (v := ?_) rfl rfl (by kernel_rfl) (by kernel_rfl) (by kernel_rfl) (fun _ _ _ h => h) (Or.inl ⟨by rfl, ?_⟩) (by assumption) ?_
      rotate_left
      · (intro wx hSw; clear hSw; go_simp) <;> with_reducible rfl
      simp only [Act.put, List.setIfInBounds_toArray, List.set_cons_zero, List.set_cons_succ]
      refine takeH_at 4 70 (v := ?_) rfl rfl (by kernel_rfl) (by kernel_rfl) (by kernel_rfl) (fun _ _ _ h => h) (Or.inl ⟨by rfl, ?_⟩) (by assumption) ?_
      rotate_left
      · (intro wx hSw; have hcw := HC2.out wx (HB6.trans (hSw.mono HB6.size)); clear hSw; go_simp) <;> with_reducible rfl
      simp only [Act.put, List.setIfInBounds_toArray, List.set_cons_zero, List.set_cons_succ]
      refine takeH_at 5 71 (v := ?_) rfl rfl (by kernel_rfl) (by kernel_rfl) (by kernel_rfl) (fun _ _ _ h => h) (Or.inl ⟨by rfl, ?_⟩) (by assumption) ?_
      rotate_left
      · (intro wx hSw; clear hSw; go_simp) <;> with_reducible rfl
      simp only [Act.put, List.setIfInBounds_toArray, List.set_cons_zero, List.set_cons_succ]
      refine wpAnyH_ready (rs := [6, 10]) (by kernel_rfl) (by simp) (AllReadyH.cons rfl (fun K hK => ?_) (AllReadyH.cons rfl (fun K hK => ?_) AllReadyH.nil))
      · rw [if_pos (by rfl)]
        refine LooseR.wpD (S := fun w' => Below W7.heap.size W7 w') (X := fun v _ => v = .tuple #[.agg XB, .bool true]) 72 rfl (looseR_call 13 rfl (enters_of Try.func13 (by kernel_rfl) rfl) _ (by simp only [List.map_toArray, List.map_cons, List.map_nil]; rfl) (hE.out _ hHeld)) (fun u wa hSa hba hu => hK.out _ _ hSa (fun hHa => ?_))
        subst hu
        simp only [Act.put, List.setIfInBounds_toArray, List.set_cons_zero, List.set_cons_succ]
        refine takeH_at 7 65 (v := ?_) rfl rfl (by kernel_rfl) (by kernel_rfl) (by kernel_rfl) (fun _ _ _ h => h) (Or.inl ⟨by rfl, ?_⟩) (by assumption) ?_
        rotate_left
        · (intro wx hSw; clear hSw; go_simp) <;> with_reducible rfl
        simp only [Act.put, List.setIfInBounds_toArray, List.set_cons_zero, List.set_cons_succ]
        refine takeH_at 8 73 (v := ?_) rfl rfl (by kernel_rfl) (by kernel_rfl) (by kernel_rfl) (fun _ _ _ h => h) (Or.inl ⟨by rfl, ?_⟩) (by assumption) ?_
        rotate_left
        · (intro wx hSw; clear hSw; go_simp) <;> with_reducible rfl
        simp only [Act.put, List.setIfInBounds_toArray, List.set_cons_zero, List.set_cons_succ]
        refine takeH_at 9 74 (v := ?_) rfl rfl (by kernel_rfl) (by kernel_rfl) (by kernel_rfl) (fun _ _ _ h => h) (Or.inl ⟨by rfl, ?_⟩) (by assumption) ?_
        rotate_left
        · (intro wx hSw; clear hSw; go_simp) <;> with_reducible rfl
        simp only [Act.put, List.setIfInBounds_toArray, List.set_cons_zero, List.set_cons_succ]
        refine single 10 18 rfl rfl (by kernel_rfl) (by rfl) (fun v w' => v = .pointer (some ⟨wa.heap.size, 0, none⟩) ∧ w' = wa.alloc (.cells Z 23)) (looseR_alloc 23 rfl Z hz1 (hSa.alloc hSa.size _)) ?_
        intro u wz hSz hbz hu
        obtain ⟨rfl, rfl⟩ := hu
        simp only [Act.put, List.setIfInBounds_toArray, List.set_cons_zero, List.set_cons_succ]
        obtain ⟨r1, r2⟩ := hNX.out (wa.alloc (.cells Z 23)) wa.heap.size hSz hSa.size (heap_alloc_new wa _)
        refine single_store 11 rfl rfl (by kernel_rfl) (by rfl) 23 (.tmp 18) (.tmp 73) rfl wa.heap.size XB rfl rfl 23 Z (heap_alloc_new wa _) hIxb.out hSxb.out hTxb.out r2 ?_
        refine takeH_at 12 19 (v := ?_) rfl rfl (by kernel_rfl) (by kernel_rfl) (by kernel_rfl) (fun _ _ _ h => h) (Or.inl ⟨by rfl, ?_⟩) (by assumption) ?_
        rotate_left
        · (intro wx hSw; clear hSw; go_simp) <;> with_reducible rfl
        simp only [Act.put, List.setIfInBounds_toArray, List.set_cons_zero, List.set_cons_succ]
        generalize wa.alloc (.cells Z 23) = wz at r1 r2 hSz ⊢
        generalize wa.heap.size = g18 at r1 r2 ⊢
        clear hSz hSa hba hbz hHa
        refine wpAnyH_done (by kernel_rfl) ?_ _
        refine NoPanic.normal ?_
        clear R hK K hHeld hS1 M6 hE hNX
        have R := r1
        replace HB := HB.trans (r2.mono HB.size)
        replace HB6 := HB6.trans (r2.mono HB6.size)
        clear r1 r2
        generalize wz.setRow g18 XB = W8 at R HB HB6 ⊢
        have m6 : Hid (∀ W, Below W8.heap.size W8 W → (loadVar 23 ⟨w.heap.size, 0, none⟩).run Try.prog W = .ok (.agg OA) W) := Lib.hid (fun W h => ldo.out W _ w.heap.size (R.below h) (by first | exact .head _ | exact .tail _ (.head _) | exact .tail _ (.tail _ (.head _)) | exact .tail _ (.tail _ (.tail _ (.head _))) | exact .tail _ (.tail _ (.tail _ (.tail _ (.head _)))) | exact .tail _ (.tail _ (.tail _ (.tail _ (.tail _ (.head _))))) | exact .tail _ (.tail _ (.tail _ (.tail _ (.tail _ (.tail _ (.head _)))))) | exact .tail _ (.tail _ (.tail _ (.tail _ (.tail _ (.tail _ (.tail _ (.head _))))))) | exact .tail _ (.tail _ (.tail _ (.tail _ (.tail _ (.tail _ (.tail _ (.tail _ (.head _)))))))) | exact .tail _ (.tail _ (.tail _ (.tail _ (.tail _ (.tail _ (.tail _ (.tail _ (.tail _ (.head _)))))))))))
        have m7 : Hid (∀ W, Below W8.heap.size W8 W → (loadVar 23 ⟨(w.heap.size + 1), 0, none⟩).run Try.prog W = .ok (.agg TA) W) := Lib.hid (fun W h => ldt.out W _ (w.heap.size + 1) (R.below h) (by first | exact .head _ | exact .tail _ (.head _) | exact .tail _ (.tail _ (.head _)) | exact .tail _ (.tail _ (.tail _ (.head _))) | exact .tail _ (.tail _ (.tail _ (.tail _ (.head _)))) | exact .tail _ (.tail _ (.tail _ (.tail _ (.tail _ (.head _))))) | exact .tail _ (.tail _ (.tail _ (.tail _ (.tail _ (.tail _ (.head _)))))) | exact .tail _ (.tail _ (.tail _ (.tail _ (.tail _ (.tail _ (.tail _ (.head _))))))) | exact .tail _ (.tail _ (.tail _ (.tail _ (.tail _ (.tail _ (.tail _ (.tail _ (.head _)))))))) | exact .tail _ (.tail _ (.tail _ (.tail _ (.tail _ (.tail _ (.tail _ (.tail _ (.tail _ (.head _)))))))))))
        have m16 : Hid (∀ W, Below W8.heap.size W8 W → (loadVar 23 ⟨g16, 0, none⟩).run Try.prog W = .ok (.agg XA) W) := Lib.hid (fun W h => ldxa.out W _ g16 (R.below h) (by first | exact .head _ | exact .tail _ (.head _) | exact .tail _ (.tail _ (.head _)) | exact .tail _ (.tail _ (.tail _ (.head _))) | exact .tail _ (.tail _ (.tail _ (.tail _ (.head _)))) | exact .tail _ (.tail _ (.tail _ (.tail _ (.tail _ (.head _))))) | exact .tail _ (.tail _ (.tail _ (.tail _ (.tail _ (.tail _ (.head _)))))) | exact .tail _ (.tail _ (.tail _ (.tail _ (.tail _ (.tail _ (.tail _ (.head _))))))) | exact .tail _ (.tail _ (.tail _ (.tail _ (.tail _ (.tail _ (.tail _ (.tail _ (.head _)))))))) | exact .tail _ (.tail _ (.tail _ (.tail _ (.tail _ (.tail _ (.tail _ (.tail _ (.tail _ (.head _)))))))))))
        have m18 : Hid (∀ W, Below W8.heap.size W8 W → (loadVar 23 ⟨g18, 0, none⟩).run Try.prog W = .ok (.agg XB) W) := Lib.hid (fun W h => ldxb.out W _ g18 (R.below h) (by first | exact .head _ | exact .tail _ (.head _) | exact .tail _ (.tail _ (.head _)) | exact .tail _ (.tail _ (.tail _ (.head _))) | exact .tail _ (.tail _ (.tail _ (.tail _ (.head _)))) | exact .tail _ (.tail _ (.tail _ (.tail _ (.tail _ (.head _))))) | exact .tail _ (.tail _ (.tail _ (.tail _ (.tail _ (.tail _ (.head _)))))) | exact .tail _ (.tail _ (.tail _ (.tail _ (.tail _ (.tail _ (.tail _ (.head _))))))) | exact .tail _ (.tail _ (.tail _ (.tail _ (.tail _ (.tail _ (.tail _ (.tail _ (.head _)))))))) | exact .tail _ (.tail _ (.tail _ (.tail _ (.tail _ (.tail _ (.tail _ (.tail _ (.tail _ (.head _)))))))))))
        have HB8 : Below W8.heap.size W8 W8 := Below.refl _ _
        clear R HB6
        rcases hab with hab | hab
        · have hab' : (b : Int) ≤ (a : Int) := by omega
          clear Q2
          go_wp2_with (first
            | ((with_reducible refine wpList_valG (op := ⟨some 89, _, _, _, _, _⟩) rfl (.bool true) ?_ ?_); (go_simp; simp [hab']))
            | ((with_reducible refine wpList_loadG (op := ⟨some 80, _, _, _, _, _⟩) rfl 23 (.tmp 7) rfl _ ?_ _ (m7.out _ HB8) ?_); rfl)
            | ((with_reducible refine wpList_loadG (op := ⟨some 81, _, _, _, _, _⟩) rfl 23 (.tmp 16) rfl _ ?_ _ (m16.out _ HB8) ?_); rfl)
            | ((with_reducible refine wpList_loadG (op := ⟨some 82, _, _, _, _, _⟩) rfl 23 (.tmp 6) rfl _ ?_ _ (m6.out _ HB8) ?_); rfl)
            | ((with_reducible refine wpList_loadG (op := ⟨some 91, _, _, _, _, _⟩) rfl 23 (.tmp 7) rfl _ ?_ _ (m7.out _ HB8) ?_); rfl)
            | ((with_reducible refine wpList_loadG (op := ⟨some 92, _, _, _, _, _⟩) rfl 23 (.tmp 16) rfl _ ?_ _ (m16.out _ HB8) ?_); rfl)
            | ((with_reducible refine wpList_loadG (op := ⟨some 93, _, _, _, _, _⟩) rfl 23 (.tmp 18) rfl _ ?_ _ (m18.out _ HB8) ?_); rfl)
            | (go_at_call 21; (with_reducible refine (Q1.out _).mono ?_); rintro e wp ⟨rfl, hb1⟩; replace HB8 := HB8.trans (hb1.mono HB8.size); clear hb1)
            | (go_at_call 6; (with_reducible refine (C6.out _).mono ?_); rintro e ws ⟨rfl, hb1⟩; replace HB8 := HB8.trans (hb1.mono HB8.size); clear hb1))
          go_ret
          exact ⟨rfl, HBL.out.trans ((HB.trans (HB8.mono HB.size)).mono HBL.out.size)⟩
        · have hab' : ¬ (b : Int) ≤ (a : Int) := by omega
          have Q3 := Lib.hid (Q2.out hab)
          go_wp2_with (first
            | ((with_reducible refine wpList_valG (op := ⟨some 89, _, _, _, _, _⟩) rfl (.bool false) ?_ ?_); (go_simp; simp [hab']))
            | ((with_reducible refine wpList_loadG (op := ⟨some 80, _, _, _, _, _⟩) rfl 23 (.tmp 7) rfl _ ?_ _ (m7.out _ HB8) ?_); rfl)
            | ((with_reducible refine wpList_loadG (op := ⟨some 81, _, _, _, _, _⟩) rfl 23 (.tmp 16) rfl _ ?_ _ (m16.out _ HB8) ?_); rfl)
            | ((with_reducible refine wpList_loadG (op := ⟨some 82, _, _, _, _, _⟩) rfl 23 (.tmp 6) rfl _ ?_ _ (m6.out _ HB8) ?_); rfl)
            | ((with_reducible refine wpList_loadG (op := ⟨some 91, _, _, _, _, _⟩) rfl 23 (.tmp 7) rfl _ ?_ _ (m7.out _ HB8) ?_); rfl)
            | ((with_reducible refine wpList_loadG (op := ⟨some 92, _, _, _, _, _⟩) rfl 23 (.tmp 16) rfl _ ?_ _ (m16.out _ HB8) ?_); rfl)
            | ((with_reducible refine wpList_loadG (op := ⟨some 93, _, _, _, _, _⟩) rfl 23 (.tmp 18) rfl _ ?_ _ (m18.out _ HB8) ?_); rfl)
            | (go_at_call 21; (with_reducible refine (Q1.out _).mono ?_); rintro e wp ⟨rfl, hb1⟩; replace HB8 := HB8.trans (hb1.mono HB8.size); clear hb1)
            | (go_at_call 21; (with_reducible refine (Q3.out _).mono ?_); rintro e wq ⟨rfl, hb1⟩; replace HB8 := HB8.trans (hb1.mono HB8.size); clear hb1)
            | (go_at_call 6; (with_reducible refine (C6.out _).mono ?_); rintro e ws ⟨rfl, hb1⟩; replace HB8 := HB8.trans (hb1.mono HB8.size); clear hb1))
          go_ret
          exact ⟨rfl, HBL.out.trans ((HB.trans (HB8.mono HB.size)).mono HBL.out.size)⟩
      · rw [if_pos (by rfl)]
        refine LooseR.wpD (S := fun w' => Below W7.heap.size W7 w') 18 rfl (looseR_alloc 23 rfl Z hz1 (hHeld.alloc hHeld.size _)) (fun u wa hSa hba hu => hK.out _ _ hSa (fun hHa => ?_))
        obtain ⟨rfl, hwa⟩ := hu
        have hrow : wa.heap[W7.drew.heap.size]? = some (.cells Z 23 (0, 0)) := by rw [hwa]; exact heap_alloc_new _ _
        simp only [Act.put, List.setIfInBounds_toArray, List.set_cons_zero, List.set_cons_succ]
        refine single 6 72 rfl rfl (by kernel_rfl) (by rfl) (fun v _ => v = .tuple #[.agg XB, .bool true]) (looseR_call 13 rfl (enters_of Try.func13 (by kernel_rfl) rfl) _ (by simp only [List.map_toArray, List.map_cons, List.map_nil]; rfl) (hE.out _ hSa)) ?_
        intro u wz hSz hbz hu
        subst hu
        simp only [Act.put, List.setIfInBounds_toArray, List.set_cons_zero, List.set_cons_succ]
        refine takeH_at 7 65 (v := ?_) rfl rfl (by kernel_rfl) (by kernel_rfl) (by kernel_rfl) (fun _ _ _ h => h) (Or.inl ⟨by rfl, ?_⟩) (by assumption) ?_
        rotate_left
        · (intro wx hSw; clear hSw; go_simp) <;> with_reducible rfl
        simp only [Act.put, List.setIfInBounds_toArray, List.set_cons_zero, List.set_cons_succ]
        refine takeH_at 8 73 (v := ?_) rfl rfl (by kernel_rfl) (by kernel_rfl) (by kernel_rfl) (fun _ _ _ h => h) (Or.inl ⟨by rfl, ?_⟩) (by assumption) ?_
        rotate_left
        · (intro wx hSw; clear hSw; go_simp) <;> with_reducible rfl
        simp only [Act.put, List.setIfInBounds_toArray, List.set_cons_zero, List.set_cons_succ]
        refine takeH_at 9 74 (v := ?_) rfl rfl (by kernel_rfl) (by kernel_rfl) (by kernel_rfl) (fun _ _ _ h => h) (Or.inl ⟨by rfl, ?_⟩) (by assumption) ?_
        rotate_left
        · (intro wx hSw; clear hSw; go_simp) <;> with_reducible rfl
        simp only [Act.put, List.setIfInBounds_toArray, List.set_cons_zero, List.set_cons_succ]
        have hrz := (hbz.block _ (Array.getElem?_eq_some_iff.1 hrow).1).trans hrow
        obtain ⟨r1, r2⟩ := hNX.out wz W7.drew.heap.size hSz (Nat.le_refl _) hrz
        refine single_store 11 rfl rfl (by kernel_rfl) (by rfl) 23 (.tmp 18) (.tmp 73) rfl W7.drew.heap.size XB rfl rfl 23 Z hrz hIxb.out hSxb.out hTxb.out r2 ?_
        refine takeH_at 12 19 (v := ?_) rfl rfl (by kernel_rfl) (by kernel_rfl) (by kernel_rfl) (fun _ _ _ h => h) (Or.inl ⟨by rfl, ?_⟩) (by assumption) ?_
        rotate_left
        · (intro wx hSw; clear hSw; go_simp) <;> with_reducible rfl
        simp only [Act.put, List.setIfInBounds_toArray, List.set_cons_zero, List.set_cons_succ]
        clear hrow hwa
        generalize W7.drew.heap.size = g18 at r1 r2 hrz ⊢
        clear hrz hSz hSa hba hbz hHa
        refine wpAnyH_done (by kernel_rfl) ?_ _
        refine NoPanic.normal ?_
        clear R hK K hHeld hS1 M6 hE hNX
        have R := r1
        replace HB := HB.trans (r2.mono HB.size)
        replace HB6 := HB6.trans (r2.mono HB6.size)
        clear r1 r2
        generalize wz.setRow g18 XB = W8 at R HB HB6 ⊢
        have m6 : Hid (∀ W, Below W8.heap.size W8 W → (loadVar 23 ⟨w.heap.size, 0, none⟩).run Try.prog W = .ok (.agg OA) W) := Lib.hid (fun W h => ldo.out W _ w.heap.size (R.below h) (by first | exact .head _ | exact .tail _ (.head _) | exact .tail _ (.tail _ (.head _)) | exact .tail _ (.tail _ (.tail _ (.head _))) | exact .tail _ (.tail _ (.tail _ (.tail _ (.head _)))) | exact .tail _ (.tail _ (.tail _ (.tail _ (.tail _ (.head _))))) | exact .tail _ (.tail _ (.tail _ (.tail _ (.tail _ (.tail _ (.head _)))))) | exact .tail _ (.tail _ (.tail _ (.tail _ (.tail _ (.tail _ (.tail _ (.head _))))))) | exact .tail _ (.tail _ (.tail _ (.tail _ (.tail _ (.tail _ (.tail _ (.tail _ (.head _)))))))) | exact .tail _ (.tail _ (.tail _ (.tail _ (.tail _ (.tail _ (.tail _ (.tail _ (.tail _ (.head _)))))))))))
        have m7 : Hid (∀ W, Below W8.heap.size W8 W → (loadVar 23 ⟨(w.heap.size + 1), 0, none⟩).run Try.prog W = .ok (.agg TA) W) := Lib.hid (fun W h => ldt.out W _ (w.heap.size + 1) (R.below h) (by first | exact .head _ | exact .tail _ (.head _) | exact .tail _ (.tail _ (.head _)) | exact .tail _ (.tail _ (.tail _ (.head _))) | exact .tail _ (.tail _ (.tail _ (.tail _ (.head _)))) | exact .tail _ (.tail _ (.tail _ (.tail _ (.tail _ (.head _))))) | exact .tail _ (.tail _ (.tail _ (.tail _ (.tail _ (.tail _ (.head _)))))) | exact .tail _ (.tail _ (.tail _ (.tail _ (.tail _ (.tail _ (.tail _ (.head _))))))) | exact .tail _ (.tail _ (.tail _ (.tail _ (.tail _ (.tail _ (.tail _ (.tail _ (.head _)))))))) | exact .tail _ (.tail _ (.tail _ (.tail _ (.tail _ (.tail _ (.tail _ (.tail _ (.tail _ (.head _)))))))))))
        have m16 : Hid (∀ W, Below W8.heap.size W8 W → (loadVar 23 ⟨g16, 0, none⟩).run Try.prog W = .ok (.agg XA) W) := Lib.hid (fun W h => ldxa.out W _ g16 (R.below h) (by first | exact .head _ | exact .tail _ (.head _) | exact .tail _ (.tail _ (.head _)) | exact .tail _ (.tail _ (.tail _ (.head _))) | exact .tail _ (.tail _ (.tail _ (.tail _ (.head _)))) | exact .tail _ (.tail _ (.tail _ (.tail _ (.tail _ (.head _))))) | exact .tail _ (.tail _ (.tail _ (.tail _ (.tail _ (.tail _ (.head _)))))) | exact .tail _ (.tail _ (.tail _ (.tail _ (.tail _ (.tail _ (.tail _ (.head _))))))) | exact .tail _ (.tail _ (.tail _ (.tail _ (.tail _ (.tail _ (.tail _ (.tail _ (.head _)))))))) | exact .tail _ (.tail _ (.tail _ (.tail _ (.tail _ (.tail _ (.tail _ (.tail _ (.tail _ (.head _)))))))))))
        have m18 : Hid (∀ W, Below W8.heap.size W8 W → (loadVar 23 ⟨g18, 0, none⟩).run Try.prog W = .ok (.agg XB) W) := Lib.hid (fun W h => ldxb.out W _ g18 (R.below h) (by first | exact .head _ | exact .tail _ (.head _) | exact .tail _ (.tail _ (.head _)) | exact .tail _ (.tail _ (.tail _ (.head _))) | exact .tail _ (.tail _ (.tail _ (.tail _ (.head _)))) | exact .tail _ (.tail _ (.tail _ (.tail _ (.tail _ (.head _))))) | exact .tail _ (.tail _ (.tail _ (.tail _ (.tail _ (.tail _ (.head _)))))) | exact .tail _ (.tail _ (.tail _ (.tail _ (.tail _ (.tail _ (.tail _ (.head _))))))) | exact .tail _ (.tail _ (.tail _ (.tail _ (.tail _ (.tail _ (.tail _ (.tail _ (.head _)))))))) | exact .tail _ (.tail _ (.tail _ (.tail _ (.tail _ (.tail _ (.tail _ (.tail _ (.tail _ (.head _)))))))))))
        have HB8 : Below W8.heap.size W8 W8 := Below.refl _ _
        clear R HB6
        rcases hab with hab | hab
        · have hab' : (b : Int) ≤ (a : Int) := by omega
          clear Q2
          go_wp2_with (first
            | ((with_reducible refine wpList_valG (op := ⟨some 89, _, _, _, _, _⟩) rfl (.bool true) ?_ ?_); (go_simp; simp [hab']))
            | ((with_reducible refine wpList_loadG (op := ⟨some 80, _, _, _, _, _⟩) rfl 23 (.tmp 7) rfl _ ?_ _ (m7.out _ HB8) ?_); rfl)
            | ((with_reducible refine wpList_loadG (op := ⟨some 81, _, _, _, _, _⟩) rfl 23 (.tmp 16) rfl _ ?_ _ (m16.out _ HB8) ?_); rfl)
            | ((with_reducible refine wpList_loadG (op := ⟨some 82, _, _, _, _, _⟩) rfl 23 (.tmp 6) rfl _ ?_ _ (m6.out _ HB8) ?_); rfl)
            | ((with_reducible refine wpList_loadG (op := ⟨some 91, _, _, _, _, _⟩) rfl 23 (.tmp 7) rfl _ ?_ _ (m7.out _ HB8) ?_); rfl)
            | ((with_reducible refine wpList_loadG (op := ⟨some 92, _, _, _, _, _⟩) rfl 23 (.tmp 16) rfl _ ?_ _ (m16.out _ HB8) ?_); rfl)
            | ((with_reducible refine wpList_loadG (op := ⟨some 93, _, _, _, _, _⟩) rfl 23 (.tmp 18) rfl _ ?_ _ (m18.out _ HB8) ?_); rfl)
            | (go_at_call 21; (with_reducible refine (Q1.out _).mono ?_); rintro e wp ⟨rfl, hb1⟩; replace HB8 := HB8.trans (hb1.mono HB8.size); clear hb1)
            | (go_at_call 6; (with_reducible refine (C6.out _).mono ?_); rintro e ws ⟨rfl, hb1⟩; replace HB8 := HB8.trans (hb1.mono HB8.size); clear hb1))
          go_ret
          exact ⟨rfl, HBL.out.trans ((HB.trans (HB8.mono HB.size)).mono HBL.out.size)⟩
        · have hab' : ¬ (b : Int) ≤ (a : Int) := by omega
          have Q3 := Lib.hid (Q2.out hab)
          go_wp2_with (first
            | ((with_reducible refine wpList_valG (op := ⟨some 89, _, _, _, _, _⟩) rfl (.bool false) ?_ ?_); (go_simp; simp [hab']))
            | ((with_reducible refine wpList_loadG (op := ⟨some 80, _, _, _, _, _⟩) rfl 23 (.tmp 7) rfl _ ?_ _ (m7.out _ HB8) ?_); rfl)
            | ((with_reducible refine wpList_loadG (op := ⟨some 81, _, _, _, _, _⟩) rfl 23 (.tmp 16) rfl _ ?_ _ (m16.out _ HB8) ?_); rfl)
            | ((with_reducible refine wpList_loadG (op := ⟨some 82, _, _, _, _, _⟩) rfl 23 (.tmp 6) rfl _ ?_ _ (m6.out _ HB8) ?_); rfl)
            | ((with_reducible refine wpList_loadG (op := ⟨some 91, _, _, _, _, _⟩) rfl 23 (.tmp 7) rfl _ ?_ _ (m7.out _ HB8) ?_); rfl)
            | ((with_reducible refine wpList_loadG (op := ⟨some 92, _, _, _, _, _⟩) rfl 23 (.tmp 16) rfl _ ?_ _ (m16.out _ HB8) ?_); rfl)
            | ((with_reducible refine wpList_loadG (op := ⟨some 93, _, _, _, _, _⟩) rfl 23 (.tmp 18) rfl _ ?_ _ (m18.out _ HB8) ?_); rfl)
            | (go_at_call 21; (with_reducible refine (Q1.out _).mono ?_); rintro e wp ⟨rfl, hb1⟩; replace HB8 := HB8.trans (hb1.mono HB8.size); clear hb1)
            | (go_at_call 21; (with_reducible refine (Q3.out _).mono ?_); rintro e wq ⟨rfl, hb1⟩; replace HB8 := HB8.trans (hb1.mono HB8.size); clear hb1)
            | (go_at_call 6; (with_reducible refine (C6.out _).mono ?_); rintro e ws ⟨rfl, hb1⟩; replace HB8 := HB8.trans (hb1.mono HB8.size); clear hb1))
          go_ret
          exact ⟨rfl, HBL.out.trans ((HB.trans (HB8.mono HB.size)).mono HBL.out.size)⟩
    · rw [if_pos (by rfl)]
      refine LooseR.wpD (S := fun w' => Below W6.heap.size W6 w') 16 rfl (looseR_alloc 23 rfl Z hz1 (hHeld.alloc hHeld.size _)) (fun u wa hSa hba hu => hK.out _ _ hSa (fun hHa => ?_))
      obtain ⟨rfl, hwa⟩ := hu
      have hrow : wa.heap[W6.drew.heap.size]? = some (.cells Z 23 (0, 0)) := by rw [hwa]; exact heap_alloc_new _ _
      simp only [Act.put, List.setIfInBounds_toArray, List.set_cons_zero, List.set_cons_succ]
      refine single 6 62 rfl rfl (by kernel_rfl) (by rfl) (fun v _ => v = .tuple #[.agg XA, .bool true]) (looseR_call 13 rfl (enters_of Try.func13 (by kernel_rfl) rfl) _ (by simp only [List.map_toArray, List.map_cons, List.map_nil]; rfl) (hE.out _ hSa)) ?_
      intro u wz hSz hbz hu
      subst hu
      simp only [Act.put, List.setIfInBounds_toArray, List.set_cons_zero, List.set_cons_succ]
      refine takeH_at 7 55 (v := ?_) rfl rfl (by kernel_rfl) (by kernel_rfl) (by kernel_rfl) (fun _ _ _ h => h) (Or.inl ⟨by rfl, ?_⟩) (by assumption) ?_
      rotate_left
      · (intro wx hSw; clear hSw; go_simp) <;> with_reducible rfl
      simp only [Act.put, List.setIfInBounds_toArray, List.set_cons_zero, List.set_cons_succ]
      refine takeH_at 8 63 (v := ?_) rfl rfl (by kernel_rfl) (by kernel_rfl) (by kernel_rfl) (fun _ _ _ h => h) (Or.inl ⟨by rfl, ?_⟩) (by assumption) ?_
      rotate_left
      · (intro wx hSw; clear hSw; go_simp) <;> with_reducible rfl
      simp only [Act.put, List.setIfInBounds_toArray, List.set_cons_zero, List.set_cons_succ]
      refine takeH_at 9 64 (v := ?_) rfl rfl (by kernel_rfl) (by kernel_rfl) (by kernel_rfl) (fun _ _ _ h => h) (Or.inl ⟨by rfl, ?_⟩) (by assumption) ?_
      rotate_left
      · (intro wx hSw; clear hSw; go_simp) <;> with_reducible rfl
      simp only [Act.put, List.setIfInBounds_toArray, List.set_cons_zero, List.set_cons_succ]
      have hrz := (hbz.block _ (Array.getElem?_eq_some_iff.1 hrow).1).trans hrow
      obtain ⟨r1, r2⟩ := hNX.out wz W6.drew.heap.size hSz (Nat.le_refl _) hrz
      refine single_store 11 rfl rfl (by kernel_rfl) (by rfl) 23 (.tmp 16) (.tmp 63) rfl W6.drew.heap.size XA rfl rfl 23 Z hrz hIxa.out hSxa.out hTxa.out r2 ?_
      refine takeH_at 12 17 (v := ?_) rfl rfl (by kernel_rfl) (by kernel_rfl) (by kernel_rfl) (fun _ _ _ h => h) (Or.inl ⟨by rfl, ?_⟩) (by assumption) ?_
      rotate_left
      · (intro wx hSw; clear hSw; go_simp) <;> with_reducible rfl
      simp only [Act.put, List.setIfInBounds_toArray, List.set_cons_zero, List.set_cons_succ]
      clear hrow hwa
      generalize W6.drew.heap.size = g16 at r1 r2 hrz ⊢
      clear hrz hSz hSa hba hbz hHa
      refine wpAnyH_done (by kernel_rfl) ?_ _
      refine NoPanic.normal ?_
      clear R hK K hHeld hS1 M6 hE hNX
      have R := r1
      replace HB := HB.trans (r2.mono HB.size)
      replace HB6 := HB6.trans (r2.mono HB6.size)
      clear r1 r2
      generalize wz.setRow g16 XA = W7 at R HB HB6 ⊢
      go_upto_region 8 with fail
      have M6 : Hid (∀ W', Below W7.heap.size W7 W' → (loadVar 23 ⟨w.heap.size, 0, none⟩).run Try.prog W' = .ok (.agg OA) W') := Lib.hid (fun W' h => ldo.out W' _ w.heap.size (R.below h) (by first | exact .head _ | exact .tail _ (.head _) | exact .tail _ (.tail _ (.head _)) | exact .tail _ (.tail _ (.tail _ (.head _))) | exact .tail _ (.tail _ (.tail _ (.tail _ (.head _)))) | exact .tail _ (.tail _ (.tail _ (.tail _ (.tail _ (.head _))))) | exact .tail _ (.tail _ (.tail _ (.tail _ (.tail _ (.tail _ (.head _)))))) | exact .tail _ (.tail _ (.tail _ (.tail _ (.tail _ (.tail _ (.tail _ (.head _))))))) | exact .tail _ (.tail _ (.tail _ (.tail _ (.tail _ (.tail _ (.tail _ (.tail _ (.head _)))))))) | exact .tail _ (.tail _ (.tail _ (.tail _ (.tail _ (.tail _ (.tail _ (.tail _ (.tail _ (.head _)))))))))))
      have hE := Lib.hid (fun W' h => F13.out W7 W' HB h)
      have hNX := Lib.hid (fun W2 g h1 h2 h3 => Nxb.out W7 W2 _ g R h1 h2 h3)
      have hS1 : Below W7.heap.size W7 W7.drew := (Below.refl _ W7).drew
      refine wp_region_noPanic ?_
      refine wp_region_held_drew (S := fun w' => Below W7.heap.size W7 w') (by kernel_rfl) hS1 (fun hHeld => ?_)
      refine takeH_at 0 66 (v := .agg OA) rfl rfl (by kernel_rfl) (by kernel_rfl) (by kernel_rfl) (fun _ _ _ h => h) (yieldsIf_loadS (by rfl) 23 (.tmp 6) rfl _ rfl _ M6.out) (by assumption) ?_
      simp only [Act.put, List.setIfInBounds_toArray, List.set_cons_zero, List.set_cons_succ]
      refine takeH_at 1 67 (v := ?_) rfl rfl (by kernel_rfl) (by kernel_rfl) (by kernel_rfl) (fun _ _ _ h => h) (Or.inl ⟨by rfl, ?_⟩) (by assumption) ?_
      rotate_left
      · (intro wx hSw; clear hSw; go_simp) <;> with_reducible rfl
      simp only [Act.put, List.setIfInBounds_toArray, List.set_cons_zero, List.set_cons_succ]
      refine takeH_at 2 68 (v := ?_) rfl rfl (by kernel_rfl) (by kernel_rfl) (by kernel_rfl) (fun _ _ _ h => h) (Or.inl ⟨by rfl, ?_⟩) (by assumption) ?_
      rotate_left
      · (intro wx hSw; clear hSw; go_simp) <;> with_reducible rfl
      simp only [Act.put, List.setIfInBounds_toArray, List.set_cons_zero, List.set_cons_succ]
      refine takeH_at 3 69 (v := ?_) rfl rfl (by kernel_rfl) (by kernel_rfl) (by kernel_rfl) (fun _ _ _ h => h) (Or.inl ⟨by rfl, ?_⟩) (by assumption) ?_
      rotate_left
      · (intro wx hSw; clear hSw; go_simp) <;> with_reducible rfl
      simp only [Act.put, List.setIfInBounds_toArray, List.set_cons_zero, List.set_cons_succ]
      refine takeH_at 4 70 (v := ?_) rfl rfl (by kernel_rfl) (by kernel_rfl) (by kernel_rfl) (fun _ _ _ h => h) (Or.inl ⟨by rfl, ?_⟩) (by assumption) ?_
      rotate_left
      · (intro wx hSw; have hcw := HC2.out wx (HB6.trans (hSw.mono HB6.size)); clear hSw; go_simp) <;> with_reducible rfl
      simp only [Act.put, List.setIfInBounds_toArray, List.set_cons_zero, List.set_cons_succ]
      refine takeH_at 5 71 (v := ?_) rfl rfl (by kernel_rfl) (by kernel_rfl) (by kernel_rfl) (fun _ _ _ h => h) (Or.inl ⟨by rfl, ?_⟩) (by assumption) ?_
      rotate_left
      · (intro wx hSw; clear hSw; go_simp) <;> with_reducible rfl
      simp only [Act.put, List.setIfInBounds_toArray, List.set_cons_zero, List.set_cons_succ]
      refine wpAnyH_ready (rs := [6, 10]) (by kernel_rfl) (by simp) (AllReadyH.cons rfl (fun K hK => ?_) (AllReadyH.cons rfl (fun K hK => ?_) AllReadyH.nil))
      · rw [if_pos (by rfl)]
        refine LooseR.wpD (S := fun w' => Below W7.heap.size W7 w') (X := fun v _ => v = .tuple #[.agg XB, .bool true]) 72 rfl (looseR_call 13 rfl (enters_of Try.func13 (by kernel_rfl) rfl) _ (by simp only [List.map_toArray, List.map_cons, List.map_nil]; rfl) (hE.out _ hHeld)) (fun u wa hSa hba hu => hK.out _ _ hSa (fun hHa => ?_))
        subst hu
        simp only [Act.put, List.setIfInBounds_toArray, List.set_cons_zero, List.set_cons_succ]
        refine takeH_at 7 65 (v := ?_) rfl rfl (by kernel_rfl) (by kernel_rfl) (by kernel_rfl) (fun _ _ _ h => h) (Or.inl ⟨by rfl, ?_⟩) (by assumption) ?_
        rotate_left
        · (intro wx hSw; clear hSw; go_simp) <;> with_reducible rfl
        simp only [Act.put, List.setIfInBounds_toArray, List.set_cons_zero, List.set_cons_succ]
        refine takeH_at 8 73 (v := ?_) rfl rfl (by kernel_rfl) (by kernel_rfl) (by kernel_rfl) (fun _ _ _ h => h) (Or.inl ⟨by rfl, ?_⟩) (by assumption) ?_
        rotate_left
        · (intro wx hSw; clear hSw; go_simp) <;> with_reducible rfl
        simp only [Act.put, List.setIfInBounds_toArray, List.set_cons_zero, List.set_cons_succ]
        refine takeH_at 9 74 (v := ?_) rfl rfl (by kernel_rfl) (by kernel_rfl) (by kernel_rfl) (fun _ _ _ h => h) (Or.inl ⟨by rfl, ?_⟩) (by assumption) ?_
        rotate_left
        · (intro wx hSw; clear hSw; go_simp) <;> with_reducible rfl
        simp only [Act.put, List.setIfInBounds_toArray, List.set_cons_zero, List.set_cons_succ]
        refine single 10 18 rfl rfl (by kernel_rfl) (by rfl) (fun v w' => v = .pointer (some ⟨wa.heap.size, 0, none⟩) ∧ w' = wa.alloc (.cells Z 23)) (looseR_alloc 23 rfl Z hz1 (hSa.alloc hSa.size _)) ?_
        intro u wz hSz hbz hu
        obtain ⟨rfl, rfl⟩ := hu
        simp only [Act.put, List.setIfInBounds_toArray, List.set_cons_zero, List.set_cons_succ]
        obtain ⟨r1, r2⟩ := hNX.out (wa.alloc (.cells Z 23)) wa.heap.size hSz hSa.size (heap_alloc_new wa _)
        refine single_store 11 rfl rfl (by kernel_rfl) (by rfl) 23 (.tmp 18) (.tmp 73) rfl wa.heap.size XB rfl rfl 23 Z (heap_alloc_new wa _) hIxb.out hSxb.out hTxb.out r2 ?_
        refine takeH_at 12 19 (v := ?_) rfl rfl (by kernel_rfl) (by kernel_rfl) (by kernel_rfl) (fun _ _ _ h => h) (Or.inl ⟨by rfl, ?_⟩) (by assumption) ?_
        rotate_left
        · (intro wx hSw; clear hSw; go_simp) <;> with_reducible rfl
        simp only [Act.put, List.setIfInBounds_toArray, List.set_cons_zero, List.set_cons_succ]
        generalize wa.alloc (.cells Z 23) = wz at r1 r2 hSz ⊢
        generalize wa.heap.size = g18 at r1 r2 ⊢
        clear hSz hSa hba hbz hHa
        refine wpAnyH_done (by kernel_rfl) ?_ _
        refine NoPanic.normal ?_
        clear R hK K hHeld hS1 M6 hE hNX
        have R := r1
        replace HB := HB.trans (r2.mono HB.size)
        replace HB6 := HB6.trans (r2.mono HB6.size)
        clear r1 r2
        generalize wz.setRow g18 XB = W8 at R HB HB6 ⊢
        have m6 : Hid (∀ W, Below W8.heap.size W8 W → (loadVar 23 ⟨w.heap.size, 0, none⟩).run Try.prog W = .ok (.agg OA) W) := Lib.hid (fun W h => ldo.out W _ w.heap.size (R.below h) (by first | exact .head _ | exact .tail _ (.head _) | exact .tail _ (.tail _ (.head _)) | exact .tail _ (.tail _ (.tail _ (.head _))) | exact .tail _ (.tail _ (.tail _ (.tail _ (.head _)))) | exact .tail _ (.tail _ (.tail _ (.tail _ (.tail _ (.head _))))) | exact .tail _ (.tail _ (.tail _ (.tail _ (.tail _ (.tail _ (.head _)))))) | exact .tail _ (.tail _ (.tail _ (.tail _ (.tail _ (.tail _ (.tail _ (.head _))))))) | exact .tail _ (.tail _ (.tail _ (.tail _ (.tail _ (.tail _ (.tail _ (.tail _ (.head _)))))))) | exact .tail _ (.tail _ (.tail _ (.tail _ (.tail _ (.tail _ (.tail _ (.tail _ (.tail _ (.head _)))))))))))
        have m7 : Hid (∀ W, Below W8.heap.size W8 W → (loadVar 23 ⟨(w.heap.size + 1), 0, none⟩).run Try.prog W = .ok (.agg TA) W) := Lib.hid (fun W h => ldt.out W _ (w.heap.size + 1) (R.below h) (by first | exact .head _ | exact .tail _ (.head _) | exact .tail _ (.tail _ (.head _)) | exact .tail _ (.tail _ (.tail _ (.head _))) | exact .tail _ (.tail _ (.tail _ (.tail _ (.head _)))) | exact .tail _ (.tail _ (.tail _ (.tail _ (.tail _ (.head _))))) | exact .tail _ (.tail _ (.tail _ (.tail _ (.tail _ (.tail _ (.head _)))))) | exact .tail _ (.tail _ (.tail _ (.tail _ (.tail _ (.tail _ (.tail _ (.head _))))))) | exact .tail _ (.tail _ (.tail _ (.tail _ (.tail _ (.tail _ (.tail _ (.tail _ (.head _)))))))) | exact .tail _ (.tail _ (.tail _ (.tail _ (.tail _ (.tail _ (.tail _ (.tail _ (.tail _ (.head _)))))))))))
        have m16 : Hid (∀ W, Below W8.heap.size W8 W → (loadVar 23 ⟨g16, 0, none⟩).run Try.prog W = .ok (.agg XA) W) := Lib.hid (fun W h => ldxa.out W _ g16 (R.below h) (by first | exact .head _ | exact .tail _ (.head _) | exact .tail _ (.tail _ (.head _)) | exact .tail _ (.tail _ (.tail _ (.head _))) | exact .tail _ (.tail _ (.tail _ (.tail _ (.head _)))) | exact .tail _ (.tail _ (.tail _ (.tail _ (.tail _ (.head _))))) | exact .tail _ (.tail _ (.tail _ (.tail _ (.tail _ (.tail _ (.head _)))))) | exact .tail _ (.tail _ (.tail _ (.tail _ (.tail _ (.tail _ (.tail _ (.head _))))))) | exact .tail _ (.tail _ (.tail _ (.tail _ (.tail _ (.tail _ (.tail _ (.tail _ (.head _)))))))) | exact .tail _ (.tail _ (.tail _ (.tail _ (.tail _ (.tail _ (.tail _ (.tail _ (.tail _ (.head _)))))))))))
        have m18 : Hid (∀ W, Below W8.heap.size W8 W → (loadVar 23 ⟨g18, 0, none⟩).run Try.prog W = .ok (.agg XB) W) := Lib.hid (fun W h => ldxb.out W _ g18 (R.below h) (by first | exact .head _ | exact .tail _ (.head _) | exact .tail _ (.tail _ (.head _)) | exact .tail _ (.tail _ (.tail _ (.head _))) | exact .tail _ (.tail _ (.tail _ (.tail _ (.head _)))) | exact .tail _ (.tail _ (.tail _ (.tail _ (.tail _ (.head _))))) | exact .tail _ (.tail _ (.tail _ (.tail _ (.tail _ (.tail _ (.head _)))))) | exact .tail _ (.tail _ (.tail _ (.tail _ (.tail _ (.tail _ (.tail _ (.head _))))))) | exact .tail _ (.tail _ (.tail _ (.tail _ (.tail _ (.tail _ (.tail _ (.tail _ (.head _)))))))) | exact .tail _ (.tail _ (.tail _ (.tail _ (.tail _ (.tail _ (.tail _ (.tail _ (.tail _ (.head _)))))))))))
        have HB8 : Below W8.heap.size W8 W8 := Below.refl _ _
        clear R HB6
        rcases hab with hab | hab
        · have hab' : (b : Int) ≤ (a : Int) := by omega
          clear Q2
          go_wp2_with (first
            | ((with_reducible refine wpList_valG (op := ⟨some 89, _, _, _, _, _⟩) rfl (.bool true) ?_ ?_); (go_simp; simp [hab']))
            | ((with_reducible refine wpList_loadG (op := ⟨some 80, _, _, _, _, _⟩) rfl 23 (.tmp 7) rfl _ ?_ _ (m7.out _ HB8) ?_); rfl)
            | ((with_reducible refine wpList_loadG (op := ⟨some 81, _, _, _, _, _⟩) rfl 23 (.tmp 16) rfl _ ?_ _ (m16.out _ HB8) ?_); rfl)
            | ((with_reducible refine wpList_loadG (op := ⟨some 82, _, _, _, _, _⟩) rfl 23 (.tmp 6) rfl _ ?_ _ (m6.out _ HB8) ?_); rfl)
            | ((with_reducible refine wpList_loadG (op := ⟨some 91, _, _, _, _, _⟩) rfl 23 (.tmp 7) rfl _ ?_ _ (m7.out _ HB8) ?_); rfl)
            | ((with_reducible refine wpList_loadG (op := ⟨some 92, _, _, _, _, _⟩) rfl 23 (.tmp 16) rfl _ ?_ _ (m16.out _ HB8) ?_); rfl)
            | ((with_reducible refine wpList_loadG (op := ⟨some 93, _, _, _, _, _⟩) rfl 23 (.tmp 18) rfl _ ?_ _ (m18.out _ HB8) ?_); rfl)
            | (go_at_call 21; (with_reducible refine (Q1.out _).mono ?_); rintro e wp ⟨rfl, hb1⟩; replace HB8 := HB8.trans (hb1.mono HB8.size); clear hb1)
            | (go_at_call 6; (with_reducible refine (C6.out _).mono ?_); rintro e ws ⟨rfl, hb1⟩; replace HB8 := HB8.trans (hb1.mono HB8.size); clear hb1))
          go_ret
          exact ⟨rfl, HBL.out.trans ((HB.trans (HB8.mono HB.size)).mono HBL.out.size)⟩
        · have hab' : ¬ (b : Int) ≤ (a : Int) := by omega
          have Q3 := Lib.hid (Q2.out hab)
          go_wp2_with (first
            | ((with_reducible refine wpList_valG (op := ⟨some 89, _, _, _, _, _⟩) rfl (.bool false) ?_ ?_); (go_simp; simp [hab']))
            | ((with_reducible refine wpList_loadG (op := ⟨some 80, _, _, _, _, _⟩) rfl 23 (.tmp 7) rfl _ ?_ _ (m7.out _ HB8) ?_); rfl)
            | ((with_reducible refine wpList_loadG (op := ⟨some 81, _, _, _, _, _⟩) rfl 23 (.tmp 16) rfl _ ?_ _ (m16.out _ HB8) ?_); rfl)
            | ((with_reducible refine wpList_loadG (op := ⟨some 82, _, _, _, _, _⟩) rfl 23 (.tmp 6) rfl _ ?_ _ (m6.out _ HB8) ?_); rfl)
            | ((with_reducible refine wpList_loadG (op := ⟨some 91, _, _, _, _, _⟩) rfl 23 (.tmp 7) rfl _ ?_ _ (m7.out _ HB8) ?_); rfl)
            | ((with_reducible refine wpList_loadG (op := ⟨some 92, _, _, _, _, _⟩) rfl 23 (.tmp 16) rfl _ ?_ _ (m16.out _ HB8) ?_); rfl)
            | ((with_reducible refine wpList_loadG (op := ⟨some 93, _, _, _, _, _⟩) rfl 23 (.tmp 18) rfl _ ?_ _ (m18.out _ HB8) ?_); rfl)
            | (go_at_call 21; (with_reducible refine (Q1.out _).mono ?_); rintro e wp ⟨rfl, hb1⟩; replace HB8 := HB8.trans (hb1.mono HB8.size); clear hb1)
            | (go_at_call 21; (with_reducible refine (Q3.out _).mono ?_); rintro e wq ⟨rfl, hb1⟩; replace HB8 := HB8.trans (hb1.mono HB8.size); clear hb1)
            | (go_at_call 6; (with_reducible refine (C6.out _).mono ?_); rintro e ws ⟨rfl, hb1⟩; replace HB8 := HB8.trans (hb1.mono HB8.size); clear hb1))
          go_ret
          exact ⟨rfl, HBL.out.trans ((HB.trans (HB8.mono HB.size)).mono HBL.out.size)⟩
      · rw [if_pos (by rfl)]
        refine LooseR.wpD (S := fun w' => Below W7.heap.size W7 w') 18 rfl (looseR_alloc 23 rfl Z hz1 (hHeld.alloc hHeld.size _)) (fun u wa hSa hba hu => hK.out _ _ hSa (fun hHa => ?_))
        obtain ⟨rfl, hwa⟩ := hu
        have hrow : wa.heap[W7.drew.heap.size]? = some (.cells Z 23 (0, 0)) := by rw [hwa]; exact heap_alloc_new _ _
        simp only [Act.put, List.setIfInBounds_toArray, List.set_cons_zero, List.set_cons_succ]
        refine single 6 72 rfl rfl (by kernel_rfl) (by rfl) (fun v _ => v = .tuple #[.agg XB, .bool true]) (looseR_call 13 rfl (enters_of Try.func13 (by kernel_rfl) rfl) _ (by simp only [List.map_toArray, List.map_cons, List.map_nil]; rfl) (hE.out _ hSa)) ?_
        intro u wz hSz hbz hu
        subst hu
        simp only [Act.put, List.setIfInBounds_toArray, List.set_cons_zero, List.set_cons_succ]
        refine takeH_at 7 65 (v := ?_) rfl rfl (by kernel_rfl) (by kernel_rfl) (by kernel_rfl) (fun _ _ _ h => h) (Or.inl ⟨by rfl, ?_⟩) (by assumption) ?_
        rotate_left
        · (intro wx hSw; clear hSw; go_simp) <;> with_reducible rfl
        simp only [Act.put, List.setIfInBounds_toArray, List.set_cons_zero, List.set_cons_succ]
        refine takeH_at 8 73 (v := ?_) rfl rfl (by kernel_rfl) (by kernel_rfl) (by kernel_rfl) (fun _ _ _ h => h) (Or.inl ⟨by rfl, ?_⟩) (by assumption) ?_
        rotate_left
        · (intro wx hSw; clear hSw; go_simp) <;> with_reducible rfl
        simp only [Act.put, List.setIfInBounds_toArray, List.set_cons_zero, List.set_cons_succ]
        refine takeH_at 9 74 (v := ?_) rfl rfl (by kernel_rfl) (by kernel_rfl) (by kernel_rfl) (fun _ _ _ h => h) (Or.inl ⟨by rfl, ?_⟩) (by assumption) ?_
        rotate_left
        · (intro wx hSw; clear hSw; go_simp) <;> with_reducible rfl
        simp only [Act.put, List.setIfInBounds_toArray, List.set_cons_zero, List.set_cons_succ]
        have hrz := (hbz.block _ (Array.getElem?_eq_some_iff.1 hrow).1).trans hrow
        obtain ⟨r1, r2⟩ := hNX.out wz W7.drew.heap.size hSz (Nat.le_refl _) hrz
        refine single_store 11 rfl rfl (by kernel_rfl) (by rfl) 23 (.tmp 18) (.tmp 73) rfl W7.drew.heap.size XB rfl rfl 23 Z hrz hIxb.out hSxb.out hTxb.out r2 ?_
        refine takeH_at 12 19 (v := ?_) rfl rfl (by kernel_rfl) (by kernel_rfl) (by kernel_rfl) (fun _ _ _ h => h) (Or.inl ⟨by rfl, ?_⟩) (by assumption) ?_
        rotate_left
        · (intro wx hSw; clear hSw; go_simp) <;> with_reducible rfl
        simp only [Act.put, List.setIfInBounds_toArray, List.set_cons_zero, List.set_cons_succ]
        clear hrow hwa
        generalize W7.drew.heap.size = g18 at r1 r2 hrz ⊢
        clear hrz hSz hSa hba hbz hHa
        refine wpAnyH_done (by kernel_rfl) ?_ _
        refine NoPanic.normal ?_
        clear R hK K hHeld hS1 M6 hE hNX
        have R := r1
        replace HB := HB.trans (r2.mono HB.size)
        replace HB6 := HB6.trans (r2.mono HB6.size)
        clear r1 r2
        generalize wz.setRow g18 XB = W8 at R HB HB6 ⊢
        have m6 : Hid (∀ W, Below W8.heap.size W8 W → (loadVar 23 ⟨w.heap.size, 0, none⟩).run Try.prog W = .ok (.agg OA) W) := Lib.hid (fun W h => ldo.out W _ w.heap.size (R.below h) (by first | exact .head _ | exact .tail _ (.head _) | exact .tail _ (.tail _ (.head _)) | exact .tail _ (.tail _ (.tail _ (.head _))) | exact .tail _ (.tail _ (.tail _ (.tail _ (.head _)))) | exact .tail _ (.tail _ (.tail _ (.tail _ (.tail _ (.head _))))) | exact .tail _ (.tail _ (.tail _ (.tail _ (.tail _ (.tail _ (.head _)))))) | exact .tail _ (.tail _ (.tail _ (.tail _ (.tail _ (.tail _ (.tail _ (.head _))))))) | exact .tail _ (.tail _ (.tail _ (.tail _ (.tail _ (.tail _ (.tail _ (.tail _ (.head _)))))))) | exact .tail _ (.tail _ (.tail _ (.tail _ (.tail _ (.tail _ (.tail _ (.tail _ (.tail _ (.head _)))))))))))
        have m7 : Hid (∀ W, Below W8.heap.size W8 W → (loadVar 23 ⟨(w.heap.size + 1), 0, none⟩).run Try.prog W = .ok (.agg TA) W) := Lib.hid (fun W h => ldt.out W _ (w.heap.size + 1) (R.below h) (by first | exact .head _ | exact .tail _ (.head _) | exact .tail _ (.tail _ (.head _)) | exact .tail _ (.tail _ (.tail _ (.head _))) | exact .tail _ (.tail _ (.tail _ (.tail _ (.head _)))) | exact .tail _ (.tail _ (.tail _ (.tail _ (.tail _ (.head _))))) | exact .tail _ (.tail _ (.tail _ (.tail _ (.tail _ (.tail _ (.head _)))))) | exact .tail _ (.tail _ (.tail _ (.tail _ (.tail _ (.tail _ (.tail _ (.head _))))))) | exact .tail _ (.tail _ (.tail _ (.tail _ (.tail _ (.tail _ (.tail _ (.tail _ (.head _)))))))) | exact .tail _ (.tail _ (.tail _ (.tail _ (.tail _ (.tail _ (.tail _ (.tail _ (.tail _ (.head _)))))))))))
        have m16 : Hid (∀ W, Below W8.heap.size W8 W → (loadVar 23 ⟨g16, 0, none⟩).run Try.prog W = .ok (.agg XA) W) := Lib.hid (fun W h => ldxa.out W _ g16 (R.below h) (by first | exact .head _ | exact .tail _ (.head _) | exact .tail _ (.tail _ (.head _)) | exact .tail _ (.tail _ (.tail _ (.head _))) | exact .tail _ (.tail _ (.tail _ (.tail _ (.head _)))) | exact .tail _ (.tail _ (.tail _ (.tail _ (.tail _ (.head _))))) | exact .tail _ (.tail _ (.tail _ (.tail _ (.tail _ (.tail _ (.head _)))))) | exact .tail _ (.tail _ (.tail _ (.tail _ (.tail _ (.tail _ (.tail _ (.head _))))))) | exact .tail _ (.tail _ (.tail _ (.tail _ (.tail _ (.tail _ (.tail _ (.tail _ (.head _)))))))) | exact .tail _ (.tail _ (.tail _ (.tail _ (.tail _ (.tail _ (.tail _ (.tail _ (.tail _ (.head _)))))))))))
        have m18 : Hid (∀ W, Below W8.heap.size W8 W → (loadVar 23 ⟨g18, 0, none⟩).run Try.prog W = .ok (.agg XB) W) := Lib.hid (fun W h => ldxb.out W _ g18 (R.below h) (by first | exact .head _ | exact .tail _ (.head _) | exact .tail _ (.tail _ (.head _)) | exact .tail _ (.tail _ (.tail _ (.head _))) | exact .tail _ (.tail _ (.tail _ (.tail _ (.head _)))) | exact .tail _ (.tail _ (.tail _ (.tail _ (.tail _ (.head _))))) | exact .tail _ (.tail _ (.tail _ (.tail _ (.tail _ (.tail _ (.head _)))))) | exact .tail _ (.tail _ (.tail _ (.tail _ (.tail _ (.tail _ (.tail _ (.head _))))))) | exact .tail _ (.tail _ (.tail _ (.tail _ (.tail _ (.tail _ (.tail _ (.tail _ (.head _)))))))) | exact .tail _ (.tail _ (.tail _ (.tail _ (.tail _ (.tail _ (.tail _ (.tail _ (.tail _ (.head _)))))))))))
        have HB8 : Below W8.heap.size W8 W8 := Below.refl _ _
        clear R HB6
        rcases hab with hab | hab
        · have hab' : (b : Int) ≤ (a : Int) := by omega
          clear Q2
          go_wp2_with (first
            | ((with_reducible refine wpList_valG (op := ⟨some 89, _, _, _, _, _⟩) rfl (.bool true) ?_ ?_); (go_simp; simp [hab']))
            | ((with_reducible refine wpList_loadG (op := ⟨some 80, _, _, _, _, _⟩) rfl 23 (.tmp 7) rfl _ ?_ _ (m7.out _ HB8) ?_); rfl)
            | ((with_reducible refine wpList_loadG (op := ⟨some 81, _, _, _, _, _⟩) rfl 23 (.tmp 16) rfl _ ?_ _ (m16.out _ HB8) ?_); rfl)
            | ((with_reducible refine wpList_loadG (op := ⟨some 82, _, _, _, _, _⟩) rfl 23 (.tmp 6) rfl _ ?_ _ (m6.out _ HB8) ?_); rfl)
            | ((with_reducible refine wpList_loadG (op := ⟨some 91, _, _, _, _, _⟩) rfl 23 (.tmp 7) rfl _ ?_ _ (m7.out _ HB8) ?_); rfl)
            | ((with_reducible refine wpList_loadG (op := ⟨some 92, _, _, _, _, _⟩) rfl 23 (.tmp 16) rfl _ ?_ _ (m16.out _ HB8) ?_); rfl)
            | ((with_reducible refine wpList_loadG (op := ⟨some 93, _, _, _, _, _⟩) rfl 23 (.tmp 18) rfl _ ?_ _ (m18.out _ HB8) ?_); rfl)
            | (go_at_call 21; (with_reducible refine (Q1.out _).mono ?_); rintro e wp ⟨rfl, hb1⟩; replace HB8 := HB8.trans (hb1.mono HB8.size); clear hb1)
            | (go_at_call 6; (with_reducible refine (C6.out _).mono ?_); rintro e ws ⟨rfl, hb1⟩; replace HB8 := HB8.trans (hb1.mono HB8.size); clear hb1))
          go_ret
          exact ⟨rfl, HBL.out.trans ((HB.trans (HB8.mono HB.size)).mono HBL.out.size)⟩
        · have hab' : ¬ (b : Int) ≤ (a : Int) := by omega
          have Q3 := Lib.hid (Q2.out hab)
          go_wp2_with (first
            | ((with_reducible refine wpList_valG (op := ⟨some 89, _, _, _, _, _⟩) rfl (.bool false) ?_ ?_); (go_simp; simp [hab']))
            | ((with_reducible refine wpList_loadG (op := ⟨some 80, _, _, _, _, _⟩) rfl 23 (.tmp 7) rfl _ ?_ _ (m7.out _ HB8) ?_); rfl)
            | ((with_reducible refine wpList_loadG (op := ⟨some 81, _, _, _, _, _⟩) rfl 23 (.tmp 16) rfl _ ?_ _ (m16.out _ HB8) ?_); rfl)
            | ((with_reducible refine wpList_loadG (op := ⟨some 82, _, _, _, _, _⟩) rfl 23 (.tmp 6) rfl _ ?_ _ (m6.out _ HB8) ?_); rfl)
            | ((with_reducible refine wpList_loadG (op := ⟨some 91, _, _, _, _, _⟩) rfl 23 (.tmp 7) rfl _ ?_ _ (m7.out _ HB8) ?_); rfl)
            | ((with_reducible refine wpList_loadG (op := ⟨some 92, _, _, _, _, _⟩) rfl 23 (.tmp 16) rfl _ ?_ _ (m16.out _ HB8) ?_); rfl)
            | ((with_reducible refine wpList_loadG (op := ⟨some 93, _, _, _, _, _⟩) rfl 23 (.tmp 18) rfl _ ?_ _ (m18.out _ HB8) ?_); rfl)
            | (go_at_call 21; (with_reducible refine (Q1.out _).mono ?_); rintro e wp ⟨rfl, hb1⟩; replace HB8 := HB8.trans (hb1.mono HB8.size); clear hb1)
            | (go_at_call 21; (with_reducible refine (Q3.out _).mono ?_); rintro e wq ⟨rfl, hb1⟩; replace HB8 := HB8.trans (hb1.mono HB8.size); clear hb1)
            | (go_at_call 6; (with_reducible refine (C6.out _).mono ?_); rintro e ws ⟨rfl, hb1⟩; replace HB8 := HB8.trans (hb1.mono HB8.size); clear hb1))
          go_ret
          exact ⟨rfl, HBL.out.trans ((HB.trans (HB8.mono HB.size)).mono HBL.out.size)⟩
theorem sorder_walk (o t : List UInt8) (ho : o.length = 20) (ht : t.length = 20) (A : Option Addr) (c : Nat) (s : List UInt8) (A' : Option Addr) (c' : Nat) (s' : List UInt8) (i k : Int) (w : World) (hA : BAt w w.heap.size A s) (hA' : BAt w w.heap.size A' s') :
    Calls Try.prog 5 #[.agg (bcells o).toArray, .agg (bcells t).toArray, .slice A s.length c, .slice A' s'.length c', .int .i64 i, .int .i64 k] w fun e w' => e = .returned (.bool true) ∧ Below w.heap.size w w' := by
  by_cases h : 100 < s.length ∨ 100 < s'.length
  · exact sorder_far _ _ A A' s.length c s'.length c' i k h w
  · exact sorder_near o t ho ht A c s A' c' s' i k w (by omega) hA (by omega) hA'
end Go.Proofs.Ytieeffebecghiaa
