/- Walk of InstReads. No condition. -/
import Derived.Test.YtkceipkgebgigaaXIyn
import Derived.Test.YtkceipkgebgigaaXIit
import Derived.Test.YtkceipkgebgigaaXKCdk
namespace Go.Proofs.Ytkceipkgebgigaa
open Go.Shelf Go.RowKit Go.Lib Go.Great
set_option maxRecDepth 100000
set_option maxHeartbeats 4000000
theorem load4 {w : World} {h : Nat} {b : Bool} (hc : w.cell? ⟨h, 2, none⟩ = some (.bool b)) : (loadVar 4 ⟨h, 2, none⟩).run Try.prog w = .ok (.bool b) w := by
  go_simp
theorem quiet_build28 {B : Nat} {W0 : World} {o : Oper} {a : Act} {K : Act → Prop} (ho : o.op = .build 28 #[])
    (hk : K (a.put o.dst (.agg (encI zeroI).toArray))) : o.quiet Try.prog a (fun w' => ∃ n : Kept B W0, w' = n.val) K :=
  quiet_valV (.agg (encI zeroI).toArray) (fun n => by
    unfold execOp
    simp only [ho, List.map_toArray, List.map_nil, Sem.run_bind, build28z, Result.andThen_ok, Sem.run_pure]) hk
/-- Both readers, and instances in blocks of their own. -/
structure IRW (w : World) (g h : Nat) (A : Option Addr) (c : Nat) (xs : List UInt8) (s1 s2 : St) (Bx : List (Nat × Ins)) (W : World) : Prop where
  pr : Pair w g h A c xs W s1 s2
  hb : ∀ p ∈ Bx, W.heap[p.1]? = some (.cells (encI p.2).toArray 28 (0, 0)) ∧ p.1 ≠ g ∧ p.1 ≠ h
section
variable {w W W' : World} {g h c : Nat} {A : Option Addr} {xs : List UInt8} {s1 s2 s1' s2' : St} {Bx : List (Nat × Ins)}
theorem IRW.lt (r : IRW w g h A c xs s1 s2 Bx W) : ∀ p ∈ Bx, p.1 < W.heap.size := fun p hp => (Array.getElem?_eq_some_iff.1 (r.hb p hp).1).1
theorem IRW.bel (r : IRW w g h A c xs s1 s2 Bx W) (hb : Below W.heap.size W W') : IRW w g h A c xs s1 s2 Bx W' :=
  ⟨r.pr.below hb (Nat.le_refl _), fun p hp => ⟨(hb.block _ (r.lt p hp)).trans (r.hb p hp).1, (r.hb p hp).2⟩⟩
theorem IRW.left (r : IRW w g h A c xs s1 s2 Bx W) (hr : RdrS W' g s1') (hg : W.grownBy W' (some g)) : IRW w g h A c xs s1' s2 Bx W' :=
  ⟨r.pr.left hr hg, fun p hp => ⟨(hg.block _ (r.lt p hp) (by intro e; injection e with e; have := (r.hb p hp).2.1; omega)).trans (r.hb p hp).1, (r.hb p hp).2⟩⟩
theorem IRW.right (r : IRW w g h A c xs s1 s2 Bx W) (hr : RRS W' h A c xs s2') (hg : W.grownBy W' (some h)) : IRW w g h A c xs s1 s2' Bx W' :=
  ⟨r.pr.right hr hg, fun p hp => ⟨(hg.block _ (r.lt p hp) (by intro e; injection e with e; have := (r.hb p hp).2.2; omega)).trans (r.hb p hp).1, (r.hb p hp).2⟩⟩
theorem IRW.push (r : IRW w g h A c xs s1 s2 Bx W) (i : Ins) : IRW w g h A c xs s1 s2 ((W.heap.size, i) :: Bx) (W.alloc (.cells (encI i).toArray 28)) := by
  have hb : Below W.heap.size W (W.alloc (.cells (encI i).toArray 28)) := (Below.refl _ W).alloc (Nat.le_refl _) _
  have r2 := r.bel hb
  have hg := r.pr.1.lt
  have hh := r.pr.2.1.rb.lt
  refine ⟨r2.pr, fun p hp => ?_⟩
  rcases List.mem_cons.1 hp with rfl | hp
  · exact ⟨heap_alloc_new W _, by simp only; omega, by simp only; omega⟩
  · exact r2.hb p hp
end
theorem ireads_big (A : Option Addr) (c n : Nat) (w : World) (h : 3000 < n) : Calls Try.prog 4 #[.slice A n c] w fun e w' => e = .returned (.bool true) ∧ Below w.heap.size w w' := by
  have HLI := Lib.hid (lives_any w)
  have h' : (3000 : Int) < (n : Int) := by omega
  go_enter Try.func4, Try.ntmps4
  go_wp2_with (go_at_call 11; (with_reducible refine HLI.out.mono ?_); rintro e w1 ⟨rfl, hb1⟩)
  go_ret
  exact ⟨rfl, hb1⟩
theorem ireads_small (A : Option Addr) (c : Nat) (xs : List UInt8) (w : World) (hA : BAt w w.heap.size A xs) (hc : xs.length ≤ c) (h : xs.length ≤ 3000) : Calls Try.prog 4 #[.slice A xs.length c] w fun e w' => e = .returned (.bool true) ∧ Below w.heap.size w w' := by
  have h3 : ¬ (3000 : Int) < (xs.length : Int) := by omega
  have H28 : Hid (Calls Try.prog 28 #[.slice A xs.length c] w fun e w' => ∃ g, e = .returned (.pointer (some ⟨g, 0, none⟩)) ∧ IRW w g w'.heap.size A c xs ⟨xs, false⟩ ⟨xs, false⟩ [] (w'.alloc (.cells #[.slice A xs.length c, .int .i64 0, .bool false] 47))) := Lib.hid ((open_any A c xs w hA (by omega)).mono (by
    rintro e w' ⟨g, rfl, hg, hr, hb⟩
    have a4 : Below w'.heap.size w' (w'.alloc (.cells #[.slice A xs.length c, .int .i64 0, .bool false] 47)) := (Below.refl _ w').alloc (Nat.le_refl _) _
    have b5 := hb.trans (a4.mono hb.size)
    have hs := hb.size
    have glt := hr.lt
    exact ⟨g, rfl, ⟨hr.below a4 (Nat.le_refl _), ⟨0, ⟨heap_alloc_new w' _, (hA.below b5).more b5.size, Nat.zero_le _, hc, by omega, fun h => by cases h⟩, rfl⟩, b5, by omega, by omega, by omega⟩, fun p hp => by cases hp⟩))
  obtain ⟨s0, hs0⟩ : ∃ s, s = (⟨xs, false⟩ : St) := ⟨_, rfl⟩
  rw [← hs0] at H28
  obtain ⟨K, hK⟩ : ∃ K, K = readI s0 := ⟨_, rfl⟩
  obtain ⟨gd, hgd⟩ : ∃ g, g = goodI (nextI s0) := ⟨_, rfl⟩
  obtain ⟨s', hs'⟩ : ∃ s, s = readS s0 := ⟨_, rfl⟩
  have H29 : Hid (∀ W g h Bx, IRW w g h A c xs s0 s0 Bx W → Calls Try.prog 29 #[.pointer (some ⟨g, 0, none⟩)] W fun e w' => e = .returned (.tuple #[.agg (encI K).toArray, .bool gd]) ∧ IRW w g h A c xs s' s0 Bx w') := Lib.hid (fun W g h Bx r => (iread_any r.pr.1.rb (Nat.le_refl _)).mono (by
    rintro e w' ⟨rfl, hr, hg⟩
    rw [← hs'] at hr
    exact ⟨by rw [hK, hgd], r.left hr.rs hg⟩))
  have H30 : Hid (∀ W g h Bx, IRW w g h A c xs s' s0 Bx W → Calls Try.prog 30 #[.pointer (some ⟨h, 0, none⟩)] W fun e w' => e = .returned (.tuple #[.agg (encI K).toArray, .bool gd]) ∧ IRW w g h A c xs s' s' Bx w') := Lib.hid (fun W g h Bx r => (irread_any r.pr.2.1.rb (Nat.le_refl _)).mono (by
    rintro e w' ⟨rfl, hr, hg⟩
    rw [← hs'] at hr
    exact ⟨by rw [hK, hgd], r.right hr.rs hg⟩))
  have HNIL : Hid (∀ W g h Bx, IRW w g h A c xs s' s' Bx W → Calls Try.prog 29 #[.pointer none] W fun e w' => e = .returned (.tuple #[.agg (encI zeroI).toArray, .bool false]) ∧ IRW w g h A c xs s' s' Bx w') := Lib.hid (fun W g h Bx r => (iread_nil W).mono (by
    rintro e w' ⟨rfl, hb⟩
    exact ⟨rfl, r.bel hb⟩))
  have HPK : Hid (∀ W g h s1 s2 Bx, IRW w g h A c xs s1 s2 Bx W → IRW w g h A c xs s1 s2 ((W.heap.size, K) :: Bx) (W.alloc (.cells (encI K).toArray 28))) := Lib.hid (fun W g h s1 s2 Bx r => r.push K)
  have HPZ : Hid (∀ W g h s1 s2 Bx, IRW w g h A c xs s1 s2 Bx W → IRW w g h A c xs s1 s2 ((W.heap.size, zeroI) :: Bx) (W.alloc (.cells (encI zeroI).toArray 28))) := Lib.hid (fun W g h s1 s2 Bx r => r.push zeroI)
  obtain ⟨lo, hlo⟩ : ∃ n, n = s'.ys.length := ⟨_, rfl⟩
  obtain ⟨bb, hbb⟩ : ∃ b, b = s'.bad := ⟨_, rfl⟩
  have H31 : Hid (∀ W g h Bx, IRW w g h A c xs s' s' Bx W → ∀ n : Kept W.heap.size W, Calls Try.prog 31 #[.pointer (some ⟨g, 0, none⟩)] n.val fun e w' => e = .returned (.int .i64 (lo : Int)) ∧ Below n.val.heap.size n.val w') := Lib.hid (fun W g h Bx r n => (left_pair (r.bel n.property).pr).mono (by rintro e w' ⟨rfl, rfl⟩; exact ⟨by rw [hlo], Below.refl _ _⟩))
  have H32 : Hid (∀ W g h Bx, IRW w g h A c xs s' s' Bx W → ∀ n : Kept W.heap.size W, Calls Try.prog 32 #[.pointer (some ⟨h, 0, none⟩)] n.val fun e w' => e = .returned (.int .i64 (lo : Int)) ∧ Below n.val.heap.size n.val w') := Lib.hid (fun W g h Bx r n => (rleft_pair (r.bel n.property).pr).mono (by rintro e w' ⟨rfl, q, rfl⟩; exact ⟨by rw [hlo], ⟨rfl, rfl, rfl, Nat.le_refl _, fun _ _ => rfl⟩⟩))
  have H33 : Hid (∀ W g h Bx, IRW w g h A c xs s' s' Bx W → ∀ n : Kept W.heap.size W, Calls Try.prog 33 #[.pointer (some ⟨g, 0, none⟩)] n.val fun e w' => e = .returned (.bool bb) ∧ Below n.val.heap.size n.val w') := Lib.hid (fun W g h Bx r n => (bad_pair (r.bel n.property).pr).mono (by rintro e w' ⟨rfl, rfl⟩; exact ⟨by rw [hbb], Below.refl _ _⟩))
  have HL4 : Hid (∀ W g h b9 b7 b5, IRW w g h A c xs s' s' [(b9, zeroI), (b7, K), (b5, K)] W → ∀ n : Kept W.heap.size W, (loadVar 4 ⟨h, 2, none⟩).run Try.prog n.val = .ok (.bool bb) n.val ∧ (loadVar 28 ⟨b5, 0, none⟩).run Try.prog n.val = .ok (.agg (encI K).toArray) n.val ∧ (loadVar 28 ⟨b7, 0, none⟩).run Try.prog n.val = .ok (.agg (encI K).toArray) n.val ∧ (loadVar 28 ⟨b9, 0, none⟩).run Try.prog n.val = .ok (.agg (encI zeroI).toArray) n.val) := Lib.hid (fun W g h b9 b7 b5 r n => by
    have r2 := r.bel n.property
    have hx : n.val.cell? ⟨h, 2, none⟩ = some (.bool bb) := by rw [hbb]; exact rbad_pair r2.pr
    exact ⟨load4 hx, load28 (row_range (r2.hb (b5, K) (by simp)).1), load28 (row_range (r2.hb (b7, K) (by simp)).1), load28 (row_range (r2.hb (b9, zeroI) (by simp)).1)⟩)
  have HLI := Lib.hid lives_any
  have HEQ : ∀ W, (Op.equalIn 10000 28 (.agg (encI K).toArray) (.agg (encI K).toArray)).run Try.prog W = .ok true W := fun W => by rw [eqIns, eqI_self]
  have HEQZ : ∀ W, (Op.equalIn 10000 28 (.agg (encI zeroI).toArray) (.agg (encI zeroI).toArray)).run Try.prog W = .ok true W := fun W => by rw [eqIns, eqI_self]
  have HEQH := Lib.hid HEQ
  have HEQHZ := Lib.hid HEQZ
  obtain ⟨n, hn⟩ : ∃ n, n = xs.length := ⟨_, rfl⟩
  rw [← hn] at H28 h3 ⊢
  obtain ⟨X, hX⟩ : ∃ X, X = (encI K).toArray := ⟨_, rfl⟩
  obtain ⟨Z, hZ⟩ : ∃ Z, Z = (encI zeroI).toArray := ⟨_, rfl⟩
  have HX := Lib.hid hX
  have HZ := Lib.hid hZ
  rw [← hX] at H29 H30 HPK HL4 HEQH
  rw [← hZ] at HNIL HPZ HL4 HEQHZ
  have HBU : Hid (∀ {B : Nat} {W0 : World} {o : Oper} {a : Act} {K : Act → Prop}, o.op = .build 28 #[] → K (a.put o.dst (.agg Z)) → o.quiet Try.prog a (fun w' => ∃ n : Kept B W0, w' = n.val) K) := Lib.hid (fun ho hk => by rw [hZ] at hk; exact quiet_build28 ho hk)
  clear hA hc h hK hs0 hs' hgd hlo hbb hn HEQ HEQZ hX hZ
  go_enter Try.func4, Try.ntmps4
  go_upto_region 9 with (first
    | (go_at_call 28; (with_reducible refine H28.out.mono ?_); rintro e w1 ⟨g, rfl, R1⟩)
    | (go_at_call 29; (with_reducible refine (H29.out _ _ _ _ R1).mono ?_); rintro e w2 ⟨rfl, R2⟩)
    | (with_reducible refine wpList_alloc28 (o := ⟨some 5, _, _, _, _, _⟩) w2.heap.size rfl rfl 5 rfl rfl ?_)
    | ((with_reducible refine wpList_store28n (o := ⟨none, _, _, _, _, _⟩) rfl (.tmp 5) (.tmp 25) rfl w2.heap.size rfl zeroI K ?_ ?_ ?_); rfl; (rw [← HX.out]; rfl); rw [← HX.out])
    | (go_at_call 30; (with_reducible refine (H30.out _ _ _ _ (HPK.out _ _ _ _ _ _ R2)).mono ?_); rintro e w3 ⟨rfl, R3⟩)
    | (with_reducible refine wpList_alloc28 (o := ⟨some 7, _, _, _, _, _⟩) w3.heap.size rfl rfl 7 rfl rfl ?_)
    | ((with_reducible refine wpList_store28n (o := ⟨none, _, _, _, _, _⟩) rfl (.tmp 7) (.tmp 30) rfl w3.heap.size rfl zeroI K ?_ ?_ ?_); rfl; (rw [← HX.out]; rfl); rw [← HX.out])
    | (go_at_call 29; (with_reducible refine (HNIL.out _ _ _ _ (HPK.out _ _ _ _ _ _ R3)).mono ?_); rintro e w4 ⟨rfl, R4⟩)
    | (with_reducible refine wpList_alloc28 (o := ⟨some 9, _, _, _, _, _⟩) w4.heap.size rfl rfl 9 rfl rfl ?_)
    | ((with_reducible refine wpList_store28n (o := ⟨none, _, _, _, _, _⟩) rfl (.tmp 9) (.tmp 34) rfl w4.heap.size rfl zeroI zeroI ?_ ?_ ?_); rfl; (rw [← HZ.out]; rfl); rw [← HZ.out]))
  (try simp only [Act.put, List.setIfInBounds_toArray, List.set_cons_zero, List.set_cons_succ])
  have R5 := HPZ.out _ _ _ _ _ _ R4
  have Q31 := Lib.hid (H31.out _ _ _ _ R5)
  have Q32 := Lib.hid (H32.out _ _ _ _ R5)
  have Q33 := Lib.hid (H33.out _ _ _ _ R5)
  have QL := HL4.out _ _ _ _ _ _ R5
  have QL4 := Lib.hid (fun n => (QL n).1)
  have QL5 := Lib.hid (fun n => (QL n).2.1)
  have QL7 := Lib.hid (fun n => (QL n).2.2.1)
  have QL9 := Lib.hid (fun n => (QL n).2.2.2)
  have HBE := Lib.hid R5.pr.2.2.1
  have hEQ := HEQH.out
  have hEQZ := HEQHZ.out
  clear R5 R4 R3 R2 R1 QL H28 H29 H30 HNIL HPK HPZ H31 H32 H33 HL4 HEQH HEQHZ HX HZ
  generalize w4.alloc (.cells Z 28) = w5 at *
  generalize w4.heap.size = b9 at *
  generalize w3.heap.size = b7 at *
  generalize w2.heap.size = b5 at *
  generalize w1.heap.size = h at *
  refine wp_region_kept w5.heap.size w5 (Below.refl _ _) (by kernel_rfl) (by kernel_rfl) ?_
  repeat (first
    | (go_big_quiet_want; (with_reducible refine quiet_loadV 28 (.tmp 5) rfl _ ?_ _ QL5.out ?_); rfl; simp only [Act.put, List.setIfInBounds_toArray, List.set_cons_zero, List.set_cons_succ]; go_big_quiet_on)
    | (go_big_quiet_want; (with_reducible refine quiet_loadV 28 (.tmp 7) rfl _ ?_ _ QL7.out ?_); rfl; simp only [Act.put, List.setIfInBounds_toArray, List.set_cons_zero, List.set_cons_succ]; go_big_quiet_on)
    | (go_big_quiet_want; (with_reducible refine quiet_loadV 28 (.tmp 9) rfl _ ?_ _ QL9.out ?_); rfl; simp only [Act.put, List.setIfInBounds_toArray, List.set_cons_zero, List.set_cons_succ]; go_big_quiet_on)
    | (go_big_quiet_want; (with_reducible refine quiet_loadV 4 (.tmp 56) rfl _ ?_ _ QL4.out ?_); rfl; simp only [Act.put, List.setIfInBounds_toArray, List.set_cons_zero, List.set_cons_succ]; go_big_quiet_on)
    | (go_big_quiet_want; (with_reducible refine HBU.out ?_ ?_); rfl; simp only [Act.put, List.setIfInBounds_toArray, List.set_cons_zero, List.set_cons_succ]; go_big_quiet_on)
    | go_big_quiet_step (first | (go_at_call 31; with_reducible exact kept_ofS (Nat.le_refl _) Q31.out _) | (go_at_call 32; with_reducible exact kept_ofS (Nat.le_refl _) Q32.out _) | (go_at_call 33; with_reducible exact kept_ofS (Nat.le_refl _) Q33.out _) | (go_at_call 11; with_reducible exact kept_of (Nat.le_refl _) HLI.out _)))
  refine wpQuiet_nil ?_
  rintro wk ⟨⟨_, hwk⟩, rfl⟩
  go_wp2
  go_ret
  exact ⟨by simp, HBE.out.trans (hwk.mono HBE.out.size)⟩
theorem ireads_walk (A : Option Addr) (c : Nat) (xs : List UInt8) (w : World) (hA : BAt w w.heap.size A xs) (hc : xs.length ≤ c) : Calls Try.prog 4 #[.slice A xs.length c] w fun e w' => e = .returned (.bool true) ∧ Below w.heap.size w w' := by
  by_cases h : 3000 < xs.length
  · exact ireads_big A c xs.length w h
  · exact ireads_small A c xs w hA hc (by omega)
end Go.Proofs.Ytkceipkgebgigaa
