/- The walk of the statement ContactReads: it answers true. Conditions: a number that comes in is an int. -/
import Derived.Test.YtbfhfnbhfeedbaaXCrf
import Derived.Test.YtbfhfnbhfeedbaaXCwb
namespace Go.Proofs.Ytbfhfnbhfeedbaa
open Go.Shelf Go.RowKit Go.Lib Go.Sort Go.Great
set_option maxRecDepth 100000
set_option maxHeartbeats 2000000
theorem load4 {w : World} {h : Nat} {b : Bool} (hc : w.cell? ⟨h, 2, none⟩ = some (.bool b)) : (loadVar 4 ⟨h, 2, none⟩).run Try.prog w = .ok (.bool b) w := by
  go_simp
theorem isopen_nil (w : World) : Calls Try.prog 87 #[.pointer none] w fun e w' => e = .returned (.bool false) ∧ w' = w := by
  go_enter Try.func87, Try.ntmps87
  go_wp2
  go_ret
  exact ⟨rfl, rfl⟩
theorem bad_nil (w : World) : Calls Try.prog 53 #[.pointer none] w fun e w' => e = .returned (.bool true) ∧ w' = w := by
  have H := Lib.hid (isopen_nil w)
  go_enter Try.func53, Try.ntmps53
  go_wp2_with (go_at_call 87; (with_reducible refine H.out.mono ?_); rintro e w1 ⟨rfl, rfl⟩)
  go_ret
  exact ⟨rfl, rfl⟩
theorem num_nil (w : World) : Calls Try.prog 84 #[.pointer none, .int .i64 1] w fun e w' => e = .returned (.int .u64 0) ∧ w' = w := by
  have H := Lib.hid (bad_nil w)
  go_enter Try.func84, Try.ntmps84
  go_wp2_with (go_at_call 53; (with_reducible refine H.out.mono ?_); rintro e w1 ⟨rfl, rfl⟩)
  go_ret
  exact ⟨rfl, rfl⟩
theorem readlist_nil (w : World) : Calls Try.prog 49 #[.pointer none] w fun e w' => e = .returned (.slice none 0 0) ∧ Below w.heap.size w w' := by
  have H := Lib.hid (num_nil w)
  have HG : Hid (Calls Try.prog 60 #[.slice none 0 0] w fun e w' => e = .returned (.bool true) ∧ Below w.heap.size w w') := by
    refine Lib.hid ((isgood_any none 0 [] w (by simp) (.inl rfl) (.inl rfl)).mono ?_)
    rintro e w' ⟨rfl, hb⟩
    exact ⟨by rw [show goodC (ctsC []) = true from by decide +kernel], hb⟩
  go_enter Try.func49, Try.ntmps49
  go_upto_region 3 with (first | (go_at_call 84; (with_reducible refine H.out.mono ?_); rintro e w1 ⟨rfl, rfl⟩))
  go_loopg [3, 6] 0 (fun _ s3 s wr => s3 = .slice none 0 0 ∧ s = .int .u64 0 ∧ wr = w1)
  case atStart => exact ⟨rfl, rfl, rfl⟩
  case round =>
    obtain ⟨rfl, rfl, rfl⟩ := hrel
    go_wp2_with (first | (go_at_call 60; (with_reducible refine HG.out.mono ?_); rintro e w2 ⟨rfl, hb2⟩))
    go_ret
    exact ⟨rfl, hb2⟩
theorem CAt.ne {w : World} {B g : Nat} {A : Option Addr} {L : List Con} {a b c : Value} {t : TypeId} (h : CAt w B A L) (hg : w.heap[g]? = some (.cells #[a, b, c] t (0, 0)))
    (ha : ∀ n, a ≠ .int .u8 n) (hb : ∀ n, b ≠ .int .u8 n) (hc : ∀ n, c ≠ .int .u8 n) : ∀ g' off, A = some ⟨g', off, none⟩ → L ≠ [] → g' ≠ g := by
  rintro g' off rfl hL rfl
  rcases h with h | ⟨g2, off2, he, _, hr⟩
  · exact hL h
  · injection he with he
    injection he with e1 e2
    subst e1 e2
    obtain ⟨x, L, rfl⟩ := List.exists_cons_of_ne_nil hL
    have hid := x.2.id
    obtain ⟨y, ys, hy⟩ := List.exists_cons_of_length_eq_add_one (n := 19) hid
    have h0 : (flatE encC (x :: L))[0]? = some (.int .u8 (y.toNat : Int)) := by
      unfold flatE encC
      rw [List.flatMap_cons, hy]
      rfl
    have h1 := hr 0 _ h0
    rw [Nat.add_zero, cell_of_row w g' off _ t (0, 0) hg] at h1
    have h3 : off < 3 := by
      by_cases h : off < 3
      · exact h
      · rw [Array.getElem?_eq_none (by simp; omega)] at h1; cases h1
    obtain rfl | rfl | rfl : off = 0 ∨ off = 1 ∨ off = 2 := by omega
    · simp at h1; exact ha _ h1
    · simp at h1; exact hb _ h1
    · simp at h1; exact hc _ h1
theorem CAt.grown {w w' : World} {B x : Nat} {A : Option Addr} {L : List Con} (hA : CAt w B A L) (hB : B ≤ w.heap.size) (hg : w.grownBy w' (some x)) (hne : ∀ g' off, A = some ⟨g', off, none⟩ → L ≠ [] → g' ≠ x) : CAt w' B A L := by
  by_cases hL : L = []
  · exact .inl hL
  · rcases hA with h | ⟨g, off, rfl, hlt, hr⟩
    · exact absurd h hL
    · exact .inr ⟨g, off, rfl, hlt, rangeAt_below hr (hg.block g (by omega) (by intro e; have := hne g off rfl hL; first | (injection e with e; omega) | (injection e.symm with e; omega)))⟩
/-- Both readers, and the contacts that were read. -/
structure CRW (w : World) (g h : Nat) (A : Option Addr) (c : Nat) (xs : List UInt8) (s1 s2 : St) (b5 b7 : Nat) (K : Con) (W : World) : Prop where
  pr : Pair w g h A c xs W s1 s2
  h5 : W.heap[b5]? = some (.cells (encC K).toArray 60 (0, 0))
  h7 : W.heap[b7]? = some (.cells (encC K).toArray 73 (0, 0))
  n5 : b5 ≠ g ∧ b5 ≠ h ∧ b7 ≠ g ∧ b7 ≠ h
section
variable {w W W' : World} {g h c : Nat} {A : Option Addr} {xs : List UInt8} {s1 s2 s1' s2' : St} {b5 b7 : Nat} {K : Con}
theorem CRW.lt (r : CRW w g h A c xs s1 s2 b5 b7 K W) : b5 < W.heap.size ∧ b7 < W.heap.size := ⟨(Array.getElem?_eq_some_iff.1 r.h5).1, (Array.getElem?_eq_some_iff.1 r.h7).1⟩
theorem CRW.bel (r : CRW w g h A c xs s1 s2 b5 b7 K W) (hb : Below W.heap.size W W') : CRW w g h A c xs s1 s2 b5 b7 K W' := ⟨r.pr.below hb (Nat.le_refl _), (hb.block _ r.lt.1).trans r.h5, (hb.block _ r.lt.2).trans r.h7, r.n5⟩
theorem CRW.left (r : CRW w g h A c xs s1 s2 b5 b7 K W) (hr : RdrS W' g s1') (hg : W.grownBy W' (some g)) : CRW w g h A c xs s1' s2 b5 b7 K W' := by
  have h5 := r.n5
  exact ⟨r.pr.left hr hg, (hg.block _ r.lt.1 (by intro e; injection e with e; omega)).trans r.h5, (hg.block _ r.lt.2 (by intro e; injection e with e; omega)).trans r.h7, r.n5⟩
theorem CRW.right (r : CRW w g h A c xs s1 s2 b5 b7 K W) (hr : RRS W' h A c xs s2') (hg : W.grownBy W' (some h)) : CRW w g h A c xs s1 s2' b5 b7 K W' := by
  have h5 := r.n5
  exact ⟨r.pr.right hr hg, (hg.block _ r.lt.1 (by intro e; injection e with e; omega)).trans r.h5, (hg.block _ r.lt.2 (by intro e; injection e with e; omega)).trans r.h7, r.n5⟩
end
theorem creads_big (A : Option Addr) (c n : Nat) (k : Int) (w : World) (h : 5000 < n) :
    Calls Try.prog 8 #[.slice A n c, .int .i64 k] w fun e w' => e = .returned (.bool true) ∧ Below w.heap.size w w' := by
  have H28 := Lib.hid (clives_any w)
  have h' : (5000 : Int) < (n : Int) := by omega
  go_enter Try.func8, Try.ntmps8
  go_wp2_with (first | (go_at_call 28; (with_reducible refine H28.out.mono ?_); rintro e w1 ⟨rfl, hb1⟩))
  go_ret
  exact ⟨rfl, hb1⟩
theorem creads_walk (A : Option Addr) (c : Nat) (xs : List UInt8) (k : Int) (w : World) (hk : k ≤ 9223372036854775807) (hA : BAt w w.heap.size A xs) (hc : xs.length ≤ c) :
    Calls Try.prog 8 #[.slice A xs.length c, .int .i64 k] w fun e w' => e = .returned (.bool true) ∧ Below w.heap.size w w' := by
  by_cases hbig : 5000 < xs.length
  · exact creads_big A c xs.length k w hbig
  have h5k : ¬ (5000 : Int) < (xs.length : Int) := by omega
  obtain ⟨K, hK⟩ : ∃ K, K = rdK xs := ⟨_, rfl⟩
  obtain ⟨E, hE⟩ : ∃ E, E = rdE xs := ⟨_, rfl⟩
  have H44 : Hid (Calls Try.prog 44 #[.slice A xs.length c] w fun e w' => e = .returned (.tuple #[.agg (encC K).toArray, .int .i64 E]) ∧ Below w.heap.size w w') := by
    have := cread_any A c xs w hA (by omega)
    rw [← hK, ← hE] at this
    exact Lib.hid this
  have H45 : Hid (∀ W, Below w.heap.size w W → Calls Try.prog 45 #[.slice A xs.length c] W fun e w' => e = .returned (.tuple #[.agg (encC K).toArray, .int .i64 E]) ∧ Below W.heap.size W w') := by
    refine Lib.hid (fun W hW => ?_)
    have := rcread_any A c xs W ((hA.below hW).more hW.size) hc
    rw [← hK, ← hE] at this
    exact this
  have H46 : Hid (∀ W, Below w.heap.size w W → Calls Try.prog 46 #[.slice A xs.length c] W fun e w' => ∃ g, e = .returned (.pointer (some ⟨g, 0, none⟩)) ∧ W.heap.size ≤ g ∧ RdrS w' g ⟨xs, false⟩ ∧ Below W.heap.size W w') := Lib.hid (fun W hW => open_any A c xs W ((hA.below hW).more hW.size) (by omega))
  have HCR : Hid (∀ (W1 W2 W4 : World) (g : Nat), Below w.heap.size w W1 → Below (W1.alloc (.cells (encC K).toArray 60)).heap.size (W1.alloc (.cells (encC K).toArray 60)) W2 → W2.heap.size + 1 ≤ g → RdrS W4 g ⟨xs, false⟩ → Below (W2.alloc (.cells (encC K).toArray 73)).heap.size (W2.alloc (.cells (encC K).toArray 73)) W4 → CRW w g W4.heap.size A c xs ⟨xs, false⟩ ⟨xs, false⟩ W1.heap.size W2.heap.size K (W4.alloc (.cells #[.slice A xs.length c, .int .i64 0, .bool false] 93))) := by
    refine Lib.hid (fun W1 W2 W4 g hb1 hb2 hg hr hb4 => ?_)
    have a1 : Below W1.heap.size W1 (W1.alloc (.cells (encC K).toArray 60)) := (Below.refl _ W1).alloc (Nat.le_refl _) _
    have a2 : Below W2.heap.size W2 (W2.alloc (.cells (encC K).toArray 73)) := (Below.refl _ W2).alloc (Nat.le_refl _) _
    have a4 : Below W4.heap.size W4 (W4.alloc (.cells #[.slice A xs.length c, .int .i64 0, .bool false] 93)) := (Below.refl _ W4).alloc (Nat.le_refl _) _
    have l1 : W1.heap.size < (W1.alloc (.cells (encC K).toArray 60)).heap.size := by simp
    have l2 : W2.heap.size < (W2.alloc (.cells (encC K).toArray 73)).heap.size := by simp
    have s1 := hb2.size
    have s2 := hb4.size
    have s0 := hb1.size
    have c12 : Below W1.heap.size W1 W2 := a1.trans (hb2.mono a1.size)
    have c24 : Below W2.heap.size W2 W4 := a2.trans (hb4.mono a2.size)
    have b2 := hb1.trans (c12.mono hb1.size)
    have b4 := b2.trans (c24.mono b2.size)
    have b5 := b4.trans (a4.mono b4.size)
    have glt := hr.lt
    refine ⟨⟨hr.below a4 (Nat.le_refl _), ⟨0, ⟨heap_alloc_new W4 _, (hA.below b5).more b5.size, Nat.zero_le _, hc, by omega, fun h => by cases h⟩, rfl⟩, b5, by omega, by omega, by omega⟩, ?_, ?_, by omega⟩
    · exact (a4.block _ (by omega)).trans ((c24.block _ (by omega)).trans ((hb2.block _ l1).trans (heap_alloc_new W1 _)))
    · exact (a4.block _ (by omega)).trans ((hb4.block _ l2).trans (heap_alloc_new W2 _))
  obtain ⟨s1, hs1⟩ : ∃ s, s = takeS ⟨xs, false⟩ k := ⟨_, rfl⟩
  have H47 : Hid (∀ W g h b5 b7, CRW w g h A c xs ⟨xs, false⟩ ⟨xs, false⟩ b5 b7 K W → Calls Try.prog 47 #[.pointer (some ⟨g, 0, none⟩), .int .i64 k] W fun e w' => ∃ v, e = .returned v ∧ CRW w g h A c xs s1 ⟨xs, false⟩ b5 b7 K w') := by
    refine Lib.hid (fun W g h b5 b7 r => (take_any r.pr.1 k hk).mono ?_)
    rintro e w' ⟨v, rfl, _, hr, hg⟩
    exact ⟨v, rfl, r.left (by rw [hs1]; exact hr) hg⟩
  have H48 : Hid (∀ W g h b5 b7, CRW w g h A c xs s1 ⟨xs, false⟩ b5 b7 K W → Calls Try.prog 48 #[.pointer (some ⟨h, 0, none⟩), .int .i64 k] W fun e w' => ∃ v, e = .returned v ∧ CRW w g h A c xs s1 s1 b5 b7 K w') := by
    refine Lib.hid (fun W g h b5 b7 r => (rrtake_s r.pr.2.1 k hk).mono ?_)
    rintro e w' ⟨v, rfl, _, hr, hg⟩
    exact ⟨v, rfl, r.right (by rw [hs1]; exact hr) hg⟩
  obtain ⟨M, hM⟩ : ∃ M, M = rlL s1 := ⟨_, rfl⟩
  obtain ⟨s2, hs2⟩ : ∃ s, s = rlS s1 := ⟨_, rfl⟩
  have hML : M.length ≤ 10000 := by
    rw [hM]
    unfold rlL
    split
    · rename_i hg
      have := goodC_len hg
      unfold ctsC at this
      rw [List.length_map] at this
      omega
    · simp
  have H49 : Hid (∀ W g h b5 b7, CRW w g h A c xs s1 s1 b5 b7 K W → Calls Try.prog 49 #[.pointer (some ⟨g, 0, none⟩)] W fun e w' => ∃ A1 c1, e = .returned (.slice A1 M.length c1) ∧ CAt w' w'.heap.size A1 M ∧ CRW w g h A c xs s2 s1 b5 b7 K w') := by
    refine Lib.hid (fun W g h b5 b7 r => (readlist_any r.pr.1).mono ?_)
    rintro e w' ⟨A1, c1, rfl, hc1, _, hr, hg⟩
    rw [← hM] at hc1 ⊢
    rw [← hs2] at hr
    exact ⟨A1, c1, rfl, hc1, r.left hr hg⟩
  have H50 : Hid (∀ W g h b5 b7 A1, CRW w g h A c xs s2 s1 b5 b7 K W → CAt W W.heap.size A1 M → Calls Try.prog 50 #[.pointer (some ⟨h, 0, none⟩)] W fun e w' => ∃ A3 c3, e = .returned (.slice A3 M.length c3) ∧ CAt w' w'.heap.size A3 M ∧ CAt w' w'.heap.size A1 M ∧ CRW w g h A c xs s2 s2 b5 b7 K w') := by
    refine Lib.hid (fun W g h b5 b7 A1 r h1 => (rcreadlist_any r.pr.2.1).mono ?_)
    rintro e w' ⟨A3, c3, rfl, hc3, hr, hg⟩
    rw [← hM] at hc3 ⊢
    rw [← hs2] at hr
    obtain ⟨kk, hcell⟩ := r.pr.2.1.cells
    exact ⟨A3, c3, rfl, hc3, (h1.grown (Nat.le_refl _) hg (h1.ne hcell (by simp) (by simp) (by simp))).more hg.size, r.right hr hg⟩
  have H34 := Lib.hid (fun W => one_any K W)
  have H37 : Hid (∀ W A1 c1 A3 c3, CAt W W.heap.size A1 M → CAt W W.heap.size A3 M → ∀ n : Kept W.heap.size W, Calls Try.prog 37 #[.slice A1 M.length c1, .slice A3 M.length c3] n.val fun e w' => e = .returned (.bool true) ∧ Below n.val.heap.size n.val w') := Lib.hid (fun W A1 c1 A3 c3 k1 k3 n => csame_at A1 A3 c1 c3 M n.val hML ((k1.below n.property).more n.property.size) ((k3.below n.property).more n.property.size))
  obtain ⟨lo, hlo⟩ : ∃ n, n = s2.ys.length := ⟨_, rfl⟩
  have H51 : Hid (∀ W g h b5 b7, CRW w g h A c xs s2 s2 b5 b7 K W → ∀ n : Kept W.heap.size W, Calls Try.prog 51 #[.pointer (some ⟨g, 0, none⟩)] n.val fun e w' => e = .returned (.int .i64 (lo : Int)) ∧ Below n.val.heap.size n.val w') := Lib.hid (fun W g h b5 b7 r n => (left_pair (r.bel n.property).pr).mono (by rintro e w' ⟨rfl, rfl⟩; exact ⟨by rw [hlo], Below.refl _ _⟩))
  have H52 : Hid (∀ W g h b5 b7, CRW w g h A c xs s2 s2 b5 b7 K W → ∀ n : Kept W.heap.size W, Calls Try.prog 52 #[.pointer (some ⟨h, 0, none⟩)] n.val fun e w' => e = .returned (.int .i64 (lo : Int)) ∧ Below n.val.heap.size n.val w') := Lib.hid (fun W g h b5 b7 r n => (rleft_pair (r.bel n.property).pr).mono (by rintro e w' ⟨rfl, q, rfl⟩; exact ⟨by rw [hlo], ⟨rfl, rfl, rfl, Nat.le_refl _, fun _ _ => rfl⟩⟩))
  have H53 : Hid (∀ W g h b5 b7, CRW w g h A c xs s2 s2 b5 b7 K W → ∀ n : Kept W.heap.size W, Calls Try.prog 53 #[.pointer (some ⟨g, 0, none⟩)] n.val fun e w' => e = .returned (.bool s2.bad) ∧ Below n.val.heap.size n.val w') := Lib.hid (fun W g h b5 b7 r n => (bad_pair (r.bel n.property).pr).mono (by rintro e w' ⟨rfl, rfl⟩; exact ⟨rfl, Below.refl _ _⟩))
  have HL4 : Hid (∀ W g h b5 b7, CRW w g h A c xs s2 s2 b5 b7 K W → ∀ n : Kept W.heap.size W, (loadVar 4 ⟨h, 2, none⟩).run Try.prog n.val = .ok (.bool s2.bad) n.val ∧ (loadVar 60 ⟨b5, 0, none⟩).run Try.prog n.val = .ok (.agg (encC K).toArray) n.val ∧ (loadVar 73 ⟨b7, 0, none⟩).run Try.prog n.val = .ok (.agg (encC K).toArray) n.val) := Lib.hid (fun W g h b5 b7 r n => ⟨load4 (rbad_pair (r.bel n.property).pr), load60 (row_range (r.bel n.property).h5), load73 (row_range (r.bel n.property).h7)⟩)
  have H28 := Lib.hid (fun W => clives_any W)
  have HNIL := Lib.hid (fun W => readlist_nil W)
  have HEQ : ∀ W, (Op.equalIn 10000 73 (.agg (encC K).toArray) (.agg (encC K).toArray)).run Try.prog W = .ok true W := fun W => by rw [eqCon73, eqC_self]
  have HEQH := Lib.hid HEQ
  obtain ⟨bb, hbb⟩ : ∃ b, b = s2.bad := ⟨_, rfl⟩
  rw [← hbb] at H53 HL4
  obtain ⟨n, hn⟩ : ∃ n, n = xs.length := ⟨_, rfl⟩
  rw [← hn] at H44 H45 H46 HCR h5k ⊢
  obtain ⟨m, hm⟩ : ∃ n, n = M.length := ⟨_, rfl⟩
  rw [← hm] at H49 H50 H37
  have HBO : Hid (∀ (W1 W2 : World), Below w.heap.size w W1 → Below (W1.alloc (.cells (encC K).toArray 60)).heap.size (W1.alloc (.cells (encC K).toArray 60)) W2 → Below w.heap.size w (W1.alloc (.cells (encC K).toArray 60)) ∧ Below w.heap.size w (W2.alloc (.cells (encC K).toArray 73))) := Lib.hid (fun W1 W2 h1 h2 => by
    have a := h1.alloc h1.size (.cells (encC K).toArray 60)
    have b := a.trans (h2.mono a.size)
    exact ⟨a, b.alloc b.size _⟩)
  have HBO1 : Hid (∀ (W1 : World), Below w.heap.size w W1 → Below w.heap.size w (W1.alloc (.cells (encC K).toArray 60))) := Lib.hid (fun W1 h1 => h1.alloc h1.size _)
  have HSZ : Hid (∀ (W2 : World) (g : Nat), (W2.alloc (.cells (encC K).toArray 73)).heap.size ≤ g → W2.heap.size + 1 ≤ g) := Lib.hid (fun W2 g h => by simpa using h)
  clear hA hc hbig hK hE hs1 hM hs2 hML hlo hbb hn hm HEQ hk
  go_enter Try.func8, Try.ntmps8
  go_wp2_with (first
    | (go_at_call 44; (with_reducible refine H44.out.mono ?_); rintro e w1 ⟨rfl, hb1⟩; have hb1a := HBO1.out _ hb1)
    | (with_reducible refine wpList_alloc60 (o := ⟨some 5, _, _, _, _, _⟩) rfl 5 rfl rfl ?_)
    | ((with_reducible refine wpList_store60 (o := ⟨none, _, _, _, _, _⟩) rfl (.tmp 5) (.tmp 20) rfl default K ?_ ?_ ?_); rfl; rfl)
    | (go_at_call 45; (with_reducible refine (H45.out _ hb1a).mono ?_); rintro e w2 ⟨rfl, hb2⟩; have hb2a := (HBO.out _ _ hb1 hb2).2)
    | (with_reducible refine wpList_alloc73a (o := ⟨some 7, _, _, _, _, _⟩) rfl 7 rfl rfl ?_)
    | ((with_reducible refine wpList_store73a (o := ⟨none, _, _, _, _, _⟩) rfl (.tmp 7) (.tmp 25) rfl default K ?_ ?_ ?_); rfl; rfl)
    | (go_at_call 46; (with_reducible refine (H46.out _ hb2a).mono ?_); rintro e w4 ⟨g4, rfl, hg4, hr4, hb4⟩; have R4 := HCR.out _ _ _ _ hb1 hb2 (HSZ.out _ _ hg4) hr4 hb4)
    | (go_at_call 47; (with_reducible refine (H47.out _ _ _ _ _ R4).mono ?_); rintro e w5 ⟨v5, rfl, R5⟩)
    | (go_at_call 48; (with_reducible refine (H48.out _ _ _ _ _ R5).mono ?_); rintro e w6 ⟨v6, rfl, R6⟩)
    | (go_at_call 49; (with_reducible refine (H49.out _ _ _ _ _ R6).mono ?_); rintro e w7 ⟨A7, c7, rfl, hc7, R7⟩)
    | (go_at_call 50; (with_reducible refine (H50.out _ _ _ _ _ _ R7 hc7).mono ?_); rintro e w8 ⟨A8, c8, rfl, hc8, hc78, R8⟩))
  have HS := Lib.hid (H37.out _ A7 c7 A8 c8 hc78 hc8)
  have Q51 := Lib.hid (H51.out _ _ _ _ _ R8)
  have Q52 := Lib.hid (H52.out _ _ _ _ _ R8)
  have Q53 := Lib.hid (H53.out _ _ _ _ _ R8)
  have QL4 : Hid (∀ n : Kept w8.heap.size w8, (loadVar 4 ⟨w4.heap.size, 2, none⟩).run Try.prog n.val = .ok (.bool bb) n.val) := Lib.hid (fun n => (HL4.out _ _ _ _ _ R8 n).1)
  have QL5 : Hid (∀ n : Kept w8.heap.size w8, (loadVar 60 ⟨w1.heap.size, 0, none⟩).run Try.prog n.val = .ok (.agg (encC K).toArray) n.val) := Lib.hid (fun n => (HL4.out _ _ _ _ _ R8 n).2.1)
  have QL7 : Hid (∀ n : Kept w8.heap.size w8, (loadVar 73 ⟨w2.heap.size, 0, none⟩).run Try.prog n.val = .ok (.agg (encC K).toArray) n.val) := Lib.hid (fun n => (HL4.out _ _ _ _ _ R8 n).2.2)
  have HBE := Lib.hid R8.pr.2.2.1
  have hEQ := HEQH.out
  clear hc7 hc8 hc78 R8 R7 R6 R5 R4 hb4 hr4 hg4 hb2a hb2 hb1a hb1 H44 H45 H46 HCR H47 H48 H49 H50 H37 H51 H52 H53 HL4 HBO HBO1 HSZ HEQH
  generalize w4.heap.size = b4 at *
  generalize w2.heap.size = b2 at *
  generalize w1.heap.size = b1 at *
  generalize (encC K).toArray = X at *
  have hbbb : (bb == bb) = true := by simp
  refine wp_region_kept w8.heap.size w8 (Below.refl _ _) (by kernel_rfl) (by kernel_rfl) ?_
  repeat (first
    | (go_big_quiet_want; (with_reducible refine quiet_loadV 60 (.tmp 5) rfl _ ?_ _ QL5.out ?_); rfl; simp only [Act.put, List.setIfInBounds_toArray, List.set_cons_zero, List.set_cons_succ]; go_big_quiet_on)
    | (go_big_quiet_want; (with_reducible refine quiet_loadV 73 (.tmp 7) rfl _ ?_ _ QL7.out ?_); rfl; simp only [Act.put, List.setIfInBounds_toArray, List.set_cons_zero, List.set_cons_succ]; go_big_quiet_on)
    | (go_big_quiet_want; (with_reducible refine quiet_loadV 4 (.tmp 70) rfl _ ?_ _ QL4.out ?_); rfl; simp only [Act.put, List.setIfInBounds_toArray, List.set_cons_zero, List.set_cons_succ]; go_big_quiet_on)
    | go_big_quiet_step (first
      | (go_at_call 34; with_reducible exact kept_of (Nat.le_refl _) H34.out _)
      | (go_at_call 37; with_reducible exact kept_ofS (Nat.le_refl _) HS.out _)
      | (go_at_call 51; with_reducible exact kept_ofS (Nat.le_refl _) Q51.out _)
      | (go_at_call 52; with_reducible exact kept_ofS (Nat.le_refl _) Q52.out _)
      | (go_at_call 53; with_reducible exact kept_ofS (Nat.le_refl _) Q53.out _)
      | (go_at_call 49; with_reducible exact kept_of (Nat.le_refl _) HNIL.out _)
      | (go_at_call 28; with_reducible exact kept_of (Nat.le_refl _) H28.out _)))
  refine wpQuiet_nil ?_
  rintro wk ⟨⟨_, hwk⟩, rfl⟩
  go_wp2
  go_ret
  exact ⟨rfl, HBE.out.trans (hwk.mono HBE.out.size)⟩
end Go.Proofs.Ytbfhfnbhfeedbaa
