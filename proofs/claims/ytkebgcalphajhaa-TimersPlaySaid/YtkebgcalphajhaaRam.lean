/- step of the statements on the package ring: what is pushed and filled. Condition: lists of its own. -/
import Derived.Test.YtkebgcalphajhaaRal
namespace Go.Proofs.Ytkebgcalphajhaa
open Go.RowKit Go.Lib Go.Shelf
set_option maxRecDepth 100000
set_option maxHeartbeats 1000000
/-- v lies in a block from B on. -/
def FromB (B : Nat) (v : Value) : Prop := ∀ k, v.ownBlock = some k → B ≤ k
theorem FromB.grown {B : Nat} {w1 X Y : World} {v v' : Value} (h : FromB B v) (hb : Below B w1 X) (hB : B ≤ X.heap.size) (g : X.grownBy Y v.ownBlock) (f : FreshV X v v') : Below B w1 Y ∧ FromB B v' :=
  ⟨hb.grown g hB h, fun k hk => by
    rcases f k hk with e | e
    · exact h k e
    · omega⟩
theorem fromB_new (B : Nat) (n c : Nat) : FromB B (.slice (some ⟨B, 0, none⟩) n c) := fun k hk => by cases hk; exact Nat.le_refl _
theorem fromB_next (B : Nat) (n c : Nat) : FromB B (.slice (some ⟨B + 1, 0, none⟩) n c) := fun k hk => by cases hk; exact Nat.le_succ _
theorem step_push (N : Int) (u : Value) (v : Value) (L : List Int) (most : Nat) (w : World) (h : RowAt w 3 1 v L.length (intsV L)) (hl : L.length < most) (hm : most ≤ 65536) : Calls Try.prog 26 #[.agg #[.int .i64 0, .int .i64 N, u], v, .int .i64 (most : Int)] w (StpIs w v (L ++ [N]) 0 true) := by
  obtain ⟨w1, hw1, hb1, q0, q1, q2, hs1⟩ := box57 w 0 N u
  have h1 := h.bel hb1
  obtain ⟨A, c, rfl, hn⟩ := h.form
  obtain ⟨D, hD⟩ : ∃ D, D = w1.drew := ⟨_, rfl⟩
  have hDs : D.heap.size = w1.heap.size := by rw [hD]; rfl
  have hDb : Below w1.heap.size w1 D := by rw [hD]; exact (Below.refl _ w1).drew
  have bA : Below w1.heap.size w1 (D.alloc (.cells #[] 3)) := hDb.alloc (by omega) _
  have bB : Below w1.heap.size w1 ((D.alloc (.cells #[] 3)).alloc (.cells #[.int .i64 N] 3)) := bA.alloc (by simp; omega) _
  have bC : Below w1.heap.size w1 ((D.alloc (.cells #[.int .i64 N] 3)).alloc (.cells #[] 3)) := (hDb.alloc (by omega) _).alloc (by simp; omega) _
  have HE1 := Lib.hid (row_empty D)
  have HE2 := Lib.hid ((row_empty D).bel ((Below.refl _ _).alloc (Nat.le_refl _) (.cells #[.int .i64 N] 3)))
  have HE3 : Hid (RowAt ((D.alloc (.cells #[.int .i64 N] 3)).alloc (.cells #[] 3)) 3 1 (.slice (some ⟨D.heap.size + 1, 0, none⟩) 0 0) 0 []) := Lib.hid (by
    have := row_empty (D.alloc (.cells #[.int .i64 N] 3))
    have e : (D.alloc (.cells #[.int .i64 N] 3)).heap.size = D.heap.size + 1 := by simp
    rw [e] at this
    exact this)
  have HS : Hid (∀ W, Below w1.heap.size w1 W → Src Try.prog 1 39 (.slice A L.length c) L.length (intsV L) W) := Lib.hid (fun W hW => (h1.bel hW).src rowInt (intsV_one L))
  have rowX : ∀ W : World, RowAt (W.alloc (.cells #[.int .i64 N] 3)) 3 1 (.slice (some ⟨W.heap.size, 0, none⟩) 1 1) 1 [.int .i64 N] := fun W => row_new W 3 1 1 [.int .i64 N] rfl (by simp only [maxLen]; omega) #[.int .i64 N] rfl
  have oneX : ∀ x ∈ [Value.int .i64 N], x.oneCell' = true := fun x hx => by rw [List.mem_singleton.1 hx]; rfl
  have HX1 : Hid (∀ W : World, Src Try.prog 1 39 (.slice (some ⟨W.heap.size, 0, none⟩) 1 1) 1 [.int .i64 N] (W.alloc (.cells #[.int .i64 N] 3))) := Lib.hid (fun W => (rowX W).src rowInt oneX)
  have HX2 : Hid (∀ w5 : World, ((D.alloc (.cells #[] 3)).alloc (.cells #[.int .i64 N] 3)).grownBy w5 (some D.heap.size) → Src Try.prog 1 39 (.slice (some ⟨D.heap.size + 1, 0, none⟩) 1 1) 1 [.int .i64 N] w5) := Lib.hid (fun w5 g5 => by
    have h2 := rowX (D.alloc (.cells #[] 3))
    have e : (D.alloc (.cells #[] 3)).heap.size = D.heap.size + 1 := by simp
    rw [e] at h2
    exact (h2.grown g5 (fun k hk => by cases hk; simp)).src rowInt oneX)
  have HX3 : Hid (∀ w5 : World, ((D.alloc (.cells #[.int .i64 N] 3)).alloc (.cells #[] 3)).grownBy w5 (some (D.heap.size + 1)) → Src Try.prog 1 39 (.slice (some ⟨D.heap.size, 0, none⟩) 1 1) 1 [.int .i64 N] w5) := Lib.hid (fun w5 g5 =>
    (((rowX D).bel ((Below.refl _ _).alloc (Nat.le_refl _) _)).grown g5 (fun k hk => by cases hk; simp)).src rowInt oneX)
  have HP1 : Hid (∀ w5 v5, (D.alloc (.cells #[] 3)).grownBy w5 (some D.heap.size) → FreshV (D.alloc (.cells #[] 3)) (.slice (some ⟨D.heap.size, 0, none⟩) 0 0) v5 → Below w1.heap.size w1 w5 ∧ FromB w1.heap.size v5) := Lib.hid (fun w5 v5 g f => FromB.grown (v := .slice (some ⟨D.heap.size, 0, none⟩) 0 0) (by rw [hDs]; exact fromB_new _ _ _) bA (by simp; omega) g f)
  have HP2 : Hid (∀ w5 v5, ((D.alloc (.cells #[] 3)).alloc (.cells #[.int .i64 N] 3)).grownBy w5 (some D.heap.size) → FreshV ((D.alloc (.cells #[] 3)).alloc (.cells #[.int .i64 N] 3)) (.slice (some ⟨D.heap.size, 0, none⟩) 0 0) v5 → Below w1.heap.size w1 w5 ∧ FromB w1.heap.size v5) := Lib.hid (fun w5 v5 g f => FromB.grown (v := .slice (some ⟨D.heap.size, 0, none⟩) 0 0) (by rw [hDs]; exact fromB_new _ _ _) bB (by simp; omega) g f)
  have HP3 : Hid (∀ w5 v5, ((D.alloc (.cells #[.int .i64 N] 3)).alloc (.cells #[] 3)).grownBy w5 (some (D.heap.size + 1)) → FreshV ((D.alloc (.cells #[.int .i64 N] 3)).alloc (.cells #[] 3)) (.slice (some ⟨D.heap.size + 1, 0, none⟩) 0 0) v5 → Below w1.heap.size w1 w5 ∧ FromB w1.heap.size v5) := Lib.hid (fun w5 v5 g f => FromB.grown (v := .slice (some ⟨D.heap.size + 1, 0, none⟩) 0 0) (by rw [hDs]; exact fromB_next _ _ _) bC (by simp; omega) g f)
  have HFIN : Hid (∀ X w6 v5 v6, Below w1.heap.size w1 X → FromB w1.heap.size v5 → X.grownBy w6 v5.ownBlock → FreshV X v5 v6 → RowAt w6 3 1 v6 (0 + L.length + 1) ([] ++ intsV L ++ [.int .i64 N]) → StpIs w (.slice A L.length c) (L ++ [N]) 0 true (.returned (.tuple #[v6, .int .i64 0, .bool true])) w6) := Lib.hid (fun X w6 v5 v6 hX h5 g f hr => by
    obtain ⟨r1, r2⟩ := h5.grown hX hX.size g f
    have e1 : intsV (L ++ [N]) = intsV L ++ [.int .i64 N] := by simp [intsV]
    rw [List.nil_append, Nat.zero_add] at hr
    refine ⟨v6, rfl, ?_, hb1.trans (r1.mono hb1.size), fun k hk => .inr (Nat.le_trans hb1.size (r2 k hk))⟩
    rw [e1, List.length_append]
    exact hr)
  have HUP : Hid (∀ X w5 : World, Below w1.heap.size w1 w5 → Below w1.heap.size w1 (w5.alloc (.cells #[.int .i64 N] 3))) := Lib.hid (fun X w5 h => h.alloc h.size _)
  have HBA := Lib.hid bA
  have HBB := Lib.hid bB
  have HBC := Lib.hid bC
  have HQ : Hid (∀ W, Below w1.heap.size w1 W → W.cell? ⟨w.heap.size, 1, none⟩ = some (.int .i64 N)) := Lib.hid (fun W hW => (hW.cell (p := ⟨w.heap.size, 1, none⟩) (by rw [hs1]; exact Nat.lt_succ_self _)).trans q1)
  have HQF : Hid (∀ X w6 v5 v6, Below w1.heap.size w1 X → FromB w1.heap.size v5 → X.grownBy w6 v5.ownBlock → FreshV X v5 v6 → w6.cell? ⟨w.heap.size, 1, none⟩ = some (.int .i64 N)) := Lib.hid (fun X w6 v5 v6 hX h5 g f => HQ.out _ (h5.grown hX hX.size g f).1)
  have HL1 : Hid (0 + L.length ≤ 100000000) := Lib.hid (by omega)
  have HL2 : Hid (0 + L.length + 1 ≤ 100000000) := Lib.hid (by omega)
  have HW1 := Lib.hid hw1
  have hm1 : (L.length : Int) < (most : Int) := by omega
  have qA := HQ.out _ bA
  have qB := HQ.out _ bB
  have qC := HQ.out _ bC
  have qD := HQ.out _ hDb
  have qE := HQ.out _ (hDb.alloc (by omega) (.cells #[.int .i64 N] 3))
  have HD := Lib.hid hD
  clear hw1 hb1 h h1 hs1 hl bA bB bC hD hDs hDb rowX oneX
  generalize intsV L = xs at *
  generalize hLL : L ++ [N] = LL at *
  generalize L.length = n at *
  clear hLL
  go_enter Try.func26, Try.ntmps26
  go_upto_region 5 with (rw [← HW1.out])
  have hD := HD.out
  subst hD
  go_region_held3 (fun w' => w'.cell? ⟨w.heap.size, 1, none⟩ = some (.int .i64 N)) (first | assumption) (first
    | (refine step_append_row rowInt (o := ⟨some 23, _, _, _, _, _⟩) rfl (.tmp 21) (.tmp 22) rfl _ 0 [] rfl HE1.out _ n xs rfl (HS.out _ HBA.out) HL1.out ?_; intro v5 w5 hr5 hf5 hg5; have hp := HP1.out _ _ hg5 hf5; have hq5 := HQ.out _ hp.1; have hq6 := HQ.out _ (HUP.out w5 w5 hp.1))
    | (refine step_append_row rowInt (o := ⟨some 23, _, _, _, _, _⟩) rfl (.tmp 21) (.tmp 22) rfl _ 0 [] rfl HE2.out _ n xs rfl (HS.out _ HBB.out) HL1.out ?_; intro v5 w5 hr5 hf5 hg5; have hp := HP2.out _ _ hg5 hf5; have hq5 := HQ.out _ hp.1)
    | (refine step_append_row rowInt (o := ⟨some 23, _, _, _, _, _⟩) rfl (.tmp 21) (.tmp 22) rfl _ 0 [] rfl HE3.out _ n xs rfl (HS.out _ HBC.out) HL1.out ?_; intro v5 w5 hr5 hf5 hg5; have hp := HP3.out _ _ hg5 hf5; have hq5 := HQ.out _ hp.1)
    | (refine step_append_row rowInt (o := ⟨some 27, _, _, _, _, _⟩) rfl (.tmp 23) (.tmp 26) rfl _ (0 + n) ([] ++ xs) rfl (hr5.bel ((Below.refl _ _).alloc (Nat.le_refl _) _)) _ 1 [.int .i64 N] rfl (HX1.out _) HL2.out ?_; intro v6 w6 hr6 hf6 hg6; have hfin := HFIN.out _ _ _ _ (HUP.out w5 w5 hp.1) hp.2 hg6 hf6 hr6; have hq7 := HQF.out _ _ _ _ (HUP.out w5 w5 hp.1) hp.2 hg6 hf6)
    | (refine step_append_row rowInt (o := ⟨some 27, _, _, _, _, _⟩) rfl (.tmp 23) (.tmp 26) rfl _ (0 + n) ([] ++ xs) rfl hr5 _ 1 [.int .i64 N] rfl (HX2.out _ hg5) HL2.out ?_; intro v6 w6 hr6 hf6 hg6; have hfin := HFIN.out _ _ _ _ hp.1 hp.2 hg6 hf6 hr6; have hq7 := HQF.out _ _ _ _ hp.1 hp.2 hg6 hf6)
    | (refine step_append_row rowInt (o := ⟨some 27, _, _, _, _, _⟩) rfl (.tmp 23) (.tmp 26) rfl _ (0 + n) ([] ++ xs) rfl hr5 _ 1 [.int .i64 N] rfl (HX3.out _ hg5) HL2.out ?_; intro v6 w6 hr6 hf6 hg6; have hfin := HFIN.out _ _ _ _ hp.1 hp.2 hg6 hf6 hr6; have hq7 := HQF.out _ _ _ _ hp.1 hp.2 hg6 hf6))
  all_goals
    have HF := Lib.hid hfin
    clear hfin
    go_wp2
    go_ret3
    exact HF.out
end Go.Proofs.Ytkebgcalphajhaa
