/- The statements' own table: Order. Condition: a list of its own. -/
import Derived.Test.YtkebgcalphajhaaTdb
import Derived.Test.YtkebgcalphajhaaTal
namespace Go.Proofs.Ytkebgcalphajhaa
open Go.RowKit Go.Lib
set_option maxRecDepth 100000
set_option maxHeartbeats 4000000
theorem flatT_take (L : List (Int × Nat)) : ∀ n, (flatT L).take (n * 2) = flatT (L.take n) := by
  induction L with
  | nil => intro n; simp [flatT]
  | cons x L ih =>
    intro n
    cases n with
    | zero => simp [flatT]
    | succ n =>
      rw [List.take_succ_cons, flatT_cons, flatT_cons, ← ih n, show (n + 1) * 2 = (encT x).length + n * 2 by rw [encT_length]; omega, List.take_length_add_append]
theorem srcTakeT {w : World} {b off n c : Nat} {O : List (Int × Nat)} (h : RowAt w 35 2 (.slice (some ⟨b, off, none⟩) n c) n (flatT O)) (m c' : Nat) (hm : m ≤ n) : Src Try.prog 2 26 (.slice (some ⟨b, off, none⟩) m c') m (flatT (O.take m)) w := by
  have hl := h.1
  rw [← flatT_take]
  refine Src.ofSlice w rowR.und _ m c' _ (by rw [List.length_take, hl]; omega) (fun i u hu => ?_) (fun u hu => flatT_one O u (List.mem_of_mem_take hu))
  rw [Addr.add_lit]
  refine h.cell i u ?_
  have hlt := (List.getElem?_eq_some_iff.1 hu).1
  rw [List.length_take] at hlt
  rw [List.getElem?_take, if_pos (by omega)] at hu
  exact hu
theorem srcDropT {w : World} {b off n c : Nat} {O : List (Int × Nat)} (h : RowAt w 35 2 (.slice (some ⟨b, off, none⟩) n c) n (flatT O)) (m c' : Nat) (hm : m ≤ n) : Src Try.prog 2 26 (.slice (some ⟨b, off + m * 2, none⟩) (n - m) c') (n - m) (flatT (O.drop m)) w := by
  have hl := h.1
  rw [← flatT_drop]
  refine Src.ofSlice w rowR.und _ (n - m) c' _ (by rw [List.length_drop, hl, Nat.sub_mul]) (fun i u hu => ?_) (fun u hu => flatT_one O u (List.mem_of_mem_drop hu))
  rw [Addr.add_lit, Nat.add_assoc]
  refine h.cell (m * 2 + i) u ?_
  rw [List.getElem?_drop] at hu
  exact hu
theorem src_noneT (w : World) (ad : Addr) (c : Nat) : Src Try.prog 2 26 (.slice (some ad) 0 c) 0 [] w := Src.ofSlice w rowR.und ad 0 c [] rfl (fun j u hu => by cases hu) (fun u hu => absurd hu (by simp))
theorem row_emptyT (W : World) : RowAt (W.alloc (.cells #[] 35)) 35 2 (.slice (some ⟨W.heap.size, 0, none⟩) 0 0) 0 [] := row_new W 35 2 0 [] rfl (by omega) #[] rfl
/-- What is known around the region that lays the list anew. -/
structure OrdK (w W : World) (bl j : Nat) (k : Int) (a m r : Nat) (xs1 ys xs3 : List Value) (v1 v3 : Value) (Z : List (Int × Nat)) : Prop where
  row1 : RowAt (W.alloc (.cells #[] 35)).drew 35 2 (.slice (some ⟨W.heap.size, 0, none⟩) 0 0) 0 []
  row2 : RowAt ((W.alloc (.cells #[] 35)).alloc (.cells #[.int .i64 k, .int .u64 (a : Int)] 35)).drew 35 2 (.slice (some ⟨W.heap.size, 0, none⟩) 0 0) 0 []
  row3 : RowAt ((W.alloc (.cells #[.int .i64 k, .int .u64 (a : Int)] 35)).alloc (.cells #[] 35)).drew 35 2 (.slice (some ⟨W.heap.size + 1, 0, none⟩) 0 0) 0 []
  src1 : ∀ W', Below W.heap.size W W' → Src Try.prog 2 26 v1 m xs1 W'
  src3 : ∀ W', Below W.heap.size W W' → Src Try.prog 2 26 v3 r xs3 W'
  bA : Below W.heap.size W (W.alloc (.cells #[] 35)).drew
  bB : Below W.heap.size W ((W.alloc (.cells #[] 35)).alloc (.cells #[.int .i64 k, .int .u64 (a : Int)] 35)).drew
  bC : Below W.heap.size W ((W.alloc (.cells #[.int .i64 k, .int .u64 (a : Int)] 35)).alloc (.cells #[] 35)).drew
  x1 : ∀ W' : World, Src Try.prog 2 26 (.slice (some ⟨W'.heap.size, 0, none⟩) 1 1) 1 ys (W'.alloc (.cells #[.int .i64 k, .int .u64 (a : Int)] 35))
  x2 : ∀ w5, ((W.alloc (.cells #[] 35)).alloc (.cells #[.int .i64 k, .int .u64 (a : Int)] 35)).drew.grownBy w5 (Value.ownBlock (.slice (some ⟨W.heap.size, 0, none⟩) 0 0)) → Src Try.prog 2 26 (.slice (some ⟨W.heap.size + 1, 0, none⟩) 1 1) 1 ys w5
  x3 : ∀ w5, ((W.alloc (.cells #[.int .i64 k, .int .u64 (a : Int)] 35)).alloc (.cells #[] 35)).drew.grownBy w5 (Value.ownBlock (.slice (some ⟨W.heap.size + 1, 0, none⟩) 0 0)) → Src Try.prog 2 26 (.slice (some ⟨W.heap.size, 0, none⟩) 1 1) 1 ys w5
  p1 : ∀ w5 v5, (W.alloc (.cells #[] 35)).drew.grownBy w5 (Value.ownBlock (.slice (some ⟨W.heap.size, 0, none⟩) 0 0)) → FreshV (W.alloc (.cells #[] 35)).drew (.slice (some ⟨W.heap.size, 0, none⟩) 0 0) v5 → Below W.heap.size W w5 ∧ FromB W.heap.size v5 ∧ (w5.cell? ⟨bl, j, none⟩ = some (.int .i64 k) ∧ w5.cell? ⟨bl, j + 1, none⟩ = some (.int .u64 (a : Int))) ∧ ((w5.alloc (.cells #[.int .i64 k, .int .u64 (a : Int)] 35)).cell? ⟨bl, j, none⟩ = some (.int .i64 k) ∧ (w5.alloc (.cells #[.int .i64 k, .int .u64 (a : Int)] 35)).cell? ⟨bl, j + 1, none⟩ = some (.int .u64 (a : Int)))
  p2 : ∀ w5 v5, ((W.alloc (.cells #[] 35)).alloc (.cells #[.int .i64 k, .int .u64 (a : Int)] 35)).drew.grownBy w5 (Value.ownBlock (.slice (some ⟨W.heap.size, 0, none⟩) 0 0)) → FreshV ((W.alloc (.cells #[] 35)).alloc (.cells #[.int .i64 k, .int .u64 (a : Int)] 35)).drew (.slice (some ⟨W.heap.size, 0, none⟩) 0 0) v5 → Below W.heap.size W w5 ∧ FromB W.heap.size v5 ∧ (w5.cell? ⟨bl, j, none⟩ = some (.int .i64 k) ∧ w5.cell? ⟨bl, j + 1, none⟩ = some (.int .u64 (a : Int))) ∧ ((w5.alloc (.cells #[.int .i64 k, .int .u64 (a : Int)] 35)).cell? ⟨bl, j, none⟩ = some (.int .i64 k) ∧ (w5.alloc (.cells #[.int .i64 k, .int .u64 (a : Int)] 35)).cell? ⟨bl, j + 1, none⟩ = some (.int .u64 (a : Int)))
  p3 : ∀ w5 v5, ((W.alloc (.cells #[.int .i64 k, .int .u64 (a : Int)] 35)).alloc (.cells #[] 35)).drew.grownBy w5 (Value.ownBlock (.slice (some ⟨(W.heap.size + 1), 0, none⟩) 0 0)) → FreshV ((W.alloc (.cells #[.int .i64 k, .int .u64 (a : Int)] 35)).alloc (.cells #[] 35)).drew (.slice (some ⟨(W.heap.size + 1), 0, none⟩) 0 0) v5 → Below W.heap.size W w5 ∧ FromB W.heap.size v5 ∧ (w5.cell? ⟨bl, j, none⟩ = some (.int .i64 k) ∧ w5.cell? ⟨bl, j + 1, none⟩ = some (.int .u64 (a : Int))) ∧ ((w5.alloc (.cells #[.int .i64 k, .int .u64 (a : Int)] 35)).cell? ⟨bl, j, none⟩ = some (.int .i64 k) ∧ (w5.alloc (.cells #[.int .i64 k, .int .u64 (a : Int)] 35)).cell? ⟨bl, j + 1, none⟩ = some (.int .u64 (a : Int)))
  p4 : ∀ Y w6 v5 v6, Below W.heap.size W Y → FromB W.heap.size v5 → Y.grownBy w6 v5.ownBlock → FreshV Y v5 v6 → Below W.heap.size W w6 ∧ FromB W.heap.size v6 ∧ (w6.cell? ⟨bl, j, none⟩ = some (.int .i64 k) ∧ w6.cell? ⟨bl, j + 1, none⟩ = some (.int .u64 (a : Int)))
  up : ∀ w5, Below W.heap.size W w5 → Below W.heap.size W (w5.alloc (.cells #[.int .i64 k, .int .u64 (a : Int)] 35))
  fin : ∀ Y w7 v6 v7, Below W.heap.size W Y → FromB W.heap.size v6 → Y.grownBy w7 v6.ownBlock → FreshV Y v6 v7 → RowAt w7 35 2 v7 (0 + m + 1 + r) ([] ++ xs1 ++ ys ++ xs3) → GroT w Z v7 w7
  qD : (W.drew.cell? ⟨bl, j, none⟩ = some (.int .i64 k) ∧ W.drew.cell? ⟨bl, j + 1, none⟩ = some (.int .u64 (a : Int)))
  qA : ((W.alloc (.cells #[] 35)).drew.cell? ⟨bl, j, none⟩ = some (.int .i64 k) ∧ (W.alloc (.cells #[] 35)).drew.cell? ⟨bl, j + 1, none⟩ = some (.int .u64 (a : Int)))
  qB : (((W.alloc (.cells #[] 35)).alloc (.cells #[.int .i64 k, .int .u64 (a : Int)] 35)).drew.cell? ⟨bl, j, none⟩ = some (.int .i64 k) ∧ ((W.alloc (.cells #[] 35)).alloc (.cells #[.int .i64 k, .int .u64 (a : Int)] 35)).drew.cell? ⟨bl, j + 1, none⟩ = some (.int .u64 (a : Int)))
  qC : (((W.alloc (.cells #[.int .i64 k, .int .u64 (a : Int)] 35)).alloc (.cells #[] 35)).drew.cell? ⟨bl, j, none⟩ = some (.int .i64 k) ∧ ((W.alloc (.cells #[.int .i64 k, .int .u64 (a : Int)] 35)).alloc (.cells #[] 35)).drew.cell? ⟨bl, j + 1, none⟩ = some (.int .u64 (a : Int)))
  qX : ((W.alloc (.cells #[.int .i64 k, .int .u64 (a : Int)] 35)).drew.cell? ⟨bl, j, none⟩ = some (.int .i64 k) ∧ (W.alloc (.cells #[.int .i64 k, .int .u64 (a : Int)] 35)).drew.cell? ⟨bl, j + 1, none⟩ = some (.int .u64 (a : Int)))
theorem ordK (w W : World) (bl j : Nat) (k : Int) (a m : Nat) (v1 v3 : Value) (O : List (Int × Nat)) (hb : Below w.heap.size w W) (hs : SrtT O) (hm : m = behT O a) (hbl : bl < W.heap.size) (q0 : W.cell? ⟨bl, j, none⟩ = some (.int .i64 k)) (q1 : W.cell? ⟨bl, j + 1, none⟩ = some (.int .u64 (a : Int)))
    (hs1 : ∀ W', Below W.heap.size W W' → Src Try.prog 2 26 v1 m (flatT (O.take m)) W') (hs3 : ∀ W', Below W.heap.size W W' → Src Try.prog 2 26 v3 (O.length - m) (flatT (O.drop m)) W') :
    OrdK w W bl j k a m (O.length - m) (flatT (O.take m)) (encT (k, a)) (flatT (O.drop m)) v1 v3 (insT O (k, a)) := by
  have bA0 : Below W.heap.size W (W.alloc (.cells #[] 35)) := (Below.refl _ _).alloc (Nat.le_refl _) _
  have bA : Below W.heap.size W (W.alloc (.cells #[] 35)).drew := bA0.drew
  have sA : (W.alloc (.cells #[] 35)).heap.size = W.heap.size + 1 := by simp
  have bB : Below W.heap.size W ((W.alloc (.cells #[] 35)).alloc (.cells #[.int .i64 k, .int .u64 (a : Int)] 35)).drew := (bA0.alloc (by omega) _).drew
  have bX0 : Below W.heap.size W (W.alloc (.cells #[.int .i64 k, .int .u64 (a : Int)] 35)) := (Below.refl _ _).alloc (Nat.le_refl _) _
  have bX : Below W.heap.size W (W.alloc (.cells #[.int .i64 k, .int .u64 (a : Int)] 35)).drew := bX0.drew
  have sX : (W.alloc (.cells #[.int .i64 k, .int .u64 (a : Int)] 35)).heap.size = W.heap.size + 1 := by simp
  have bC : Below W.heap.size W ((W.alloc (.cells #[.int .i64 k, .int .u64 (a : Int)] 35)).alloc (.cells #[] 35)).drew := (bX0.alloc (by omega) _).drew
  have hq : ∀ W', Below W.heap.size W W' → (W'.cell? ⟨bl, j, none⟩ = some (.int .i64 k) ∧ W'.cell? ⟨bl, j + 1, none⟩ = some (.int .u64 (a : Int))) := fun W' h => by
    exact ⟨(h.cell (p := ⟨bl, j, none⟩) hbl).trans q0, (h.cell (p := ⟨bl, j + 1, none⟩) hbl).trans q1⟩
  have up : ∀ w5, Below W.heap.size W w5 → Below W.heap.size W (w5.alloc (.cells #[.int .i64 k, .int .u64 (a : Int)] 35)) := fun w5 h => h.alloc h.size _
  have oneX : ∀ u ∈ encT (k, a), u.oneCell' = true := fun u hu => by
    simp only [encT, List.mem_cons, List.not_mem_nil, or_false] at hu
    rcases hu with rfl | rfl <;> rfl
  have rowX : ∀ W' : World, RowAt (W'.alloc (.cells #[.int .i64 k, .int .u64 (a : Int)] 35)) 35 2 (.slice (some ⟨W'.heap.size, 0, none⟩) 1 1) 1 (encT (k, a)) := fun W' => row_new W' 35 2 1 (encT (k, a)) rfl (by simp only [maxLen]; omega) #[.int .i64 k, .int .u64 (a : Int)] rfl
  have pp : ∀ Y w5 B v5, Below W.heap.size W Y → W.heap.size ≤ B → Y.grownBy w5 (some B) → FreshV Y (.slice (some ⟨B, 0, none⟩) 0 0) v5 → Below W.heap.size W w5 ∧ FromB W.heap.size v5 ∧ (w5.cell? ⟨bl, j, none⟩ = some (.int .i64 k) ∧ w5.cell? ⟨bl, j + 1, none⟩ = some (.int .u64 (a : Int))) ∧ ((w5.alloc (.cells #[.int .i64 k, .int .u64 (a : Int)] 35)).cell? ⟨bl, j, none⟩ = some (.int .i64 k) ∧ (w5.alloc (.cells #[.int .i64 k, .int .u64 (a : Int)] 35)).cell? ⟨bl, j + 1, none⟩ = some (.int .u64 (a : Int))) := fun Y w5 B v5 hY hB g f => by
    obtain ⟨h1, h2⟩ := FromB.grown (B := W.heap.size) (v := (.slice (some ⟨B, 0, none⟩) 0 0)) (fun b hb => by cases hb; exact hB) hY hY.size g f
    exact ⟨h1, h2, hq _ h1, hq _ (up _ h1)⟩
  refine ⟨(row_emptyT W).same (fun _ _ => rfl), ((row_emptyT W).bel ((Below.refl _ _).alloc (Nat.le_refl _) (.cells #[.int .i64 k, .int .u64 (a : Int)] 35))).same (fun _ _ => rfl), ?_, hs1, hs3, bA, bB, bC, fun W' => (rowX W').src rowR oneX, fun w5 g5 => ?_, fun w5 g5 => ?_, fun w5 v5 g f => pp _ _ _ _ bA (Nat.le_refl _) g f, fun w5 v5 g f => pp _ _ _ _ bB (Nat.le_refl _) g f, fun w5 v5 g f => pp _ _ _ _ bC (Nat.le_succ _) g f, fun Y w6 v5 v6 hY h5 g f => ?_, up, fun Y w7 v6 v7 hY h6 g f hr => ?_, hq _ (Below.refl _ W).drew, hq _ bA, hq _ bB, hq _ bC, hq _ bX⟩
  · have := row_emptyT (W.alloc (.cells #[.int .i64 k, .int .u64 (a : Int)] 35))
    rw [sX] at this
    exact this.same (fun _ _ => rfl)
  · have h2 := rowX (W.alloc (.cells #[] 35))
    rw [sA] at h2
    have g5 : ((W.alloc (.cells #[] 35)).alloc (.cells #[.int .i64 k, .int .u64 (a : Int)] 35)).drew.grownBy w5 (some W.heap.size) := g5
    exact (RowAt.grown (w := ((W.alloc (.cells #[] 35)).alloc (.cells #[.int .i64 k, .int .u64 (a : Int)] 35)).drew) (h2.same (fun _ _ => rfl)) g5 (fun b hb => by cases hb; simp)).src rowR oneX
  · have h2 := (rowX W).bel ((Below.refl _ _).alloc (Nat.le_refl _) (.cells #[] 35))
    have g5 : ((W.alloc (.cells #[.int .i64 k, .int .u64 (a : Int)] 35)).alloc (.cells #[] 35)).drew.grownBy w5 (some (W.heap.size + 1)) := g5
    exact (RowAt.grown (w := ((W.alloc (.cells #[.int .i64 k, .int .u64 (a : Int)] 35)).alloc (.cells #[] 35)).drew) (h2.same (fun _ _ => rfl)) g5 (fun b hb => by cases hb; simp)).src rowR oneX
  · obtain ⟨h1, h2⟩ := FromB.grown h5 hY hY.size g f
    exact ⟨h1, h2, hq _ h1⟩
  · obtain ⟨h1, h2⟩ := FromB.grown h6 hY hY.size g f
    have hle : m ≤ O.length := by rw [hm]; exact beh_le O a
    have e1 : flatT (insT O (k, a)) = [] ++ flatT (O.take m) ++ encT (k, a) ++ flatT (O.drop m) := by
      rw [insT_at hs (k, a), flatT_append, flatT_cons, ← hm]
      simp
    have e2 : (insT O (k, a)).length = 0 + m + 1 + (O.length - m) := by rw [(insT_perm hs (k, a)).length_eq, List.length_cons]; omega
    refine ⟨hb.trans (h1.mono hb.size), ?_, fun b hb' => Nat.le_trans hb.size (h2 b hb')⟩
    unfold RefAt
    rw [e1, e2]
    exact hr
def OrdR (w : World) (L : List (Int × Nat)) (no ni : Value) (wr : World) : Prop := ∃ i : Nat, ni = .int .i64 (i : Int) ∧ i ≤ L.length ∧ GroT w (ordT (L.take i)) no wr
def OrdM (w : World) (O : List (Int × Nat)) (a : Nat) (nm : Value) (wr : World) : Prop := ∃ m : Nat, nm = .int .i64 (m : Int) ∧ behT O a ≤ m ∧ m ≤ O.length ∧ Below w.heap.size w wr
theorem order_any (u : Value) (L : List (Int × Nat)) (w : World) (h : RefAt w u L) (hl : L.length ≤ 60000) : Calls Try.prog 40 #[u] w fun e w' => ∃ v, e = .returned v ∧ GroT w (ordT L) v w' := by
  have R0 : Hid (OrdR w L (.slice none 0 0) (.int .i64 0) w) := Lib.hid ⟨0, rfl, Nat.zero_le _, GroT.nil w⟩
  obtain ⟨A, c, rfl, hn⟩ := RowAt.form h
  have H := Lib.hid h
  clear h
  go_enter Try.func40, Try.ntmps40
  go_wp2_with (first | fail)
  go_loopw [3, 4] (OrdR w L) (fun _ i _ => L.length - (RowKit.intOf i).toNat)
  case atStart => exact R0.out
  case round =>
    obtain ⟨i, rfl, hi, hG⟩ := hrel
    clear R0
    by_cases hlt : i < L.length
    · have hlt' : (i : Int) < (L.length : Int) := by omega
      obtain ⟨b, off, cc, e0, hnn⟩ := RowAt.filled H.out (by omega)
      injection e0 with e1 _ e2
      subst e1 e2
      have hrow := RowAt.bel H.out hG.1
      have hq : Hid (∀ W, Below wr.heap.size wr W → W.cell? ⟨b, off + i * 2, none⟩ = some (.int .i64 L[i]!.1) ∧ W.cell? ⟨b, off + i * 2 + 1, none⟩ = some (.int .u64 (L[i]!.2 : Int))) := Lib.hid (fun W hW => RefAt.cells (RowAt.bel hrow hW) rfl i hlt)
      have HBL : Hid (b < wr.heap.size) := Lib.hid (RowAt.lt hrow b rfl)
      obtain ⟨O, hO⟩ : ∃ O, O = ordT (L.take i) := ⟨_, rfl⟩
      have hs : SrtT O := by rw [hO]; exact ordT_srt _
      have hOl : O.length = i := by rw [hO, ordT_length, List.length_take]; omega
      have HREL : Hid (∀ v5 w5, GroT w (insT O (L[i]!.1, L[i]!.2)) v5 w5 → OrdR w L v5 (.int .i64 ((i : Int) + 1)) w5) := Lib.hid (fun v5 w5 h5 => ⟨i + 1, by go_num, by omega, by rw [take_snoc L i hlt, ordT_snoc, ← hO]; exact h5⟩)
      rw [← hO] at hG
      have HS := Lib.hid hs
      have HG := Lib.hid hG
      clear hrow hO
      generalize L[i]!.1 = k at *
      generalize L[i]!.2 = a at *
      obtain ⟨Ao, co, rfl, hno⟩ := RowAt.form hG.2.1
      rw [hOl]
      have R2 : Hid (OrdM wr O a (.int .i64 (i : Int)) wr) := Lib.hid ⟨i, rfl, by rw [← hOl]; exact beh_le O a, by omega, Below.refl _ _⟩
      have hi60 : i ≤ 60000 := by omega
      go_wp2_with (first | fail)
      go_loopw [5] (OrdM wr O a) (fun i _ => (RowKit.intOf i).toNat)
      case atStart => exact R2.out
      case round =>
        obtain ⟨m, rfl, hbm, hmO, hb2⟩ := hrel
        clear R2
        rw [hOl] at hmO
        obtain ⟨q0, q1⟩ := hq.out _ hb2
        have HB2 := Lib.hid hb2
        have HOL := Lib.hid hOl
        have hrow2 := RowAt.bel hG.2.1 hb2
        have hcell : ∀ p, p < i → ∃ bo oo, Ao = some ⟨bo, oo, none⟩ ∧ wr.cell? ⟨bo, oo + p * 2 + 1, none⟩ = some (.int .u64 (O[p]!.2 : Int)) := fun p hp => by
          obtain ⟨bo, oo, _, e3, _⟩ := RowAt.filled hG.2.1 (by omega)
          injection e3 with e4 _ e5
          subst e4 e5
          exact ⟨bo, oo, rfl, (RefAt.cells hrow2 rfl p (by omega)).2⟩
        have hbi : ∀ p (hp : p < i), a < O[p]!.2 ↔ behT O a ≤ p := fun p hp => by
          have hp' : p < O.length := by omega
          rw [getElem!_pos O p hp']
          exact beh_iff hs a p hp'
        by_cases hc : behT O a < m
        · obtain ⟨p, hp⟩ : ∃ p, p + 1 = m := ⟨m - 1, by omega⟩
          have HREL2 : Hid (∀ w5, Below wr.heap.size wr w5 → OrdM _ O a (.int .i64 (p : Int)) w5) := Lib.hid (fun w5 h5 => ⟨p, rfl, by omega, by omega, HB2.out.trans (h5.mono HB2.out.size)⟩)
          obtain ⟨bo, oo, rfl, q3⟩ := hcell p (by omega)
          have hgt := (hbi p (by omega)).2 (by omega)
          generalize O[p]!.2 = x at *
          have hd : decide ((x : Int) > (a : Int)) = true := decide_eq_true (by omega)
          have hd0 : (x : Int) > (a : Int) := by omega
          have hm0 : (m : Int) > 0 := by omega
          have hm1 : decide ((m : Int) > 0) = true := decide_eq_true hm0
          have hm2 : 0 < m := by omega
          have hm3 : decide (0 < m) = true := decide_eq_true hm2
          have hw : IntKind.i64.wrap ((m : Int) - 1) = (p : Int) := by rw [IntKind.wrap_i64]; omega
          have z1 : 0 ≤ (p : Int) := by omega
          have z2 : (p : Int) < (i : Int) := by omega
          clear hcell hbi hgt hrow2 hG hs hq HBL HOL HG HS H
          go_upto_region 6 with (fail)
          go_quiet (fail)
          go_wp2_with (first | fail)
          go_roundw
          case rel => exact HREL2.out _ ⟨rfl, rfl, rfl, Nat.le_refl _, fun _ _ => rfl⟩
          case measure => simp [RowKit.intOf]; omega
        · have hmb : m = behT O a := by omega
          have HMB := Lib.hid hmb
          rcases id hG.2.1.2 with ⟨e3, e4⟩ | ⟨bo, oo, co2, cur, e3, _, hcn, _⟩
          · injection e3 with e5 e6 e7
            subst e5 e7
            obtain rfl : i = 0 := by omega
            obtain rfl : m = 0 := by omega
            obtain rfl : O = [] := List.eq_nil_of_length_eq_zero hOl
            clear hcell hbi hmb
            have hl0 : (0 : Int) < (L.length : Int) := by omega
            have hl1 : 0 < L.length := by omega
            simp only [Int.ofNat_zero, show ((0 : Nat) : Int) = 0 from rfl] at HREL
            go_upto_region 6 with (fail)
            go_quiet (fail)
            go_upto_region 8 with (fail)
            obtain ⟨W, hW⟩ : ∃ W, W = wr.drewN nq := ⟨_, rfl⟩
            rw [← hW]
            have hb3 : Below wr.heap.size wr W := by rw [hW]; exact ⟨rfl, rfl, rfl, Nat.le_refl _, fun _ _ => rfl⟩
            have hb4 := HB2.out.trans (hb3.mono HB2.out.size)
            have hrw := RowAt.bel HG.out.2.1 hb4
            have hdr : ∀ W', Below W.heap.size W W' → Below W.heap.size W W' := fun W' h => h
            obtain ⟨qw0, qw1⟩ := hq.out _ hb4
            simp only [Nat.zero_mul, Nat.add_zero] at qw0 qw1
            have HK : OrdK w W b (off) k a 0 (0) [] (encT (k, a)) [] (.slice none 0 0) (.slice none 0 0) (insT [] (k, a)) := by
              exact ordK w W b (off) k a 0 (.slice none 0 0) (.slice none 0 0) [] (HG.out.1.trans (hb4.mono HG.out.1.size)) HS.out HMB.out (Nat.lt_of_lt_of_le HBL.out hb4.size) qw0 qw1 (fun W' _ => Src.ofNil W' rowR.und 0) (fun W' _ => Src.ofNil W' rowR.und 0)
            have HK := Lib.hid HK
            have HL1 : Hid (0 + 0 ≤ 100000000) := Lib.hid (by omega)
            have HL2 : Hid (0 + 0 + 1 ≤ 100000000) := Lib.hid (by omega)
            have HL3 : Hid (0 + 0 + 1 + (0) ≤ 100000000) := Lib.hid (by omega)
            have qD := HK.out.qD
            have qA := HK.out.qA
            have qB := HK.out.qB
            have qC := HK.out.qC
            have qX := HK.out.qX
            clear hrw hb3 hb4 hdr qw0 qw1 hW hG hs hq HBL HOL HMB HB2 HG HS hOl hbm hmO q0 q1 hc hrow2 H
            generalize insT [] (k, a) = Z at *
            generalize encT (k, a) = ys at *
            go_region_held3 (fun w' => w'.cell? ⟨b, off, none⟩ = some (.int .i64 k) ∧ w'.cell? ⟨b, off + 1, none⟩ = some (.int .u64 (a : Int))) (first | assumption) (first
              | (have hr6' := hr6; (with_reducible refine step_append_row rowR (o := ⟨some 46, _, _, _, _, _⟩) rfl (.tmp 42) (.tmp 45) rfl _ (0 + 0 + 1) ([] ++ [] ++ ys) ?_ hr6' _ (0) [] ?_ (HK.out.src3 _ hb6) HL3.out ?_); rfl; rfl; intro v7 w7 hr7 hf7 hg7; have hfin := HK.out.fin _ _ _ _ hb6 hv6 hg7 hf7 hr7; obtain ⟨_, _, hq8⟩ := HK.out.p4 _ _ _ _ hb6 hv6 hg7 hf7)
              | (have hr5' := hr5a; (with_reducible refine step_append_row rowR (o := ⟨some 42, _, _, _, _, _⟩) rfl (.tmp 36) (.tmp 41) rfl _ (0 + 0) ([] ++ []) ?_ (hr5'.bel ((Below.refl _ _).alloc (Nat.le_refl _) _)) _ 1 ys ?_ (HK.out.x1 _) HL2.out ?_); rfl; rfl; intro v6 w6 hr6 hf6 hg6; obtain ⟨hb6, hv6, hq7⟩ := HK.out.p4 _ _ _ _ (HK.out.up _ hb5) hv5 hg6 hf6)
              | (have hr5' := hr5b; (with_reducible refine step_append_row rowR (o := ⟨some 42, _, _, _, _, _⟩) rfl (.tmp 36) (.tmp 41) rfl _ (0 + 0) ([] ++ []) ?_ hr5' _ 1 ys ?_ (HK.out.x2 _ hg5b) HL2.out ?_); rfl; rfl; intro v6 w6 hr6 hf6 hg6; obtain ⟨hb6, hv6, hq7⟩ := HK.out.p4 _ _ _ _ hb5 hv5 hg6 hf6)
              | (have hr5' := hr5c; (with_reducible refine step_append_row rowR (o := ⟨some 42, _, _, _, _, _⟩) rfl (.tmp 36) (.tmp 41) rfl _ (0 + 0) ([] ++ []) ?_ hr5' _ 1 ys ?_ (HK.out.x3 _ hg5c) HL2.out ?_); rfl; rfl; intro v6 w6 hr6 hf6 hg6; obtain ⟨hb6, hv6, hq7⟩ := HK.out.p4 _ _ _ _ hb5 hv5 hg6 hf6)
              | ((with_reducible refine step_append_row rowR (o := ⟨some 36, _, _, _, _, _⟩) rfl (.tmp 32) (.tmp 35) rfl _ 0 [] ?_ HK.out.row1 _ 0 [] ?_ (HK.out.src1 _ HK.out.bA) HL1.out ?_); rfl; rfl; intro v5 w5 hr5a hf5 hg5a; obtain ⟨hb5, hv5, hq5, hq6⟩ := HK.out.p1 _ _ hg5a hf5)
              | ((with_reducible refine step_append_row rowR (o := ⟨some 36, _, _, _, _, _⟩) rfl (.tmp 32) (.tmp 35) rfl _ 0 [] ?_ HK.out.row2 _ 0 [] ?_ (HK.out.src1 _ HK.out.bB) HL1.out ?_); rfl; rfl; intro v5 w5 hr5b hf5 hg5b; obtain ⟨hb5, hv5, hq5, hq6⟩ := HK.out.p2 _ _ hg5b hf5)
              | ((with_reducible refine step_append_row rowR (o := ⟨some 36, _, _, _, _, _⟩) rfl (.tmp 32) (.tmp 35) rfl _ 0 [] ?_ HK.out.row3 _ 0 [] ?_ (HK.out.src1 _ HK.out.bC) HL1.out ?_); rfl; rfl; intro v5 w5 hr5c hf5 hg5c; obtain ⟨hb5, hv5, hq5, hq6⟩ := HK.out.p3 _ _ hg5c hf5)
              | fail)
            all_goals
              have HFN := Lib.hid hfin
              clear hfin
              go_wp2
              go_roundw
              case rel => exact HREL.out _ _ HFN.out
              case measure => simp [RowKit.intOf]; omega
          · injection e3 with e5 _ e7
            subst e5 e7
            rw [hOl] at hcn
            by_cases hm00 : m = 0
            · have hm2 : ¬ 0 < m := by omega
              have hm3 : decide (0 < m) = false := decide_eq_false hm2
              have hm4 : ¬ (m : Int) > 0 := by omega
              clear hcell hbi hmb
              go_upto_region 6 with (fail)
              go_quiet (fail)
              clear hm2 hm3 hm4 hm00
              by_cases hcm : co = m
              · have hcm2 : m = co := hcm.symm
                subst hcm2
                have him : i = m := by omega
                subst him
                go_upto_region 8 with (fail)
                obtain ⟨W, hW⟩ : ∃ W, W = wr.drewN nq := ⟨_, rfl⟩
                rw [← hW]
                have hb3 : Below wr.heap.size wr W := by rw [hW]; exact ⟨rfl, rfl, rfl, Nat.le_refl _, fun _ _ => rfl⟩
                have hb4 := HB2.out.trans (hb3.mono HB2.out.size)
                have hrw := RowAt.bel HG.out.2.1 hb4
                have hdr : ∀ W', Below W.heap.size W W' → Below W.heap.size W W' := fun W' h => h
                obtain ⟨qw0, qw1⟩ := hq.out _ hb4
                rw [HOL.out] at hrw
                have HK : OrdK w W b (off + i * 2) k a i (0) (flatT (O.take i)) (encT (k, a)) [] (.slice (some ⟨bo, oo, none⟩) i i) (.slice (some ⟨bo, oo, none⟩) 0 0) (insT O (k, a)) := by
                  have := ordK w W b (off + i * 2) k a i (.slice (some ⟨bo, oo, none⟩) i i) (.slice (some ⟨bo, oo, none⟩) 0 0) O (HG.out.1.trans (hb4.mono HG.out.1.size)) HS.out HMB.out (Nat.lt_of_lt_of_le HBL.out hb4.size) qw0 qw1 (fun W' h => srcTakeT (hrw.bel (hdr W' h)) i _ (Nat.le_refl _)) (fun W' h => by rw [HOL.out, Nat.sub_self, List.drop_eq_nil_of_le (by rw [HOL.out]; exact Nat.le_refl _)]; exact src_noneT W' _ _)
                  rw [HOL.out, Nat.sub_self, List.drop_eq_nil_of_le (by rw [HOL.out]; exact Nat.le_refl _)] at this
                  exact this
                have HK := Lib.hid HK
                have HL1 : Hid (0 + i ≤ 100000000) := Lib.hid (by omega)
                have HL2 : Hid (0 + i + 1 ≤ 100000000) := Lib.hid (by omega)
                have HL3 : Hid (0 + i + 1 + (0) ≤ 100000000) := Lib.hid (by omega)
                have qD := HK.out.qD
                have qA := HK.out.qA
                have qB := HK.out.qB
                have qC := HK.out.qC
                have qX := HK.out.qX
                have z4 : i ≤ i := Nat.le_refl _
                have z5 : 0 ≤ (i : Int) := by omega
                clear hrw hb3 hb4 hdr qw0 qw1 hW hG hs hq HBL HOL HMB HB2 HG HS hOl hbm hmO q0 q1 hc hrow2 H
                generalize insT O (k, a) = Z at *
                generalize flatT (O.take i) = xs1 at *
                generalize encT (k, a) = ys at *
                go_region_held3 (fun w' => w'.cell? ⟨b, off + i * 2, none⟩ = some (.int .i64 k) ∧ w'.cell? ⟨b, off + i * 2 + 1, none⟩ = some (.int .u64 (a : Int))) (first | assumption) (first
                  | (have hr6' := hr6; (with_reducible refine step_append_row rowR (o := ⟨some 46, _, _, _, _, _⟩) rfl (.tmp 42) (.tmp 45) rfl _ (0 + i + 1) ([] ++ xs1 ++ ys) ?_ hr6' _ (0) [] ?_ (HK.out.src3 _ hb6) HL3.out ?_); rfl; rfl; intro v7 w7 hr7 hf7 hg7; have hfin := HK.out.fin _ _ _ _ hb6 hv6 hg7 hf7 hr7; obtain ⟨_, _, hq8⟩ := HK.out.p4 _ _ _ _ hb6 hv6 hg7 hf7)
                  | (have hr5' := hr5a; (with_reducible refine step_append_row rowR (o := ⟨some 42, _, _, _, _, _⟩) rfl (.tmp 36) (.tmp 41) rfl _ (0 + i) ([] ++ xs1) ?_ (hr5'.bel ((Below.refl _ _).alloc (Nat.le_refl _) _)) _ 1 ys ?_ (HK.out.x1 _) HL2.out ?_); rfl; rfl; intro v6 w6 hr6 hf6 hg6; obtain ⟨hb6, hv6, hq7⟩ := HK.out.p4 _ _ _ _ (HK.out.up _ hb5) hv5 hg6 hf6)
                  | (have hr5' := hr5b; (with_reducible refine step_append_row rowR (o := ⟨some 42, _, _, _, _, _⟩) rfl (.tmp 36) (.tmp 41) rfl _ (0 + i) ([] ++ xs1) ?_ hr5' _ 1 ys ?_ (HK.out.x2 _ hg5b) HL2.out ?_); rfl; rfl; intro v6 w6 hr6 hf6 hg6; obtain ⟨hb6, hv6, hq7⟩ := HK.out.p4 _ _ _ _ hb5 hv5 hg6 hf6)
                  | (have hr5' := hr5c; (with_reducible refine step_append_row rowR (o := ⟨some 42, _, _, _, _, _⟩) rfl (.tmp 36) (.tmp 41) rfl _ (0 + i) ([] ++ xs1) ?_ hr5' _ 1 ys ?_ (HK.out.x3 _ hg5c) HL2.out ?_); rfl; rfl; intro v6 w6 hr6 hf6 hg6; obtain ⟨hb6, hv6, hq7⟩ := HK.out.p4 _ _ _ _ hb5 hv5 hg6 hf6)
                  | ((with_reducible refine step_append_row rowR (o := ⟨some 36, _, _, _, _, _⟩) rfl (.tmp 32) (.tmp 35) rfl _ 0 [] ?_ HK.out.row1 _ i xs1 ?_ (HK.out.src1 _ HK.out.bA) HL1.out ?_); rfl; rfl; intro v5 w5 hr5a hf5 hg5a; obtain ⟨hb5, hv5, hq5, hq6⟩ := HK.out.p1 _ _ hg5a hf5)
                  | ((with_reducible refine step_append_row rowR (o := ⟨some 36, _, _, _, _, _⟩) rfl (.tmp 32) (.tmp 35) rfl _ 0 [] ?_ HK.out.row2 _ i xs1 ?_ (HK.out.src1 _ HK.out.bB) HL1.out ?_); rfl; rfl; intro v5 w5 hr5b hf5 hg5b; obtain ⟨hb5, hv5, hq5, hq6⟩ := HK.out.p2 _ _ hg5b hf5)
                  | ((with_reducible refine step_append_row rowR (o := ⟨some 36, _, _, _, _, _⟩) rfl (.tmp 32) (.tmp 35) rfl _ 0 [] ?_ HK.out.row3 _ i xs1 ?_ (HK.out.src1 _ HK.out.bC) HL1.out ?_); rfl; rfl; intro v5 w5 hr5c hf5 hg5c; obtain ⟨hb5, hv5, hq5, hq6⟩ := HK.out.p3 _ _ hg5c hf5)
                  | fail)
                all_goals
                  have HFN := Lib.hid hfin
                  clear hfin
                  go_wp2
                  go_roundw
                  case rel => exact HREL.out _ _ HFN.out
                  case measure => simp [RowKit.intOf]; omega
              · have hcm3 : ¬ co = m := hcm
                go_upto_region 8 with (fail)
                obtain ⟨W, hW⟩ : ∃ W, W = wr.drewN nq := ⟨_, rfl⟩
                rw [← hW]
                have hb3 : Below wr.heap.size wr W := by rw [hW]; exact ⟨rfl, rfl, rfl, Nat.le_refl _, fun _ _ => rfl⟩
                have hb4 := HB2.out.trans (hb3.mono HB2.out.size)
                have hrw := RowAt.bel HG.out.2.1 hb4
                have hdr : ∀ W', Below W.heap.size W W' → Below W.heap.size W W' := fun W' h => h
                obtain ⟨qw0, qw1⟩ := hq.out _ hb4
                rw [HOL.out] at hrw
                have HK : OrdK w W b (off + i * 2) k a m (i - m) (flatT (O.take m)) (encT (k, a)) (flatT (O.drop m)) (.slice (some ⟨bo, oo, none⟩) m co) (.slice (some ⟨bo, oo + m * 2, none⟩) (i - m) (co - m)) (insT O (k, a)) := by
                  have := ordK w W b (off + i * 2) k a m (.slice (some ⟨bo, oo, none⟩) m co) (.slice (some ⟨bo, oo + m * 2, none⟩) (i - m) (co - m)) O (HG.out.1.trans (hb4.mono HG.out.1.size)) HS.out HMB.out (Nat.lt_of_lt_of_le HBL.out hb4.size) qw0 qw1 (fun W' h => srcTakeT (hrw.bel (hdr W' h)) m _ (by omega)) (fun W' h => by rw [HOL.out]; exact srcDropT (hrw.bel (hdr W' h)) m _ (by omega))
                  rw [HOL.out] at this
                  exact this
                have HK := Lib.hid HK
                have HL1 : Hid (0 + m ≤ 100000000) := Lib.hid (by omega)
                have HL2 : Hid (0 + m + 1 ≤ 100000000) := Lib.hid (by omega)
                have HL3 : Hid (0 + m + 1 + (i - m) ≤ 100000000) := Lib.hid (by omega)
                have qD := HK.out.qD
                have qA := HK.out.qA
                have qB := HK.out.qB
                have qC := HK.out.qC
                have qX := HK.out.qX
                have z1 : (m : Int) ≤ (co : Int) := by omega
                have z2 : m ≤ co := by omega
                have z3 : (m : Int) ≤ (i : Int) := by omega
                have z4 : m ≤ i := by omega
                have z5 : 0 ≤ (m : Int) := by omega
                clear hrw hb3 hb4 hdr qw0 qw1 hW hG hs hq HBL HOL HMB HB2 HG HS hOl hbm hmO q0 q1 hc hrow2 H
                generalize insT O (k, a) = Z at *
                generalize flatT (O.take m) = xs1 at *
                generalize flatT (O.drop m) = xs3 at *
                generalize encT (k, a) = ys at *
                go_region_held3 (fun w' => w'.cell? ⟨b, off + i * 2, none⟩ = some (.int .i64 k) ∧ w'.cell? ⟨b, off + i * 2 + 1, none⟩ = some (.int .u64 (a : Int))) (first | assumption) (first
                  | (have hr6' := hr6; (with_reducible refine step_append_row rowR (o := ⟨some 46, _, _, _, _, _⟩) rfl (.tmp 42) (.tmp 45) rfl _ (0 + m + 1) ([] ++ xs1 ++ ys) ?_ hr6' _ (i - m) xs3 ?_ (HK.out.src3 _ hb6) HL3.out ?_); rfl; rfl; intro v7 w7 hr7 hf7 hg7; have hfin := HK.out.fin _ _ _ _ hb6 hv6 hg7 hf7 hr7; obtain ⟨_, _, hq8⟩ := HK.out.p4 _ _ _ _ hb6 hv6 hg7 hf7)
                  | (have hr5' := hr5a; (with_reducible refine step_append_row rowR (o := ⟨some 42, _, _, _, _, _⟩) rfl (.tmp 36) (.tmp 41) rfl _ (0 + m) ([] ++ xs1) ?_ (hr5'.bel ((Below.refl _ _).alloc (Nat.le_refl _) _)) _ 1 ys ?_ (HK.out.x1 _) HL2.out ?_); rfl; rfl; intro v6 w6 hr6 hf6 hg6; obtain ⟨hb6, hv6, hq7⟩ := HK.out.p4 _ _ _ _ (HK.out.up _ hb5) hv5 hg6 hf6)
                  | (have hr5' := hr5b; (with_reducible refine step_append_row rowR (o := ⟨some 42, _, _, _, _, _⟩) rfl (.tmp 36) (.tmp 41) rfl _ (0 + m) ([] ++ xs1) ?_ hr5' _ 1 ys ?_ (HK.out.x2 _ hg5b) HL2.out ?_); rfl; rfl; intro v6 w6 hr6 hf6 hg6; obtain ⟨hb6, hv6, hq7⟩ := HK.out.p4 _ _ _ _ hb5 hv5 hg6 hf6)
                  | (have hr5' := hr5c; (with_reducible refine step_append_row rowR (o := ⟨some 42, _, _, _, _, _⟩) rfl (.tmp 36) (.tmp 41) rfl _ (0 + m) ([] ++ xs1) ?_ hr5' _ 1 ys ?_ (HK.out.x3 _ hg5c) HL2.out ?_); rfl; rfl; intro v6 w6 hr6 hf6 hg6; obtain ⟨hb6, hv6, hq7⟩ := HK.out.p4 _ _ _ _ hb5 hv5 hg6 hf6)
                  | ((with_reducible refine step_append_row rowR (o := ⟨some 36, _, _, _, _, _⟩) rfl (.tmp 32) (.tmp 35) rfl _ 0 [] ?_ HK.out.row1 _ m xs1 ?_ (HK.out.src1 _ HK.out.bA) HL1.out ?_); rfl; rfl; intro v5 w5 hr5a hf5 hg5a; obtain ⟨hb5, hv5, hq5, hq6⟩ := HK.out.p1 _ _ hg5a hf5)
                  | ((with_reducible refine step_append_row rowR (o := ⟨some 36, _, _, _, _, _⟩) rfl (.tmp 32) (.tmp 35) rfl _ 0 [] ?_ HK.out.row2 _ m xs1 ?_ (HK.out.src1 _ HK.out.bB) HL1.out ?_); rfl; rfl; intro v5 w5 hr5b hf5 hg5b; obtain ⟨hb5, hv5, hq5, hq6⟩ := HK.out.p2 _ _ hg5b hf5)
                  | ((with_reducible refine step_append_row rowR (o := ⟨some 36, _, _, _, _, _⟩) rfl (.tmp 32) (.tmp 35) rfl _ 0 [] ?_ HK.out.row3 _ m xs1 ?_ (HK.out.src1 _ HK.out.bC) HL1.out ?_); rfl; rfl; intro v5 w5 hr5c hf5 hg5c; obtain ⟨hb5, hv5, hq5, hq6⟩ := HK.out.p3 _ _ hg5c hf5)
                  | fail)
                all_goals
                  have HFN := Lib.hid hfin
                  clear hfin
                  go_wp2
                  go_roundw
                  case rel => exact HREL.out _ _ HFN.out
                  case measure => simp [RowKit.intOf]; omega
            · obtain ⟨p, hp⟩ : ∃ p, p + 1 = m := ⟨m - 1, by omega⟩
              obtain ⟨bo2, oo2, e9, q3⟩ := hcell p (by omega)
              cases e9
              have hgt := fun h => (hbi p (by omega)).1 h
              have hngt : ¬ a < O[p]!.2 := fun h => by have := hgt h; omega
              generalize O[p]!.2 = x at *
              have hd : decide ((x : Int) > (a : Int)) = false := decide_eq_false (by omega)
              have hd0 : ¬ (x : Int) > (a : Int) := by omega
              have hm0 : (m : Int) > 0 := by omega
              have hm1 : decide ((m : Int) > 0) = true := decide_eq_true hm0
              have hm2 : 0 < m := by omega
              have hm3 : decide (0 < m) = true := decide_eq_true hm2
              have hw : IntKind.i64.wrap ((m : Int) - 1) = (p : Int) := by rw [IntKind.wrap_i64]; omega
              have zz1 : 0 ≤ (p : Int) := by omega
              have zz2 : (p : Int) < (i : Int) := by omega
              clear hcell hbi hgt hngt hmb
              go_upto_region 6 with (fail)
              go_quiet (fail)
              by_cases hcm : co = m
              · have hcm2 : m = co := hcm.symm
                subst hcm2
                have him : i = m := by omega
                subst him
                go_upto_region 8 with (fail)
                obtain ⟨W, hW⟩ : ∃ W, W = wr.drewN nq := ⟨_, rfl⟩
                rw [← hW]
                have hb3 : Below wr.heap.size wr W := by rw [hW]; exact ⟨rfl, rfl, rfl, Nat.le_refl _, fun _ _ => rfl⟩
                have hb4 := HB2.out.trans (hb3.mono HB2.out.size)
                have hrw := RowAt.bel HG.out.2.1 hb4
                have hdr : ∀ W', Below W.heap.size W W' → Below W.heap.size W W' := fun W' h => h
                obtain ⟨qw0, qw1⟩ := hq.out _ hb4
                rw [HOL.out] at hrw
                have HK : OrdK w W b (off + i * 2) k a i (0) (flatT (O.take i)) (encT (k, a)) [] (.slice (some ⟨bo, oo, none⟩) i i) (.slice (some ⟨bo, oo, none⟩) 0 0) (insT O (k, a)) := by
                  have := ordK w W b (off + i * 2) k a i (.slice (some ⟨bo, oo, none⟩) i i) (.slice (some ⟨bo, oo, none⟩) 0 0) O (HG.out.1.trans (hb4.mono HG.out.1.size)) HS.out HMB.out (Nat.lt_of_lt_of_le HBL.out hb4.size) qw0 qw1 (fun W' h => srcTakeT (hrw.bel (hdr W' h)) i _ (Nat.le_refl _)) (fun W' h => by rw [HOL.out, Nat.sub_self, List.drop_eq_nil_of_le (by rw [HOL.out]; exact Nat.le_refl _)]; exact src_noneT W' _ _)
                  rw [HOL.out, Nat.sub_self, List.drop_eq_nil_of_le (by rw [HOL.out]; exact Nat.le_refl _)] at this
                  exact this
                have HK := Lib.hid HK
                have HL1 : Hid (0 + i ≤ 100000000) := Lib.hid (by omega)
                have HL2 : Hid (0 + i + 1 ≤ 100000000) := Lib.hid (by omega)
                have HL3 : Hid (0 + i + 1 + (0) ≤ 100000000) := Lib.hid (by omega)
                have qD := HK.out.qD
                have qA := HK.out.qA
                have qB := HK.out.qB
                have qC := HK.out.qC
                have qX := HK.out.qX
                have z4 : i ≤ i := Nat.le_refl _
                have z5 : 0 ≤ (i : Int) := by omega
                clear hrw hb3 hb4 hdr qw0 qw1 hW hG hs hq HBL HOL HMB HB2 HG HS hOl hbm hmO q0 q1 hc hrow2 H
                generalize insT O (k, a) = Z at *
                generalize flatT (O.take i) = xs1 at *
                generalize encT (k, a) = ys at *
                go_region_held3 (fun w' => w'.cell? ⟨b, off + i * 2, none⟩ = some (.int .i64 k) ∧ w'.cell? ⟨b, off + i * 2 + 1, none⟩ = some (.int .u64 (a : Int))) (first | assumption) (first
                  | (have hr6' := hr6; (with_reducible refine step_append_row rowR (o := ⟨some 46, _, _, _, _, _⟩) rfl (.tmp 42) (.tmp 45) rfl _ (0 + i + 1) ([] ++ xs1 ++ ys) ?_ hr6' _ (0) [] ?_ (HK.out.src3 _ hb6) HL3.out ?_); rfl; rfl; intro v7 w7 hr7 hf7 hg7; have hfin := HK.out.fin _ _ _ _ hb6 hv6 hg7 hf7 hr7; obtain ⟨_, _, hq8⟩ := HK.out.p4 _ _ _ _ hb6 hv6 hg7 hf7)
                  | (have hr5' := hr5a; (with_reducible refine step_append_row rowR (o := ⟨some 42, _, _, _, _, _⟩) rfl (.tmp 36) (.tmp 41) rfl _ (0 + i) ([] ++ xs1) ?_ (hr5'.bel ((Below.refl _ _).alloc (Nat.le_refl _) _)) _ 1 ys ?_ (HK.out.x1 _) HL2.out ?_); rfl; rfl; intro v6 w6 hr6 hf6 hg6; obtain ⟨hb6, hv6, hq7⟩ := HK.out.p4 _ _ _ _ (HK.out.up _ hb5) hv5 hg6 hf6)
                  | (have hr5' := hr5b; (with_reducible refine step_append_row rowR (o := ⟨some 42, _, _, _, _, _⟩) rfl (.tmp 36) (.tmp 41) rfl _ (0 + i) ([] ++ xs1) ?_ hr5' _ 1 ys ?_ (HK.out.x2 _ hg5b) HL2.out ?_); rfl; rfl; intro v6 w6 hr6 hf6 hg6; obtain ⟨hb6, hv6, hq7⟩ := HK.out.p4 _ _ _ _ hb5 hv5 hg6 hf6)
                  | (have hr5' := hr5c; (with_reducible refine step_append_row rowR (o := ⟨some 42, _, _, _, _, _⟩) rfl (.tmp 36) (.tmp 41) rfl _ (0 + i) ([] ++ xs1) ?_ hr5' _ 1 ys ?_ (HK.out.x3 _ hg5c) HL2.out ?_); rfl; rfl; intro v6 w6 hr6 hf6 hg6; obtain ⟨hb6, hv6, hq7⟩ := HK.out.p4 _ _ _ _ hb5 hv5 hg6 hf6)
                  | ((with_reducible refine step_append_row rowR (o := ⟨some 36, _, _, _, _, _⟩) rfl (.tmp 32) (.tmp 35) rfl _ 0 [] ?_ HK.out.row1 _ i xs1 ?_ (HK.out.src1 _ HK.out.bA) HL1.out ?_); rfl; rfl; intro v5 w5 hr5a hf5 hg5a; obtain ⟨hb5, hv5, hq5, hq6⟩ := HK.out.p1 _ _ hg5a hf5)
                  | ((with_reducible refine step_append_row rowR (o := ⟨some 36, _, _, _, _, _⟩) rfl (.tmp 32) (.tmp 35) rfl _ 0 [] ?_ HK.out.row2 _ i xs1 ?_ (HK.out.src1 _ HK.out.bB) HL1.out ?_); rfl; rfl; intro v5 w5 hr5b hf5 hg5b; obtain ⟨hb5, hv5, hq5, hq6⟩ := HK.out.p2 _ _ hg5b hf5)
                  | ((with_reducible refine step_append_row rowR (o := ⟨some 36, _, _, _, _, _⟩) rfl (.tmp 32) (.tmp 35) rfl _ 0 [] ?_ HK.out.row3 _ i xs1 ?_ (HK.out.src1 _ HK.out.bC) HL1.out ?_); rfl; rfl; intro v5 w5 hr5c hf5 hg5c; obtain ⟨hb5, hv5, hq5, hq6⟩ := HK.out.p3 _ _ hg5c hf5)
                  | fail)
                all_goals
                  have HFN := Lib.hid hfin
                  clear hfin
                  go_wp2
                  go_roundw
                  case rel => exact HREL.out _ _ HFN.out
                  case measure => simp [RowKit.intOf]; omega
              · have hcm3 : ¬ co = m := hcm
                go_upto_region 8 with (fail)
                obtain ⟨W, hW⟩ : ∃ W, W = wr.drewN nq := ⟨_, rfl⟩
                rw [← hW]
                have hb3 : Below wr.heap.size wr W := by rw [hW]; exact ⟨rfl, rfl, rfl, Nat.le_refl _, fun _ _ => rfl⟩
                have hb4 := HB2.out.trans (hb3.mono HB2.out.size)
                have hrw := RowAt.bel HG.out.2.1 hb4
                have hdr : ∀ W', Below W.heap.size W W' → Below W.heap.size W W' := fun W' h => h
                obtain ⟨qw0, qw1⟩ := hq.out _ hb4
                rw [HOL.out] at hrw
                have HK : OrdK w W b (off + i * 2) k a m (i - m) (flatT (O.take m)) (encT (k, a)) (flatT (O.drop m)) (.slice (some ⟨bo, oo, none⟩) m co) (.slice (some ⟨bo, oo + m * 2, none⟩) (i - m) (co - m)) (insT O (k, a)) := by
                  have := ordK w W b (off + i * 2) k a m (.slice (some ⟨bo, oo, none⟩) m co) (.slice (some ⟨bo, oo + m * 2, none⟩) (i - m) (co - m)) O (HG.out.1.trans (hb4.mono HG.out.1.size)) HS.out HMB.out (Nat.lt_of_lt_of_le HBL.out hb4.size) qw0 qw1 (fun W' h => srcTakeT (hrw.bel (hdr W' h)) m _ (by omega)) (fun W' h => by rw [HOL.out]; exact srcDropT (hrw.bel (hdr W' h)) m _ (by omega))
                  rw [HOL.out] at this
                  exact this
                have HK := Lib.hid HK
                have HL1 : Hid (0 + m ≤ 100000000) := Lib.hid (by omega)
                have HL2 : Hid (0 + m + 1 ≤ 100000000) := Lib.hid (by omega)
                have HL3 : Hid (0 + m + 1 + (i - m) ≤ 100000000) := Lib.hid (by omega)
                have qD := HK.out.qD
                have qA := HK.out.qA
                have qB := HK.out.qB
                have qC := HK.out.qC
                have qX := HK.out.qX
                have z1 : (m : Int) ≤ (co : Int) := by omega
                have z2 : m ≤ co := by omega
                have z3 : (m : Int) ≤ (i : Int) := by omega
                have z4 : m ≤ i := by omega
                have z5 : 0 ≤ (m : Int) := by omega
                clear hrw hb3 hb4 hdr qw0 qw1 hW hG hs hq HBL HOL HMB HB2 HG HS hOl hbm hmO q0 q1 hc hrow2 H
                generalize insT O (k, a) = Z at *
                generalize flatT (O.take m) = xs1 at *
                generalize flatT (O.drop m) = xs3 at *
                generalize encT (k, a) = ys at *
                go_region_held3 (fun w' => w'.cell? ⟨b, off + i * 2, none⟩ = some (.int .i64 k) ∧ w'.cell? ⟨b, off + i * 2 + 1, none⟩ = some (.int .u64 (a : Int))) (first | assumption) (first
                  | (have hr6' := hr6; (with_reducible refine step_append_row rowR (o := ⟨some 46, _, _, _, _, _⟩) rfl (.tmp 42) (.tmp 45) rfl _ (0 + m + 1) ([] ++ xs1 ++ ys) ?_ hr6' _ (i - m) xs3 ?_ (HK.out.src3 _ hb6) HL3.out ?_); rfl; rfl; intro v7 w7 hr7 hf7 hg7; have hfin := HK.out.fin _ _ _ _ hb6 hv6 hg7 hf7 hr7; obtain ⟨_, _, hq8⟩ := HK.out.p4 _ _ _ _ hb6 hv6 hg7 hf7)
                  | (have hr5' := hr5a; (with_reducible refine step_append_row rowR (o := ⟨some 42, _, _, _, _, _⟩) rfl (.tmp 36) (.tmp 41) rfl _ (0 + m) ([] ++ xs1) ?_ (hr5'.bel ((Below.refl _ _).alloc (Nat.le_refl _) _)) _ 1 ys ?_ (HK.out.x1 _) HL2.out ?_); rfl; rfl; intro v6 w6 hr6 hf6 hg6; obtain ⟨hb6, hv6, hq7⟩ := HK.out.p4 _ _ _ _ (HK.out.up _ hb5) hv5 hg6 hf6)
                  | (have hr5' := hr5b; (with_reducible refine step_append_row rowR (o := ⟨some 42, _, _, _, _, _⟩) rfl (.tmp 36) (.tmp 41) rfl _ (0 + m) ([] ++ xs1) ?_ hr5' _ 1 ys ?_ (HK.out.x2 _ hg5b) HL2.out ?_); rfl; rfl; intro v6 w6 hr6 hf6 hg6; obtain ⟨hb6, hv6, hq7⟩ := HK.out.p4 _ _ _ _ hb5 hv5 hg6 hf6)
                  | (have hr5' := hr5c; (with_reducible refine step_append_row rowR (o := ⟨some 42, _, _, _, _, _⟩) rfl (.tmp 36) (.tmp 41) rfl _ (0 + m) ([] ++ xs1) ?_ hr5' _ 1 ys ?_ (HK.out.x3 _ hg5c) HL2.out ?_); rfl; rfl; intro v6 w6 hr6 hf6 hg6; obtain ⟨hb6, hv6, hq7⟩ := HK.out.p4 _ _ _ _ hb5 hv5 hg6 hf6)
                  | ((with_reducible refine step_append_row rowR (o := ⟨some 36, _, _, _, _, _⟩) rfl (.tmp 32) (.tmp 35) rfl _ 0 [] ?_ HK.out.row1 _ m xs1 ?_ (HK.out.src1 _ HK.out.bA) HL1.out ?_); rfl; rfl; intro v5 w5 hr5a hf5 hg5a; obtain ⟨hb5, hv5, hq5, hq6⟩ := HK.out.p1 _ _ hg5a hf5)
                  | ((with_reducible refine step_append_row rowR (o := ⟨some 36, _, _, _, _, _⟩) rfl (.tmp 32) (.tmp 35) rfl _ 0 [] ?_ HK.out.row2 _ m xs1 ?_ (HK.out.src1 _ HK.out.bB) HL1.out ?_); rfl; rfl; intro v5 w5 hr5b hf5 hg5b; obtain ⟨hb5, hv5, hq5, hq6⟩ := HK.out.p2 _ _ hg5b hf5)
                  | ((with_reducible refine step_append_row rowR (o := ⟨some 36, _, _, _, _, _⟩) rfl (.tmp 32) (.tmp 35) rfl _ 0 [] ?_ HK.out.row3 _ m xs1 ?_ (HK.out.src1 _ HK.out.bC) HL1.out ?_); rfl; rfl; intro v5 w5 hr5c hf5 hg5c; obtain ⟨hb5, hv5, hq5, hq6⟩ := HK.out.p3 _ _ hg5c hf5)
                  | fail)
                all_goals
                  have HFN := Lib.hid hfin
                  clear hfin
                  go_wp2
                  go_roundw
                  case rel => exact HREL.out _ _ HFN.out
                  case measure => simp [RowKit.intOf]; omega

    · obtain rfl : i = L.length := by omega
      have hlt' : ¬ (L.length : Int) < (L.length : Int) := by omega
      rw [List.take_of_length_le (Nat.le_refl _)] at hG
      have HG := Lib.hid hG
      clear H hG
      generalize L.length = n at *
      go_wp2_with (first | fail)
      go_ret
      exact ⟨_, rfl, HG.out⟩
end Go.Proofs.Ytkebgcalphajhaa
