/- Contracts of the reference's Prefix and Cmp. Conditions: an id has 20 bytes. Contracts of the reference's Cmp and Xor. Conditions: an id has 20 bytes. Rows of ids in memory: plain lemmas. No condition. Rows of ids in memory: appends, new rows of one id, clearing. No condition. -/
import Derived.Test.YtcoiaddjfeaciaaGj
import Derived.Test.YtcoiaddjfeaciaaGh
section
namespace Go.Proofs.Ytcoiaddjfeaciaa
set_option maxRecDepth 100000
set_option maxHeartbeats 400000
open Go.RowKit Go.Great

theorem kept_load42 {g : Nat} {W : World} {xs : List UInt8} {ty : TypeId} (hx : xs.length = 20) (h : W.heap[g]? = some (.cells (bcells xs).toArray ty (0, 0))) : ∀ n : Kept W.heap.size W, (loadVar 42 ⟨g, 0, none⟩).run Try.prog n.val = .ok (.agg (bcells xs).toArray) n.val :=
  fun n => load42 hx (kept_row h (Array.getElem?_eq_some_iff.1 h).1 n)
theorem kept_load26 {g : Nat} {W : World} {xs : List UInt8} {ty : TypeId} (hx : xs.length = 20) (h : W.heap[g]? = some (.cells (bcells xs).toArray ty (0, 0))) : ∀ n : Kept W.heap.size W, (loadVar 26 ⟨g, 0, none⟩).run Try.prog n.val = .ok (.agg (bcells xs).toArray) n.val := fun n => by
  have h' := kept_row h (Array.getElem?_eq_some_iff.1 h).1 n
  exact run_loadVar_mid n.val g 0 26 (bcells xs) _ (row_range h') Try.underlying26 rfl (by rw [bcells_length, hx]; exact size26)

def RPfxRel (w : World) (xs ys : List UInt8) (i : Value) (wr : World) : Prop :=
  ∃ j : Nat, j ≤ 160 ∧ i = .int .i64 (j : Int) ∧ (∀ k, k < j → bitL xs k = bitL ys k) ∧ wr.heap[w.heap.size]? = some (.cells (bcells xs).toArray 42 (0, 0)) ∧ wr.heap[w.heap.size + 1]? = some (.cells (bcells ys).toArray 42 (0, 0)) ∧ Below w.heap.size w wr

theorem rprefix_any (xs ys : List UInt8) (hx : xs.length = 20) (hy : ys.length = 20) (w : World) :
    Calls Try.prog 33 #[.agg (bcells xs).toArray, .agg (bcells ys).toArray] w fun e w' => e = .returned (.int .i64 (pfxN xs ys : Int)) ∧ Below w.heap.size w w' := by
  obtain ⟨h1, h2, h4⟩ := heap2 w (.cells (bcells xs).toArray 42) (.cells (bcells ys).toArray 42)
  have HR0 : Hid (RPfxRel w xs ys (.int .i64 0) ((w.alloc (.cells (bcells xs).toArray 42)).alloc (.cells (bcells ys).toArray 42))) := Lib.hid ⟨0, by omega, rfl, fun k hk => by omega, h1, h2, h4⟩
  have HX := Lib.hid (And.intro hx hy)
  have HB1 := Lib.hid (fun (k : Nat) (hk : k < 160) W => rbit_yes xs hx k hk W)
  have HB2 := Lib.hid (fun (k : Nat) (hk : k < 160) W => rbit_yes ys hy k hk W)
  clear h1 h2 h4 hx hy
  obtain ⟨X, hX⟩ : ∃ X, X = (bcells xs).toArray := ⟨_, rfl⟩
  obtain ⟨Y, hY⟩ : ∃ Y, Y = (bcells ys).toArray := ⟨_, rfl⟩
  simp only [← hX] at HB1
  simp only [← hY] at HB2
  rw [← hX, ← hY] at HR0 ⊢
  have HXY := Lib.hid (And.intro hX hY)
  clear hX hY
  go_enter Try.func33, Try.ntmps33
  go_wp2
  go_loopw [5] (RPfxRel w xs ys) (fun i _ => 160 - (intOf i).toNat)
  case atStart => exact HR0.out
  case round =>
    obtain ⟨j, hj, rfl, hk, hq, hr, hb⟩ := hrel
    clear HR0
    obtain ⟨hx, hy⟩ := HX.out
    obtain ⟨eX, eY⟩ := HXY.out
    have L1 := kept_load42 hx hq
    have L2 := kept_load42 hy hr
    rw [← eX] at L1
    rw [← eY] at L2
    have HL1 := Lib.hid L1
    have HL2 := Lib.hid L2
    have HBB := Lib.hid hb
    by_cases hlt : j < 160
    · have hlt' : (j : Int) < 160 := by omega
      have B1 := HB1.out j hlt
      have B2 := HB2.out j hlt
      by_cases he : bitL xs j = bitL ys j
      · rw [← he] at B2
        have HR : Hid (∀ wk, Below wr.heap.size wr wk → RPfxRel w xs ys (.int .i64 ((j : Int) + 1)) wk) := Lib.hid (fun wk hwk => by
          have l2 := (Array.getElem?_eq_some_iff.1 hr).1
          refine ⟨j + 1, by omega, by go_num, fun k hkj => ?_, (hwk.block _ (by omega)).trans hq, (hwk.block _ l2).trans hr, hb.trans (hwk.mono hb.size)⟩
          by_cases hkj' : k = j
          · rw [hkj']
            exact he
          · exact hk k (by omega))
        generalize bitL xs j = bt at B1 B2
        have C1 := Lib.hid B1
        have C2 := Lib.hid B2
        clear B1 B2 hq hr hb hk he L1 L2 hx hy eX eY HB1 HB2 HX HXY
        cases bt
        all_goals
          simp only [Bool.false_eq_true, if_false, if_true] at C1 C2
          go_upto_region 2 with fail
          refine wp_region_kept wr.heap.size wr (Below.refl _ _) (by kernel_rfl) (by kernel_rfl) ?_
          repeat (first
            | (go_big_quiet_want; (with_reducible refine quiet_loadV 42 (.tmp 2) rfl _ ?_ _ HL1.out ?_); rfl; simp only [Act.put, List.setIfInBounds_toArray, List.set_cons_zero, List.set_cons_succ]; go_big_quiet_on)
            | (go_big_quiet_want; (with_reducible refine quiet_loadV 42 (.tmp 3) rfl _ ?_ _ HL2.out ?_); rfl; simp only [Act.put, List.setIfInBounds_toArray, List.set_cons_zero, List.set_cons_succ]; go_big_quiet_on)
            | go_big_quiet_step (first | (go_at_call 25; with_reducible exact kept_of (Nat.le_refl _) C1.out _) | (go_at_call 25; with_reducible exact kept_of (Nat.le_refl _) C2.out _)))
          refine wpQuiet_nil ?_
          rintro _ ⟨⟨wk, hwk⟩, rfl⟩
          have HWK := Lib.hid hwk
          clear hwk
          go_wp2
          go_roundw
          case rel => exact HR.out _ HWK.out
          case measure => simp [intOf]; omega
      · have hp : pfxN xs ys = j := pfxN_unique (hx.trans hy.symm) j (by omega) hk (fun _ => he)
        have e2 : bitL ys j = !bitL xs j := by cases h1 : bitL xs j <;> cases h2 : bitL ys j <;> simp_all
        rw [e2] at B2
        have HP := Lib.hid hp
        generalize bitL xs j = bt at B1 B2
        have C1 := Lib.hid B1
        have C2 := Lib.hid B2
        clear B1 B2 hq hr hb hk he L1 L2 hx hy eX eY HB1 HB2 HX HXY hp e2
        cases bt
        all_goals
          simp only [Bool.not_false, Bool.not_true, Bool.false_eq_true, if_false, if_true] at C1 C2
          go_upto_region 2 with fail
          refine wp_region_kept wr.heap.size wr (Below.refl _ _) (by kernel_rfl) (by kernel_rfl) ?_
          repeat (first
            | (go_big_quiet_want; (with_reducible refine quiet_loadV 42 (.tmp 2) rfl _ ?_ _ HL1.out ?_); rfl; simp only [Act.put, List.setIfInBounds_toArray, List.set_cons_zero, List.set_cons_succ]; go_big_quiet_on)
            | (go_big_quiet_want; (with_reducible refine quiet_loadV 42 (.tmp 3) rfl _ ?_ _ HL2.out ?_); rfl; simp only [Act.put, List.setIfInBounds_toArray, List.set_cons_zero, List.set_cons_succ]; go_big_quiet_on)
            | go_big_quiet_step (first | (go_at_call 25; with_reducible exact kept_of (Nat.le_refl _) C1.out _) | (go_at_call 25; with_reducible exact kept_of (Nat.le_refl _) C2.out _)))
          refine wpQuiet_nil ?_
          rintro _ ⟨⟨wk, hwk⟩, rfl⟩
          have HWK := Lib.hid hwk
          clear hwk
          go_wp2
          go_ret
          exact ⟨by rw [HP.out]; rfl, HBB.out.trans (HWK.out.mono HBB.out.size)⟩
    · obtain rfl : j = 160 := by omega
      have hp : pfxN xs ys = 160 := pfxN_unique (hx.trans hy.symm) 160 (by omega) hk (fun h => by rw [hx] at h; omega)
      have HP := Lib.hid hp
      clear hq hr hb hk L1 L2 hx hy eX eY HB1 HB2 HX HXY hp hlt hj
      go_upto_region 2 with fail
      refine wp_region_kept wr.heap.size wr (Below.refl _ _) (by kernel_rfl) (by kernel_rfl) ?_
      repeat go_big_quiet_step (fail)
      refine wpQuiet_nil ?_
      rintro _ ⟨⟨wk, hwk⟩, rfl⟩
      have HWK := Lib.hid hwk
      clear hwk
      go_wp2
      go_ret
      exact ⟨by rw [HP.out]; rfl, HBB.out.trans (HWK.out.mono HBB.out.size)⟩
end Go.Proofs.Ytcoiaddjfeaciaa
end
section
namespace Go.Proofs.Ytcoiaddjfeaciaa
set_option maxRecDepth 100000
set_option maxHeartbeats 400000
open Go.RowKit Go.Great

theorem rcmp_any (xs ys : List UInt8) (hx : xs.length = 20) (hy : ys.length = 20) (w : World) :
    Calls Try.prog 31 #[.agg (bcells xs).toArray, .agg (bcells ys).toArray] w fun e w' => e = .returned (.int .i64 (cmpL xs ys)) ∧ Below w.heap.size w w' := by
  obtain ⟨h1, h2, h4⟩ := heap2 w (.cells (bcells xs).toArray 42) (.cells (bcells ys).toArray 42)
  have hP := fun W => rprefix_any xs ys hx hy W
  have hspec := pfxN_spec xs ys (hx.trans hy.symm)
  rw [hx] at hspec
  have hB1 := fun (hk : pfxN xs ys < 160) W => rbit_yes xs hx (pfxN xs ys) hk W
  have hB2 := fun (hk : pfxN xs ys < 160) W => rbit_yes ys hy (pfxN xs ys) hk W
  obtain ⟨W0, hW0⟩ : ∃ W0, W0 = (w.alloc (.cells (bcells xs).toArray 42)).alloc (.cells (bcells ys).toArray 42) := ⟨_, rfl⟩
  rw [← hW0] at h1 h2 h4
  have L1 := kept_load42 hx h1
  have L2 := kept_load42 hy h2
  have HK1 : Hid ((loadVar 42 ⟨w.heap.size, 0, none⟩).run Try.prog ((w.alloc (.cells (bcells xs).toArray 42)).alloc (.cells (bcells ys).toArray 42)) = .ok (.agg (bcells xs).toArray) ((w.alloc (.cells (bcells xs).toArray 42)).alloc (.cells (bcells ys).toArray 42))) := Lib.hid (by rw [← hW0]; exact L1 ⟨W0, Below.refl _ _⟩)
  have HK2 : Hid ((loadVar 42 ⟨w.heap.size + 1, 0, none⟩).run Try.prog ((w.alloc (.cells (bcells xs).toArray 42)).alloc (.cells (bcells ys).toArray 42)) = .ok (.agg (bcells ys).toArray) ((w.alloc (.cells (bcells xs).toArray 42)).alloc (.cells (bcells ys).toArray 42))) := Lib.hid (by rw [← hW0]; exact L2 ⟨W0, Below.refl _ _⟩)
  have HW := Lib.hid hW0
  have HBL := Lib.hid h4
  have HL1 := Lib.hid L1
  have HL2 := Lib.hid L2
  have HP := Lib.hid hP
  generalize (bcells xs).toArray = X at HK1 HK2 HW HL1 HP hB1 ⊢
  generalize (bcells ys).toArray = Y at HK1 HK2 HW HL2 HP hB2 ⊢
  clear h1 h2 h4 hP hW0 L1 L2
  by_cases he : xs = ys
  · have hp : pfxN xs ys = 160 := hspec.2.2.2 he
    have hc : cmpL xs ys = 0 := by unfold cmpL; rw [if_pos he]
    rw [hc]
    rw [hp] at HP
    clear hspec hB1 hB2 hx hy he hp hc
    go_enter Try.func31, Try.ntmps31
    go_wp2_with (first
      | (go_at_call 33; refine (HP.out _).mono ?_; rintro e w2 ⟨rfl, hb2⟩)
      | ((with_reducible refine wpList_loadV (op := ⟨some 6, _, _, _, _, _⟩) rfl 42 (.tmp 2) rfl _ ?_ _ HK1.out ?_); rfl)
      | ((with_reducible refine wpList_loadV (op := ⟨some 7, _, _, _, _, _⟩) rfl 42 (.tmp 3) rfl _ ?_ _ HK2.out ?_); rfl))
    go_ret
    rw [← HW.out] at hb2
    exact ⟨rfl, HBL.out.trans (hb2.mono HBL.out.size)⟩
  · obtain ⟨hp, hne⟩ := hspec.2.2.1 he
    have B1 := hB1 (by omega)
    have B2 := hB2 (by omega)
    have hc : cmpL xs ys = if bitL xs (pfxN xs ys) then 1 else -1 := by unfold cmpL; rw [if_neg he]
    have e2 : bitL ys (pfxN xs ys) = !bitL xs (pfxN xs ys) := by cases h1 : bitL xs (pfxN xs ys) <;> cases h2 : bitL ys (pfxN xs ys) <;> simp_all
    rw [e2] at B2
    rw [hc]
    generalize bitL xs (pfxN xs ys) = bt at B1 B2 ⊢
    generalize pfxN xs ys = p at HP hp B1 B2
    have np : ¬ (p : Int) = 160 := by omega
    have np2 : ¬ p = 160 := by omega
    have C1 := Lib.hid B1
    have C2 := Lib.hid B2
    clear hspec hB1 hB2 B1 B2 hx hy he hp hc hne e2
    cases bt
    all_goals
      simp only [Bool.not_false, Bool.not_true, Bool.false_eq_true, if_false, if_true] at C1 C2 ⊢
      go_enter Try.func31, Try.ntmps31
      go_upto_region 4 with (first
        | (go_at_call 33; refine (HP.out _).mono ?_; rintro e w2 ⟨rfl, hb2⟩)
        | ((with_reducible refine wpList_loadV (op := ⟨some 6, _, _, _, _, _⟩) rfl 42 (.tmp 2) rfl _ ?_ _ HK1.out ?_); rfl)
        | ((with_reducible refine wpList_loadV (op := ⟨some 7, _, _, _, _, _⟩) rfl 42 (.tmp 3) rfl _ ?_ _ HK2.out ?_); rfl))
      rw [← HW.out] at hb2
      refine wp_region_kept W0.heap.size W0 hb2 (by kernel_rfl) (by kernel_rfl) ?_
      repeat (first
        | (go_big_quiet_want; (with_reducible refine quiet_loadV 42 (.tmp 2) rfl _ ?_ _ HL1.out ?_); rfl; simp only [Act.put, List.setIfInBounds_toArray, List.set_cons_zero, List.set_cons_succ]; go_big_quiet_on)
        | (go_big_quiet_want; (with_reducible refine quiet_loadV 42 (.tmp 3) rfl _ ?_ _ HL2.out ?_); rfl; simp only [Act.put, List.setIfInBounds_toArray, List.set_cons_zero, List.set_cons_succ]; go_big_quiet_on)
        | go_big_quiet_step (first | (go_at_call 25; with_reducible exact kept_of (Nat.le_refl _) C1.out _) | (go_at_call 25; with_reducible exact kept_of (Nat.le_refl _) C2.out _)))
      refine wpQuiet_nil ?_
      rintro _ ⟨⟨wk, hwk⟩, rfl⟩
      go_wp2
      go_ret
      exact ⟨rfl, HBL.out.trans (hwk.mono HBL.out.size)⟩

def RXorRel (w : World) (xs ys : List UInt8) (i : Value) (wr : World) : Prop :=
  ∃ j : Nat, j ≤ 160 ∧ i = .int .i64 (j : Int) ∧ wr.heap[w.heap.size]? = some (.cells (bcells xs).toArray 42 (0, 0)) ∧ wr.heap[w.heap.size + 1]? = some (.cells (bcells ys).toArray 42 (0, 0)) ∧ wr.heap[w.heap.size + 1 + 1]? = some (.cells (bcells (List.replicate 20 0)).toArray 42 (0, 0)) ∧ wr.heap[w.heap.size + 1 + 1 + 1]? = some (.cells (bcells (xorR xs ys j)).toArray 42 (0, 0)) ∧ Below w.heap.size w wr
theorem heap4 (w : World) (a b x y : Obj) :
    ((((w.alloc a).alloc b).alloc x).alloc y).heap[w.heap.size]? = some a ∧ ((((w.alloc a).alloc b).alloc x).alloc y).heap[w.heap.size + 1]? = some b ∧ ((((w.alloc a).alloc b).alloc x).alloc y).heap[w.heap.size + 1 + 1]? = some x ∧ ((((w.alloc a).alloc b).alloc x).alloc y).heap[w.heap.size + 1 + 1 + 1]? = some y ∧ Below w.heap.size w ((((w.alloc a).alloc b).alloc x).alloc y) := by
  refine ⟨?_, ?_, ?_, ?_, (((((Below.refl _ w).alloc (Nat.le_refl _) _).alloc (by simp) _).alloc (by simp; omega) _).alloc (by simp; omega) _)⟩
  all_goals
    show ((((w.heap.push a).push b).push x).push y)[_]? = _
    simp only [Array.getElem?_push, Array.size_push]
    repeat (first | rw [if_pos trivial] | rw [if_pos (by omega)] | rw [if_neg (by omega)])
end Go.Proofs.Ytcoiaddjfeaciaa
end
section
namespace Go.Proofs.Ytcoiaddjfeaciaa
set_option maxRecDepth 100000
open Go.RowKit Go.Lib

theorem encID_length (x : IDv) : (encID x).length = 20 := by unfold encID; rw [bcells_length, x.property]
/-- Ids as cells. -/
def flatI (L : List IDv) : List Value := L.flatMap encID
@[simp] theorem flatI_nil : flatI [] = [] := rfl
theorem flatI_cons (x : IDv) (L : List IDv) : flatI (x :: L) = encID x ++ flatI L := by simp [flatI]
theorem flatI_append (L M : List IDv) : flatI (L ++ M) = flatI L ++ flatI M := by simp [flatI]
theorem flatI_one' (x : IDv) : flatI [x] = encID x := by simp [flatI]
theorem flatI_length (L : List IDv) : (flatI L).length = L.length * 20 := by
  induction L with
  | nil => rfl
  | cons x L ih => rw [flatI_cons, List.length_append, encID_length, ih, List.length_cons]; omega
theorem flatI_one (L : List IDv) : ∀ u ∈ flatI L, u.oneCell' = true := by
  intro u hu
  obtain ⟨x, _, hx⟩ := List.mem_flatMap.1 hu
  exact bcells_one _ u hx
theorem flatI_take (L : List IDv) (n : Nat) : flatI (L.take n) = (flatI L).take (n * 20) := by
  induction L generalizing n with
  | nil => simp
  | cons x L ih =>
    cases n with
    | zero => simp
    | succ n =>
      rw [List.take_succ_cons, flatI_cons, flatI_cons, ih, show (n + 1) * 20 = (encID x).length + n * 20 by rw [encID_length]; omega, List.take_length_add_append]
theorem flatI_drop (L : List IDv) (n : Nat) : flatI (L.drop n) = (flatI L).drop (n * 20) := by
  induction L generalizing n with
  | nil => simp
  | cons x L ih =>
    cases n with
    | zero => simp
    | succ n =>
      rw [List.drop_succ_cons, flatI_cons, ih, show (n + 1) * 20 = (encID x).length + n * 20 by rw [encID_length]; omega, List.drop_length_add_append]
theorem flatI_get {L : List IDv} {i : Nat} {x : IDv} (h : L[i]? = some x) (c : Nat) (hc : c < 20) : (flatI L)[i * 20 + c]? = (encID x)[c]? := by
  obtain ⟨hi, hx⟩ := List.getElem?_eq_some_iff.1 h
  have e : L.drop i = x :: L.drop (i + 1) := by rw [List.drop_eq_getElem_cons hi, hx]
  have f := flatI_drop L i
  rw [e, flatI_cons] at f
  have g : (encID x ++ flatI (L.drop (i + 1)))[c]? = (encID x)[c]? := List.getElem?_append_left (by rw [encID_length]; exact hc)
  rw [← g, f, List.getElem?_drop]

section
variable {w w' : World}
theorem range_part {g off : Nat} {L : List IDv} (h : w.rangeAt g off (flatI L)) {i : Nat} {x : IDv} (hx : L[i]? = some x) : w.rangeAt g (off + i * 20) (encID x) := fun j v hv => by
  have hj : j < 20 := by rw [← encID_length x]; exact (List.getElem?_eq_some_iff.1 hv).1
  rw [Nat.add_assoc]
  exact h _ _ ((flatI_get hx j hj).trans hv)
theorem range_load26 {g off : Nat} {x : IDv} (h : w.rangeAt g off (encID x)) : (loadVar 26 ⟨g, off, none⟩).run Try.prog w = .ok (.agg (encID x).toArray) w :=
  run_loadVar_mid w g off 26 (encID x) _ h Try.underlying26 rfl (by rw [encID_length]; exact size26)
theorem range_load42 {g off : Nat} {x : IDv} (h : w.rangeAt g off (encID x)) : (loadVar 42 ⟨g, off, none⟩).run Try.prog w = .ok (.agg (encID x).toArray) w :=
  run_loadVar_mid w g off 42 (encID x) _ h Try.underlying42 rfl (by rw [encID_length]; exact size42)
theorem range_keep {g off : Nat} {cs : List Value} (h : w.rangeAt g off cs) (hb : w'.heap[g]? = w.heap[g]?) : w'.rangeAt g off cs := fun j v hv => by
  rw [World.cell?_of_block (w := w) (w' := w') (a := ⟨g, off + j, none⟩) hb]
  exact h j v hv
theorem range_own {base g n cap : Nat} {e : TypeId} {xs : List Value} (h : w.ownsRow base e 20 (.slice (some ⟨g, 0, none⟩) n cap) n xs) : w.rangeAt g 0 xs := fun j v hv => by
  have := h.cells (g := g) rfl j v hv
  rwa [Addr.add_mid] at this

/-- The address A leads to the ids L, in a block below B (nothing is asked of an empty list). -/
def IAt (w : World) (B : Nat) (A : Option Addr) (L : List IDv) : Prop :=
  L = [] ∨ ∃ g off, A = some ⟨g, off, none⟩ ∧ g < B ∧ w.rangeAt g off (flatI L)
variable {B B' : Nat} {A : Option Addr} {L : List IDv}
theorem IAt.nil_ : IAt w B A [] := .inl rfl
theorem IAt.none_ (h : IAt w B none L) : L = [] := by
  rcases h with h | ⟨g, off, h, _⟩
  · exact h
  · cases h
theorem IAt.some_ (h : IAt w B A L) (hL : 0 < L.length) : ∃ g off, A = some ⟨g, off, none⟩ ∧ g < B ∧ w.rangeAt g off (flatI L) := by
  rcases h with rfl | h
  · simp at hL
  · exact h
theorem IAt.more (h : IAt w B A L) (hB : B ≤ B') : IAt w B' A L := by
  rcases h with rfl | ⟨g, off, rfl, hg, hc⟩
  · exact .inl rfl
  · exact .inr ⟨g, off, rfl, by omega, hc⟩
theorem IAt.below (h : IAt w B A L) (hb : Below B w w') : IAt w' B A L := by
  rcases h with rfl | ⟨g, off, rfl, hg, hc⟩
  · exact .inl rfl
  · exact .inr ⟨g, off, rfl, hg, range_keep hc (hb.block g hg)⟩
theorem IAt.of_own {base n c : Nat} {e : TypeId} (h : w.ownsRow base e 20 (.slice A n c) n (flatI L)) : IAt w w.heap.size A L := by
  have hl := h.1
  rw [flatI_length] at hl
  rcases h.2 with ⟨hv, hn⟩ | ⟨g, cap, cur, hv, hb, hg, _⟩
  · left
    exact List.eq_nil_of_length_eq_zero (by omega)
  · right
    simp only [Value.slice.injEq, true_and] at hv
    obtain ⟨rfl, rfl⟩ := hv
    exact ⟨g, 0, rfl, (Array.getElem?_eq_some_iff.1 hg).1, range_own h⟩
/-- What stands at A is a source for append. -/
theorem IAt.src {t e' : TypeId} (hk : Try.prog.underlying t = some (.slice e')) (h : IAt w B A L) (c : Nat) : Src Try.prog 20 t (.slice A L.length c) L.length (flatI L) w := by
  cases A with
  | none =>
    have := h.none_
    subst this
    exact Src.ofNil w hk c
  | some a =>
    refine Src.ofSlice w hk a L.length c (flatI L) (flatI_length L) (fun j u hu => ?_) (flatI_one L)
    rcases h with rfl | ⟨g, off, ha, hg, hc⟩
    · cases hu
    · injection ha with ha
      subst ha
      rw [Addr.add_mid]
      exact hc j u hu
theorem IAt.cells (h : IAt w B A L) (hL : 0 < L.length) : ∃ g off, A = some ⟨g, off, none⟩ ∧ g < B ∧ ∀ j u, (flatI L)[j]? = some u → w.cell? ⟨g, off + j, none⟩ = some u := h.some_ hL
end

/-- append onto a row of the call's own, from whatever source; elements of k cells. -/
theorem run_append_srcK {P : Program} (w : World) (base : Nat) (t tx ty e : TypeId) (i : TypeInfo) (z : Value) (k bytes : Nat) (ht : P.underlying t = some (.slice e)) (hi : P.info? e = some i) (hz : i.zero = some z)
    (hsize : i.size = k) (hby : i.bytes = bytes) (hzs : z.cells.size = k)
    (v : Value) (n : Nat) (xs : List Value) (hown : w.ownsRow base e k v n xs)
    (x : Value) (m : Nat) (news : List Value) (hs : Src P k tx x m news w)
    (h63 : n + m ≤ maxLen) (hbytes : (n + m) * bytes ≤ 140737488355328) (hbase : base ≤ w.heap.size) :
    ∃ v' w', (Builtin.append_ #[t, tx] ty #[v, x]).run P w = .ok v' w' ∧ w'.ownsRow base e k v' (n + m) (xs ++ news) ∧ w.grownBy w' v.ownBlock ∧
      (v'.ownBlock = v.ownBlock ∨ v'.ownBlock = some w.heap.size) := by
  subst hby
  have hl : news.length = m * k := hs.newsLen
  have hxl : xs.length = n * k := hown.1
  have hlen : (xs ++ news).length = (n + m) * k := by rw [List.length_append, hxl, hl, Nat.add_mul]
  have hs' : Src P i.size tx x m news w := by rw [hsize]; exact hs
  have grown : ∀ (old : Nat), old < n + m → ∀ (row : Option Nat),
      (w.drew.alloc (.cells ((xs ++ news).toArray ++ Builtin.zeroCells z.cells (grownCap w (n + m) old e - (n + m))) e)).ownsRow base e k
        (.slice (some ⟨w.heap.size, 0, none⟩) (n + m) (grownCap w (n + m) old e)) (n + m) (xs ++ news) ∧
      w.grownBy (w.drew.alloc (.cells ((xs ++ news).toArray ++ Builtin.zeroCells z.cells (grownCap w (n + m) old e - (n + m))) e)) row := by
    intro old ho row
    have hge := grownCap_ge w (n + m) old e
    have hcm : grownCap w (n + m) old e ≤ maxLen := grownCap_le_maxLen w (n + m) old e h63
    refine ⟨⟨hlen, .inr ⟨w.heap.size, _, _, rfl, hbase, heap_alloc_new w.drew _, hge, hcm, ?_, ?_⟩⟩, ⟨rfl, rfl, rfl, by simp, fun k hk _ => Below.heap_alloc w.drew _ k hk⟩⟩
    · simp only [Array.size_append, List.size_toArray, size_zeroCells, hzs, hlen, ← Nat.add_mul]
      congr 1
      omega
    · simp only [Array.toList_append]
      rw [← hlen]
      exact List.take_left
  rcases hown.2 with ⟨rfl, rfl⟩ | ⟨g, cap, cur, rfl, hbg, hg, hnc, hcm, hcs, htake⟩
  · have hx : xs = [] := List.eq_nil_of_length_eq_zero (by simpa using hxl)
    subst hx
    by_cases hm : m = 0
    · subst hm
      have hn : news = [] := List.eq_nil_of_length_eq_zero (by simpa using hl)
      subst hn
      refine ⟨.slice none 0 0, w, ?_, World.ownsRow_nil w base e k, ⟨rfl, rfl, rfl, Nat.le_refl _, fun _ _ _ => rfl⟩, Or.inl rfl⟩
      have hcl := hs'.cells
      rcases hs.kind with ⟨e', hk⟩ | hk <;> simp [Builtin.append_, run_underlying ht, run_underlying hk, sizeOf, typeInfo, hi, hs.len, hcl]
    · have hold : (Builtin.firstCells i.size 0 (.slice none 0 0)).run P w.drew = .ok ([] : List Value).toArray w.drew := run_firstCells_none w.drew i.size 0 0 0
      have hr := run_append_grow_src (P := P) w t tx ty e i z ht hi hz none 0 0 [] hold x m news hs' (by omega) (by simp only [maxLen] at h63; omega) (growslice_fits (by omega) hbytes)
      have hgr := grown 0 (by omega) (Value.ownBlock (.slice none 0 0))
      exact ⟨_, _, hr, hgr.1, hgr.2, Or.inr rfl⟩
  · by_cases hroom : n + m ≤ cap
    · have hfit : n * i.size + news.length ≤ cur.size := by rw [hl, hcs, hsize, ← Nat.add_mul]; exact Nat.mul_le_mul_right _ hroom
      have hst := run_storeCells_at P g (n * i.size) e news 0 cur w hg (by simpa using hfit) hs.one
      have hr : (Builtin.append_ #[t, tx] ty #[.slice (some ⟨g, 0, none⟩) n cap, x]).run P w =
          .ok (.slice (some ⟨g, 0, none⟩) (n + m) cap) (w.setRow g (cur.toList.take (n * i.size) ++ news ++ cur.toList.drop (n * i.size + news.length)).toArray) := by
        simp only [Nat.add_zero] at hst
        rcases hs.kind with ⟨e', hk⟩ | hk <;> simp [Builtin.append_, run_underlying ht, run_underlying hk, sizeOf, typeInfo, hi, hs.len, hroom, hs'.cells, Addr.add_lit, hst]
      rw [hsize] at hr hfit
      refine ⟨_, _, hr, ⟨hlen, .inr ⟨g, cap, _, rfl, hbg, setRow_heap w g cur _ e _ hg, hroom, hcm, ?_, ?_⟩⟩, ⟨rfl, rfl, rfl, by simp, fun k _ hk => setRow_other w g k _ (fun e => hk (by simp [Value.ownBlock, e]))⟩, Or.inl rfl⟩
      · simp only [List.size_toArray, List.length_append, List.length_take, List.length_drop, Array.length_toList]
        omega
      · rw [htake, ← hlen]
        exact List.take_left
    · have holds : (Builtin.firstCells i.size n (.slice (some ⟨g, 0, none⟩) n cap)).run P w.drew = .ok xs.toArray w.drew :=
        run_firstCells_some w.drew i.size n ⟨g, 0, none⟩ n cap xs (by rw [hsize]; exact hown.1) (hown.cells (g := g) rfl)
      have hr := run_append_grow_src (P := P) w t tx ty e i z ht hi hz (some ⟨g, 0, none⟩) n cap xs holds x m news hs' (by omega) (by simp only [maxLen] at h63; omega) (growslice_fits (by omega) hbytes)
      have hgr := grown cap (by omega) (Value.ownBlock (.slice (some ⟨g, 0, none⟩) n cap))
      exact ⟨_, _, hr, hgr.1, hgr.2, Or.inr rfl⟩
end Go.Proofs.Ytcoiaddjfeaciaa
end
section
namespace Go.Proofs.Ytcoiaddjfeaciaa
set_option maxRecDepth 100000
open Go.RowKit Go.Lib

theorem info42 : ∃ i0, Try.prog.info? 42 = some i0 ∧ i0.zero = some (.agg (bcells (List.replicate 20 0)).toArray) ∧ i0.size = 20 ∧ i0.bytes = 20 := by
  have h : (Try.prog.info? 42).map (fun i => (i.zero, i.size, i.bytes)) = some (some (.agg (bcells (List.replicate 20 0)).toArray), 20, 20) := by kernel_rfl
  cases hi : Try.prog.info? 42 with
  | none => rw [hi] at h; cases h
  | some i =>
    rw [hi] at h
    simp only [Option.map_some, Option.some.injEq, Prod.mk.injEq] at h
    exact ⟨i, rfl, h.1, h.2.1, h.2.2⟩
theorem und62 : Try.prog.underlying 62 = some (.slice 26) := by kernel_rfl
theorem und64 : Try.prog.underlying 64 = some (.slice 42) := by kernel_rfl
theorem zcells : (Value.agg (bcells (List.replicate 20 0)).toArray).cells.size = 20 := by simp [Value.cells, bcells]

/-- A slice type of ids, and its element. -/
inductive IdT : TypeId → TypeId → Prop
  | doc : IdT 64 42
  | api : IdT 62 26
theorem IdT.und {t e : TypeId} (h : IdT t e) : Try.prog.underlying t = some (.slice e) := by
  cases h
  · exact und64
  · exact und62
theorem IdT.info {t e : TypeId} (h : IdT t e) : ∃ i0, Try.prog.info? e = some i0 ∧ i0.zero = some (.agg (bcells (List.replicate 20 0)).toArray) ∧ i0.size = 20 ∧ i0.bytes = 20 := by
  cases h
  · exact info42
  · exact info26

theorem append_ids {t e : TypeId} (hT : IdT t e) (ty : TypeId) (w : World) (base : Nat) (v : Value) (n : Nat) (L : List IDv) (hown : w.ownsRow base e 20 v n (flatI L))
    (x : Value) (m : Nat) (M : List IDv) (hs : Src Try.prog 20 t x m (flatI M) w) (h63 : n + m ≤ 100000) (hbase : base ≤ w.heap.size) :
    ∃ v' w', (Builtin.append_ #[t, t] ty #[v, x]).run Try.prog w = .ok v' w' ∧ w'.ownsRow base e 20 v' (n + m) (flatI (L ++ M)) ∧ w.grownBy w' v.ownBlock ∧
      (v'.ownBlock = v.ownBlock ∨ v'.ownBlock = some w.heap.size) := by
  obtain ⟨i0, hi, hz0, hz1, hz2⟩ := hT.info
  rw [flatI_append]
  exact run_append_srcK w base t t ty e i0 _ 20 20 hT.und hi hz0 hz1 hz2 zcells v n _ hown x m _ hs (by simp only [maxLen]; omega) (by omega) hbase

theorem wp_append_ids {t e : TypeId} (hT : IdT t e) (w : World) {o : Oper} {a : Act} {K : Act → World → Prop} {Q : Exit → Act → World → Prop} (s x : Operand)
    (ho : o.op = .call { callee := .builtin .append, args := #[s, x], argTypes := #[t, t] })
    (base : Nat) (v : Value) (n : Nat) (L : List IDv) (hs : a.eval s = v) (hown : w.ownsRow base e 20 v n (flatI L))
    (y : Value) (m : Nat) (M : List IDv) (hx : a.eval x = y) (hr : Src Try.prog 20 t y m (flatI M) w) (h63 : n + m ≤ 100000) (hbase : base ≤ w.heap.size)
    (h : ∀ v' w', w'.ownsRow base e 20 v' (n + m) (flatI (L ++ M)) → w.grownBy w' v.ownBlock → (v'.ownBlock = v.ownBlock ∨ v'.ownBlock = some w.heap.size) → K (a.put o.dst v') w') : o.wp Try.prog a w K Q := by
  obtain ⟨v', w', hrun, h2, h3, h4⟩ := append_ids hT o.type w base v n L hown y m M hr h63 hbase
  unfold Oper.wp execOp
  simp only [ho, resolve, invoke, builtin, Sem.run_bind, Sem.run_pure, Result.andThen_ok, List.map_toArray, List.map_cons, List.map_nil, hs, hx, hrun]
  exact h v' w' h2 h3 h4
theorem wpList_append_ids {t e : TypeId} (hT : IdT t e) (w : World) {ops : Array Oper} {rest : List Oper} {o : Oper} {a : Act} {Q : Exit → Act → World → Prop} (hgd : o.guard = none) (s x : Operand)
    (ho : o.op = .call { callee := .builtin .append, args := #[s, x], argTypes := #[t, t] })
    (base : Nat) (v : Value) (n : Nat) (L : List IDv) (hs : a.eval s = v) (hown : w.ownsRow base e 20 v n (flatI L))
    (y : Value) (m : Nat) (M : List IDv) (hx : a.eval x = y) (hr : Src Try.prog 20 t y m (flatI M) w) (h63 : n + m ≤ 100000) (hbase : base ≤ w.heap.size)
    (h : ∀ v' w', w'.ownsRow base e 20 v' (n + m) (flatI (L ++ M)) → w.grownBy w' v.ownBlock → (v'.ownBlock = v.ownBlock ∨ v'.ownBlock = some w.heap.size) → wpList Try.prog ops Q rest (a.put o.dst v') w') : wpList Try.prog ops Q (o :: rest) a w :=
  wpList_plain hgd fun _ hK => wp_append_ids hT w s x ho base v n L hs hown y m M hx hr h63 hbase fun v' w' h2 h3 h4 => hK _ _ (h v' w' h2 h3 h4)

theorem fold_set (k : Nat) (l : List Value) (n : Nat) (A : Array Value) (h : n + l.length ≤ A.size) :
    ((l.zipIdx n).foldl (fun (cs : Array Value) (p : Value × Nat) => cs.setIfInBounds (0 * k + p.2) p.1) A).toList = A.toList.take n ++ l ++ A.toList.drop (n + l.length) := by
  induction l generalizing n A with
  | nil => simp
  | cons c l ih =>
    rw [List.zipIdx_cons, List.foldl_cons, ih]
    · simp only [Nat.zero_mul, Nat.zero_add, Array.toList_setIfInBounds, List.length_cons]
      simp only [List.length_cons] at h
      apply List.ext_getElem?
      intro j
      simp only [List.append_assoc]
      by_cases h1 : j < n
      · rw [List.getElem?_append_left (by simp; omega), List.getElem?_append_left (by simp; omega)]
        simp [List.getElem?_take, h1, show j < n + 1 by omega, List.getElem?_set, show n ≠ j by omega]
      · by_cases h2 : j = n
        · subst h2
          rw [List.getElem?_append_left (by simp; omega), List.getElem?_append_right (by simp; omega)]
          simp [List.getElem?_take, List.getElem?_set, show min j A.size = j by omega, show j < A.size by omega]
        · obtain ⟨q, rfl⟩ : ∃ q, j = n + 1 + q := ⟨j - (n + 1), by omega⟩
          have hm1 : min (n + 1) A.size = n + 1 := by omega
          have hm2 : min n A.size = n := by omega
          rw [List.getElem?_append_right (by rw [List.length_take, List.length_set, Array.length_toList, hm1]; omega), List.getElem?_append_right (l₁ := List.take n A.toList) (by rw [List.length_take, Array.length_toList, hm2]; omega)]
          simp only [List.length_take, List.length_set, Array.length_toList, hm1, hm2]
          rw [show n + 1 + q - (n + 1) = q by omega, show n + 1 + q - n = q + 1 by omega, List.cons_append, List.getElem?_cons_succ]
          by_cases h3 : q < l.length
          · rw [List.getElem?_append_left h3, List.getElem?_append_left h3]
          · rw [List.getElem?_append_right (by omega), List.getElem?_append_right (by omega), List.getElem?_drop, List.getElem?_drop, List.getElem?_set_ne (by omega)]
            congr 1
            omega
    · simp only [List.length_cons] at h
      simp only [Array.size_setIfInBounds]
      omega

/-- A new row of one id. -/
theorem run_build_one {t e : TypeId} (hT : IdT t e) (x : IDv) (w : World) : (Instr.buildSlice t 1 #[(0, .agg (encID x).toArray)]).run Try.prog w = .ok (.slice (some ⟨w.heap.size, 0, none⟩) 1 1) (w.alloc (.cells (encID x).toArray e)) := by
  obtain ⟨i0, hi, hz0, hz1, hz2⟩ := hT.info
  obtain ⟨Z, hZ⟩ : ∃ Z, Z = (bcells (List.replicate 20 0)).toArray := ⟨_, rfl⟩
  rw [← hZ] at hz0
  clear hZ
  have hf := fold_set 20 (encID x) 0 ((Array.range 20).map (Z[· % Z.size]!)) (by rw [encID_length]; simp)
  have hl := encID_length x
  have hA : (List.foldl (fun (cs : Array Value) (p : Value × Nat) => cs.setIfInBounds (0 * 20 + p.2) p.1) ((Array.range 20).map (Z[· % Z.size]!)) (encID x).zipIdx) = (encID x).toArray := by
    apply Array.ext'
    rw [hf]
    simp only [List.take_zero, List.nil_append, Nat.zero_add, hl]
    rw [List.drop_eq_nil_of_le (by simp)]
    simp
  simp only [Nat.zero_mul, Nat.zero_add] at hA
  generalize encID x = cs at hA hl ⊢
  simp [Instr.buildSlice, run_underlying hT.und, sizeOf, typeInfo, zeroValue, hi, hz0, hz1, Value.cells, Instr.fill, hl, newRow]
  rw [hA]
/-- A new row of none. -/
theorem run_build_none {t e : TypeId} (hT : IdT t e) (w : World) : (Instr.buildSlice t 0 #[]).run Try.prog w = .ok (.slice (some ⟨w.heap.size, 0, none⟩) 0 0) (w.alloc (.cells #[] e)) := by
  obtain ⟨i0, hi, hz0, hz1, hz2⟩ := hT.info
  simp [Instr.buildSlice, run_underlying hT.und, sizeOf, typeInfo, hi, hz1, Instr.fill, newRow]
  congr 2
  exact Array.eq_empty_of_size_eq_zero (by simp)
theorem own_none {t e : TypeId} (_ : IdT t e) (w : World) (base : Nat) (hb : base ≤ w.heap.size) : (w.alloc (.cells #[] e)).ownsRow base e 20 (.slice (some ⟨w.heap.size, 0, none⟩) 0 0) 0 (flatI []) :=
  World.ownsRow_made w #[] 0 hb (by simp [maxLen]) rfl
theorem src_new {t e : TypeId} (hT : IdT t e) (x : IDv) (w : World) : Src Try.prog 20 t (.slice (some ⟨w.heap.size, 0, none⟩) 1 1) 1 (flatI [x]) (w.alloc (.cells (encID x).toArray e)) := by
  refine Src.ofSlice _ hT.und _ 1 1 (flatI [x]) (by rw [flatI_length]; rfl) (fun j u hu => ?_) (flatI_one _)
  rw [Addr.add_mid]
  rw [flatI_one'] at hu
  exact row_range (heap_alloc_new w (.cells (encID x).toArray e)) j u hu
theorem wp_build_one {t e : TypeId} (hT : IdT t e) (x : IDv) {w : World} {o : Oper} {a : Act} {K : Act → World → Prop} {Q : Exit → Act → World → Prop} (y : Operand) (ho : o.op = .buildSlice t 1 #[(0, y)]) (hy : a.eval y = .agg (encID x).toArray)
    (h : K (a.put o.dst (.slice (some ⟨w.heap.size, 0, none⟩) 1 1)) (w.alloc (.cells (encID x).toArray e))) : o.wp Try.prog a w K Q := by
  unfold Oper.wp execOp
  simp only [ho, List.map_toArray, List.map_cons, List.map_nil, hy, Sem.run_bind, run_build_one hT, Result.andThen_ok, Sem.run_pure]
  exact h
theorem wpList_build_one {t e : TypeId} (hT : IdT t e) (x : IDv) {w : World} {ops : Array Oper} {rest : List Oper} {o : Oper} {a : Act} {Q : Exit → Act → World → Prop} (hgd : o.guard = none) (y : Operand) (ho : o.op = .buildSlice t 1 #[(0, y)]) (hy : a.eval y = .agg (encID x).toArray)
    (h : wpList Try.prog ops Q rest (a.put o.dst (.slice (some ⟨w.heap.size, 0, none⟩) 1 1)) (w.alloc (.cells (encID x).toArray e))) : wpList Try.prog ops Q (o :: rest) a w :=
  wpList_plain hgd fun _ hK => wp_build_one hT x y ho hy (hK _ _ h)

/-- clear of ids. -/
theorem run_clear_ids (w : World) (ty : TypeId) (b o n c : Nat) (ht : w.there b o (n * 20)) :
    ∃ vs : List Value, vs.length = n * 20 ∧ (Builtin.clear_ #[62] ty #[.slice (some ⟨b, o, none⟩) n c]).run Try.prog w = .ok (.tuple #[]) (w.setCells b o vs) := by
  obtain ⟨Z, hZ⟩ : ∃ Z, Z = (bcells (List.replicate 20 0)).toArray := ⟨_, rfl⟩
  have hz := fun W => zero26 W
  rw [← hZ] at hz
  have hZs : Z.size = 20 := by rw [hZ]; simp [bcells]
  have hZ1 : ∀ v ∈ Z, v.oneCell' = true := by
    rw [hZ]
    intro v hv
    exact bcells_one _ v (by simpa using hv)
  clear hZ
  have hl : (Builtin.zeroCells Z n).toList.length = n * 20 := by rw [Array.length_toList, size_zeroCells, hZs]
  refine ⟨(Builtin.zeroCells Z n).toList, hl, ?_⟩
  have h1 : ∀ v ∈ (Builtin.zeroCells Z n).toList, v.oneCell' = true := by
    intro v hv
    rw [Array.mem_toList_iff] at hv
    unfold Builtin.zeroCells at hv
    obtain ⟨j, _, rfl⟩ := Array.mem_map.1 hv
    have hj : j % Z.size < Z.size := Nat.mod_lt _ (by omega)
    rw [getElem!_pos Z (j % Z.size) hj]
    exact hZ1 _ (Array.getElem_mem hj)
  have hst := run_storeCells_cells (P := Try.prog) b o (Builtin.zeroCells Z n).toList 0 w (fun j hj => by simpa using (ht j (by omega)).1) (fun j hj => by simpa using (ht j (by omega)).2) h1
  simp only [Nat.add_zero] at hst
  cases n with
  | zero =>
    have : (Builtin.zeroCells Z 0).toList = [] := List.eq_nil_of_length_eq_zero (by simpa using hl)
    rw [this]
    simp [Builtin.clear_, run_underlying und62, World.setCells]
  | succ m => simp [Builtin.clear_, run_underlying und62, hz, Value.cells, hst]
end Go.Proofs.Ytcoiaddjfeaciaa
end
