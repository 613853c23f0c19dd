/- The statements' own table: Find, Cancel. Condition: a list of its own. -/
import Derived.Test.YtkebgcalphajhaaTca
import Derived.Test.YtkebgcalphajhaaRam
namespace Go.Proofs.Ytkebgcalphajhaa
open Go.RowKit Go.Lib
set_option maxRecDepth 100000
set_option maxHeartbeats 400000
theorem rowR : RowT 26 35 2 := by
  obtain ⟨i, hi, h1, h2, h3⟩ := info_parts (P := Try.prog) (e := 35) (z := .agg #[Value.int .i64 0, .int .u64 0]) (size := 2) (bytes := 16) (by kernel_rfl)
  exact ⟨by kernel_rfl, ⟨i, _, hi, h1, h2, by omega, rfl, fun u hu => by
    have hu : u ∈ [Value.int .i64 0, Value.int .u64 0] := hu
    simp only [List.mem_cons, List.not_mem_nil, or_false] at hu
    rcases hu with rfl | rfl <;> rfl⟩, by omega⟩
/-- A list of the statements' own. -/
def RefAt (w : World) (u : Value) (L : List (Int × Nat)) : Prop := RowAt w 35 2 u L.length (flatT L)
theorem RefAt.cells {w : World} {b off c n : Nat} {L : List (Int × Nat)} (h : RefAt w (.slice (some ⟨b, off, none⟩) n c) L) (hn : n = L.length) (i : Nat) (hi : i < L.length) : w.cell? ⟨b, off + i * 2, none⟩ = some (.int .i64 L[i]!.1) ∧ w.cell? ⟨b, off + i * 2 + 1, none⟩ = some (.int .u64 (L[i]!.2 : Int)) := by
  subst hn
  obtain ⟨f1, f2⟩ := flatT_at L i hi
  refine ⟨RowAt.cell h _ _ f1, ?_⟩
  rw [Nat.add_assoc]
  exact RowAt.cell h _ _ f2
theorem take_snoc (L : List (Int × Nat)) (i : Nat) (h : i < L.length) : L.take (i + 1) = L.take i ++ [L[i]!] := by
  rw [List.take_add_one, List.getElem?_eq_getElem h, getElem!_pos L i h]
  rfl
theorem find_any (u : Value) (L : List (Int × Nat)) (k : Int) (w : World) (h : RefAt w u L) : Calls Try.prog 11 #[u, .int .i64 k] w fun e w' => e = .returned (.int .i64 (plT L k)) ∧ w' = w := by
  have hmax : L.length ≤ 9223372036854775807 := Nat.le_trans (row_max h) (by decide)
  have R0 : Hid (PlRel w k L (.int .i64 0) w) := Lib.hid ⟨0, rfl, Nat.zero_le _, rfl, rfl⟩
  obtain ⟨A, c, rfl, hn⟩ := RowAt.form h
  go_enter Try.func11, Try.ntmps11
  go_wp2_with (first | fail)
  go_loopw [5] (PlRel w k L) (fun i _ => L.length - (RowKit.intOf i).toNat)
  case atStart => exact R0.out
  case round =>
    obtain ⟨i, rfl, hi, rfl, hP⟩ := hrel
    by_cases hlt : i < L.length
    · have hlt' : (i : Int) < (L.length : Int) := by omega
      obtain ⟨b, off, cc, e0, hnn⟩ := RowAt.filled h (by omega)
      injection e0 with e1 _ e2
      subst e1 e2
      obtain ⟨q1, _⟩ := RefAt.cells h rfl i hlt
      by_cases hk : L[i]!.1 = k
      · have HP := Lib.hid (plT_at L k i hlt hP hk)
        rw [hk] at q1
        clear h R0
        generalize L.length = n at *
        go_wp2_with (first | fail)
        go_ret
        rw [HP.out]
        exact ⟨rfl, rfl⟩
      · have hk' := hk
        have HREL : Hid (PlRel wr k L (.int .i64 ((i : Int) + 1)) wr) := Lib.hid ⟨i + 1, by go_num, by omega, rfl, by
          rw [take_snoc L i hlt, hasT_snoc, hP, decide_eq_false hk]
          rfl⟩
        have hwr : IntKind.i64.wrap ((i : Int) + 1) = (i : Int) + 1 := by rw [IntKind.wrap_i64]; omega
        clear h R0
        generalize L[i]!.1 = x at *
        generalize L.length = n at *
        go_wp2_with (first | fail)
        go_roundw
        case rel => exact HREL.out
        case measure => simp [RowKit.intOf]; omega
    · obtain rfl : i = L.length := by omega
      have hlt' : ¬ (L.length : Int) < (L.length : Int) := by omega
      have HP : Hid (plT L k = -1) := Lib.hid (by
        rw [List.take_of_length_le (Nat.le_refl _)] at hP
        unfold plT
        rw [if_neg (by rw [hP]; simp)])
      clear h R0
      generalize L.length = n at *
      go_wp2_with (first | fail)
      go_ret
      rw [HP.out]
      exact ⟨rfl, rfl⟩
/-- A list that grows, behind what was there. -/
def GroT (w : World) (M : List (Int × Nat)) (u : Value) (wr : World) : Prop := Below w.heap.size w wr ∧ RefAt wr u M ∧ FromB w.heap.size u
theorem GroT.nil (w : World) : GroT w [] (.slice none 0 0) w := ⟨Below.refl _ _, RowAt.nil _ 35 2, fun k hk => by cases hk⟩
theorem GroT.push {w wr w5 : World} {M : List (Int × Nat)} {u v5 : Value} {x : Int × Nat} {X : Go.Obj} (h : GroT w M u wr) (hr : RowAt w5 35 2 v5 (M.length + 1) (flatT M ++ encT x)) (hf : FreshV (wr.alloc X) u v5) (hg : (wr.alloc X).grownBy w5 u.ownBlock) : GroT w (M ++ [x]) v5 w5 := by
  have hb := h.1.alloc h.1.size X
  obtain ⟨h1, h2⟩ := FromB.grown h.2.2 hb hb.size hg hf
  refine ⟨h1, ?_, h2⟩
  have e1 : flatT (M ++ [x]) = flatT M ++ encT x := by rw [flatT_append, flatT_cons]; simp [flatT]
  unfold RefAt
  rw [e1, List.length_append]
  exact hr
def CutRel (w : World) (k : Int) (L : List (Int × Nat)) (nl ni : Value) (wr : World) : Prop := ∃ i : Nat, ni = .int .i64 (i : Int) ∧ i ≤ L.length ∧ GroT w (cutT (L.take i) k) nl wr
theorem cut_snoc (P : List (Int × Nat)) (x : Int × Nat) (k : Int) : cutT (P ++ [x]) k = if x.1 = k then cutT P k else cutT P k ++ [x] := by
  unfold cutT
  rw [List.filter_append]
  by_cases h : x.1 = k
  · simp [h]
  · simp [h]
theorem rcut_any (u : Value) (L : List (Int × Nat)) (k : Int) (w : World) (h : RefAt w u L) (hl : L.length ≤ 100000) : Calls Try.prog 12 #[u, .int .i64 k] w fun e w' => ∃ v, e = .returned v ∧ GroT w (cutT L k) v w' := by
  have R0 : Hid (CutRel w k L (.slice none 0 0) (.int .i64 0) w) := Lib.hid ⟨0, rfl, Nat.zero_le _, GroT.nil w⟩
  obtain ⟨A, c, rfl, hn⟩ := RowAt.form h
  have H := Lib.hid h
  clear h
  go_enter Try.func12, Try.ntmps12
  go_wp2_with (first | fail)
  go_loopw [5, 6] (CutRel w k L) (fun _ i _ => L.length - (RowKit.intOf i).toNat)
  case atStart => exact R0.out
  case round =>
    obtain ⟨i, rfl, hi, hG⟩ := hrel
    clear R0
    by_cases hlt : i < L.length
    · have hlt' : (i : Int) < (L.length : Int) := by omega
      obtain ⟨b, off, cc, e0, hnn⟩ := RowAt.filled H.out (by omega)
      injection e0 with e1 _ e2
      subst e1 e2
      obtain ⟨q1, q2⟩ := RefAt.cells (RowAt.bel H.out hG.1) rfl i hlt
      have hcs := cut_snoc (L.take i) L[i]! k
      rw [← take_snoc L i hlt] at hcs
      by_cases hk : L[i]!.1 = k
      · rw [if_pos hk] at hcs
        rw [hk] at q1
        have HREL : Hid (CutRel w k L u5 (.int .i64 ((i : Int) + 1)) wr) := Lib.hid ⟨i + 1, by go_num, by omega, by rw [hcs]; exact hG⟩
        clear H hG hcs
        generalize L.length = n at *
        go_wp2_with (first | fail)
        go_roundw
        case rel => exact HREL.out
        case measure => simp [RowKit.intOf]; omega
      · rw [if_neg hk] at hcs
        have hk' := hk
        have HG := Lib.hid hG
        have hM : (cutT (L.take i) k).length ≤ i := by have := List.length_filter_le (fun s : Int × Nat => decide (s.1 ≠ k)) (L.take i); rw [List.length_take] at this; unfold cutT; omega
        have HREL : Hid (∀ v5 w5, RowAt w5 35 2 v5 ((cutT (L.take i) k).length + 1) (flatT (cutT (L.take i) k) ++ encT L[i]!) → FreshV (wr.alloc (.cells #[.int .i64 L[i]!.1, .int .u64 (L[i]!.2 : Int)] 35)) u5 v5 → (wr.alloc (.cells #[.int .i64 L[i]!.1, .int .u64 (L[i]!.2 : Int)] 35)).grownBy w5 u5.ownBlock → CutRel w k L v5 (.int .i64 ((i : Int) + 1)) w5) := Lib.hid (fun v5 w5 h1 h2 h3 => ⟨i + 1, by go_num, by omega, by rw [hcs]; exact hG.push h1 h2 h3⟩)
        have HR : Hid (RowAt (wr.alloc (.cells #[.int .i64 L[i]!.1, .int .u64 (L[i]!.2 : Int)] 35)) 35 2 u5 (cutT (L.take i) k).length (flatT (cutT (L.take i) k))) := Lib.hid (RowAt.bel hG.2.1 ((Below.refl _ wr).alloc (Nat.le_refl _) _))
        have HS : Hid (Src Try.prog 2 26 (.slice (some ⟨wr.heap.size, 0, none⟩) 1 1) 1 (encT L[i]!) (wr.alloc (.cells #[.int .i64 L[i]!.1, .int .u64 (L[i]!.2 : Int)] 35))) := Lib.hid (src_new rowR wr 1 _ rfl (fun u hu => by
          simp only [encT, List.mem_cons, List.not_mem_nil, or_false] at hu
          rcases hu with rfl | rfl <;> rfl) 35 _ rfl)
        have HL : Hid ((cutT (L.take i) k).length + 1 ≤ 100000000) := Lib.hid (by omega)
        clear H hG hcs hM
        generalize (cutT (L.take i) k).length = m at *
        generalize flatT (cutT (L.take i) k) = xs at *
        generalize encT L[i]! = ys at *
        generalize L[i]!.1 = y1 at *
        generalize L[i]!.2 = y2 at *
        generalize L.length = n at *
        go_wp2_with (first
          | ((with_reducible refine wpList_append_row rowR (o := ⟨some 26, _, _, _, _, _⟩) rfl (.tmp 20) (.tmp 25) rfl _ m xs ?_ HR.out _ 1 ys ?_ HS.out HL.out ?_); rfl; rfl; intro v5 w5 hr5 hf5 hg5))
        go_roundw
        case rel => exact HREL.out _ _ hr5 hf5 hg5
        case measure => simp [RowKit.intOf]; omega
    · obtain rfl : i = L.length := by omega
      have hlt' : ¬ (L.length : Int) < (L.length : Int) := by omega
      rw [List.take_of_length_le (Nat.le_refl _)] at hG
      have HG := Lib.hid hG
      clear H hG
      generalize L.length = n at *
      go_wp2_with (first | fail)
      go_ret
      exact ⟨_, rfl, HG.out⟩
end Go.Proofs.Ytkebgcalphajhaa
