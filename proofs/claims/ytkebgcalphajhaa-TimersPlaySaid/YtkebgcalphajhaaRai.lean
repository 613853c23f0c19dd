/- slices.Clone at numbers, and All of the package ring: what it yields. Conditions: the queue is made. -/
import Derived.Test.YtkebgcalphajhaaRah
namespace Go.Proofs.Ytkebgcalphajhaa
open Go.RowKit Go.Lib Go.Shelf
set_option maxRecDepth 100000
set_option maxHeartbeats 400000
/-- A row of one's own, new in w1. -/
def NewRow (w1 : World) (e k : Nat) (n : Nat) (xs : List Value) (w' : World) (v : Value) : Prop := RowAt w' e k v n xs ∧ Below w1.heap.size w1 w' ∧ ∀ b, v.ownBlock = some b → w1.heap.size ≤ b
theorem iclone_any (v : Value) (L : List Int) (w : World) (hl : L.length ≤ 70000) (h : RowAt w 3 1 v L.length (intsV L)) : Calls Try.prog 67 #[v] w fun e w' => ∃ v', e = .returned v' ∧ NewRow w 3 1 L.length (intsV L) w' v' := by
  have HE0 : Below w.heap.size w (w.alloc (.cells #[] 3)) := (Below.refl _ w).alloc (Nat.le_refl _) _
  have HR0 := Lib.hid (row_new w 3 1 0 [] rfl (by omega) #[] rfl)
  have HS := Lib.hid ((h.bel HE0).src rowInt (intsV_one L))
  have HB := Lib.hid HE0
  have HL : Hid (0 + L.length ≤ 100000000) := Lib.hid (by omega)
  rcases id h.2 with ⟨rfl, h0⟩ | ⟨g, off, cap, cur, rfl, _⟩
  · have H := Lib.hid h
    rw [h0] at *
    have he : (binOp .eql 39 (.slice none 0 0) (.slice none 0 0)).run Try.prog w = .ok (.bool true) w := by kernel_rfl
    clear h HS
    go_enter Try.func67, Try.ntmps67
    go_wp2
    go_ret
    exact ⟨_, rfl, H.out, Below.refl _ _, fun b hb => by cases hb⟩
  · have he : (binOp .eql 39 (.slice (some ⟨g, off, none⟩) L.length cap) (.slice none 0 0)).run Try.prog w = .ok (.bool false) w := by kernel_rfl
    clear h
    generalize hn : L.length = n at *
    go_enter Try.func67, Try.ntmps67
    go_wp2_with (first
      | ((with_reducible refine wpList_append_row rowInt (o := ⟨some 7, _, _, _, _, _⟩) rfl (.tmp 5) (.tmp 6) rfl _ 0 [] ?_ HR0.out _ n (intsV L) ?_ HS.out HL.out ?_); rfl; rfl; intro v3 w3 hr3 hf3 hg3; obtain ⟨A3, c3, rfl, hn3⟩ := hr3.form))
    go_ret
    rw [Nat.zero_add, List.nil_append] at hr3
    refine ⟨_, rfl, hr3, ?_, fun b hb => ?_⟩
    · exact HB.out.grown hg3 HB.out.size (fun k hk => by cases hk; exact Nat.le_refl _)
    · rcases hf3 b (by rw [Nat.zero_add]; exact hb) with h1 | h1
      · cases h1
        exact Nat.le_refl _
      · exact Nat.le_trans HB.out.size h1
theorem und39 : Try.prog.underlying 39 = some (.slice 3) := by kernel_rfl
theorem load39 {w : World} {a : Addr} {v : Value} (h : w.cell? a = some v) : (loadVar 39 a).run Try.prog w = .ok v w := by simp [loadVar, h]
/-- What All answers: the function over a box that holds a row of its own. -/
def AllIs (w1 : World) (L : List Int) (e : Ending) (w' : World) : Prop := ∃ B v', e = .returned (.func (.func 68) #[] #[.pointer (some ⟨B, 0, none⟩)]) ∧ w1.heap.size ≤ B ∧ Boxed w' B 39 v' ∧ NewRow w1 3 1 L.length (intsV L) w' v'
theorem all_any (g most : Nat) (h0 : 0 < most) (v : Value) (L : List Int) (w : World) (h : Ring w g most v L) (hl : L.length ≤ 70000) : Calls Try.prog 49 #[.pointer (some ⟨g, 0, none⟩)] w (AllIs w L) := by
  have hb1 : Below w.heap.size w (w.alloc (.cells #[.slice none 0 0] 39)) := (Below.refl _ w).alloc (Nat.le_refl _) _
  have hbx := Boxed.new w 39 (.slice none 0 0)
  have hs1 : w.heap.size ≤ (w.alloc (.cells #[.slice none 0 0] 39)).heap.size := hb1.size
  have h1 := Obj.bel h hb1
  obtain ⟨w1, hw1⟩ : ∃ w1, w1 = w.alloc (.cells #[.slice none 0 0] 39) := ⟨_, rfl⟩
  rw [← hw1] at hb1 hbx h1 hs1
  have HW1 := Lib.hid hw1
  have HM := Lib.hid (rmade_yes g most h0 w1 (Obj.c0 h1))
  have HC := Lib.hid (iclone_any v L w1 hl h1.row)
  have q1 := Obj.c1 h1
  have HX := Lib.hid hbx
  have HB := Lib.hid hb1
  clear hw1 hb1 hbx h1 h hl
  go_enter Try.func49, Try.ntmps49
  go_wp2_with (first
    | (rw [← HW1.out])
    | (go_at_call 48; (with_reducible refine HM.out.mono ?_); rintro e w2 ⟨rfl, rfl⟩)
    | (go_at_call 67; (with_reducible refine HC.out.mono ?_); rintro e w3 ⟨v3, rfl, hr3, hb3, hf3⟩; obtain ⟨A3, c3, rfl, hn3⟩ := hr3.form; have HX3 := Lib.hid ((hb3.block _ HX.out.lt).trans HX.out); have q3 := (show Boxed _ _ _ _ from HX3.out).cell; have f3 := (show Boxed _ _ _ _ from HX3.out).frozen))
  go_ret
  have hne : ∀ b, (Value.slice A3 L.length c3).ownBlock = some b → b ≠ w.heap.size := fun b hb e => by
    have := hf3 b hb
    have := HX.out.lt
    omega
  have hb4 : Below w.heap.size w (w3.setCell ⟨w.heap.size, 0, none⟩ (.slice A3 L.length c3)) := (HB.out.trans (hb3.mono hs1)).setCell (by simp) _
  exact ⟨w.heap.size, _, rfl, Nat.le_refl _, (show Boxed _ _ _ _ from HX3.out).set _, hr3.same (fun b hb => heap_setCell_other _ _ _ _ (hne b hb)), hb4, fun b hb => Nat.le_trans hs1 (hf3 b hb)⟩
/-- The pairs that All yields. -/
def idxL (L : List Int) : List (Int × Int) := (List.range L.length).map fun i : Nat => ((i : Int), L[i]!)
theorem idxL_length (L : List Int) : (idxL L).length = L.length := by simp [idxL]
theorem idxL_next (L : List Int) (k : Nat) (hk : k < L.length) : (idxL L).take (k + 1) = (idxL L).take k ++ [((k : Int), L[k]!)] ∧ (idxL L)[k]! = ((k : Int), L[k]!) := by
  have h1 : k < (idxL L).length := by rw [idxL_length]; exact hk
  have h2 : (idxL L)[k] = ((k : Int), L[k]!) := by simp [idxL]
  constructor
  · rw [List.take_add_one, List.getElem?_eq_getElem h1, h2]
    rfl
  · rw [getElem!_pos _ k h1, h2]
def encP (p : Int × Int) : Array Value := #[.int .i64 p.1, .int .i64 p.2]
theorem all_stops (m : Nat) (hm : 2 ≤ m) (A : Option Addr) (c : Nat) (L : List Int) (B : Nat) (S : Nat → Prop) (w : World) (hL : L.length ≤ 9223372036854775807) (hS : S B)
    (hc : w.cell? ⟨B, 0, none⟩ = some (.slice A L.length c)) (hA : IntsAt w S A L) :
    SeqTo Fence.wide m Try.prog 68 #[.pointer (some ⟨B, 0, none⟩)] encP (KpS S) (idxL L) w := fun l J Jx W hW hJ hJx hY h0 => by
  have hW0 : KpS S W W := KpS.refl S W
  have hcell : W.cell? ⟨B, 0, none⟩ = some (.slice A L.length c) := (hW.cell (p := ⟨B, 0, none⟩) (World.block_lt_of_cell? w _ hc)).trans hc
  have HLD : Hid (∀ k, k < L.length → ∃ b off, A = some ⟨b, off, none⟩ ∧ ∀ W', KpS S W W' → W'.cell? ⟨b, off + k, none⟩ = some (.int .i64 L[k]!)) := Lib.hid (fun k hk => by
    rcases hA with rfl | ⟨b, off, rfl, hp, hb, hcl⟩
    · simp at hk
    · exact ⟨b, off, rfl, fun W' hW' => (World.cell?_of_block (a := ⟨b, off + k, none⟩) (hW'.2 b hp)).trans ((hW.cell (p := ⟨b, off + k, none⟩) hb).trans (hcl k hk))⟩)
  have HY := Lib.hid hY
  have HJ := Lib.hid hJ
  obtain ⟨n, hn⟩ : ∃ n, n = L.length := ⟨_, rfl⟩
  have R0 : Hid (∃ k : Nat, Value.int .i64 0 = .int .i64 (k : Int) ∧ k ≤ n ∧ J ((idxL L).take k) W ∧ KpS S W W) := Lib.hid ⟨0, rfl, by omega, by simpa using h0, hW0⟩
  have HEND : Hid (∀ W', J ((idxL L).take n) W' → J (idxL L) W') := Lib.hid (fun W' h => by rw [hn, ← idxL_length, List.take_length] at h; exact h)
  have HNX : Hid (∀ k, k < n → (idxL L).take (k + 1) = (idxL L).take k ++ [((k : Int), L[k]!)]) := Lib.hid (fun k hk => (idxL_next L k (by omega)).1)
  have HPL : Hid (∀ k, k ≤ n → ((idxL L).take k).length = k) := Lib.hid (fun k hk => by rw [List.length_take, idxL_length]; omega)
  have HPX : Hid (∀ k, (idxL L).take k <+: idxL L) := Lib.hid (fun k => List.take_prefix _ _)
  rw [← hn] at HLD hcell hL
  clear hY hJ hJx h0 hc hA hW0 hW hS
  generalize idxL L = M at *
  clear hn
  refine callsIn_of_wp Try.func68 rfl trivial ?_ rfl
  simp only [Try.ntmps68, List.size_toArray, List.length_cons, List.length_nil, Nat.reduceAdd, Nat.reduceSub, Array.replicate_succ, Array.replicate_zero, List.push_toArray, List.append_toArray, List.nil_append, List.cons_append]
  gi_wp2
  gi_loopw [7] (fun i wr => ∃ k : Nat, i = .int .i64 (k : Int) ∧ k ≤ n ∧ J (M.take k) wr ∧ KpS S W wr) (fun i _ => n - (RowKit.intOf i).toNat)
  case atStart => exact R0.out
  case round =>
    obtain ⟨k, rfl, hk, hJw, hbr⟩ := hrel
    clear R0
    by_cases hlt : k < n
    · have hlt' : (k : Int) < (n : Int) := by omega
      obtain ⟨b, off, rfl, hld⟩ := HLD.out k hlt
      have q := hld wr hbr
      have HR : Hid (∀ w1, J (M.take k ++ [((k : Int), L[k]!)]) w1 → KpS S W w1 → ∃ k' : Nat, Value.int .i64 ((k : Int) + 1) = .int .i64 (k' : Int) ∧ k' ≤ n ∧ J (M.take k') w1 ∧ KpS S W w1) := Lib.hid (fun w1 h h2 => ⟨k + 1, by simp, by omega, by rw [HNX.out k hlt]; exact h, h2⟩)
      have HP : Hid (M.take k ++ [((k : Int), L[k]!)] <+: M) := Lib.hid (by rw [← HNX.out k hlt]; exact HPX.out _)
      obtain ⟨fn, tmps, assign, body, hy, hR⟩ := HY.out (M.take k) ((k : Int), L[k]!) wr hJw HP.out
      have HRD := Lib.hid hR
      have HBR := Lib.hid hbr
      clear HLD HEND HNX HPL HPX hR hbr hld HY
      unfold encP at *
      simp only at *
      generalize L[k]! = x at *
      gi_wp2
      refine ⟨fun _ => by omega, HRD.out.mono ?_⟩
      rintro e W3 (⟨rfl, hJ3, hk3⟩ | ⟨rfl, hJx3⟩)
      · gi_wp2
        go_roundw
        case rel => exact HR.out _ hJ3 (HBR.out.trans hk3)
        case measure => simp [RowKit.intOf]; omega
      · gi_wp2
        refine bodyPost_ret (results_none rfl _ _ _) rfl ?_
        exact ⟨⟨_, rfl⟩, .inr ⟨_, HP.out, hJx3⟩⟩
    · obtain rfl : k = n := by omega
      have hlt' : ¬ (k : Int) < (k : Int) := by omega
      have hj := Lib.hid (HEND.out _ hJw)
      clear HLD HEND HY HJ hbr hJw HNX HPL HPX
      gi_wp2
      go_end0
      exact ⟨⟨_, rfl⟩, .inl hj.out⟩
end Go.Proofs.Ytkebgcalphajhaa
