/- closeUp, Cut and Pop of the package ring. Conditions: the queue is made. -/
import Derived.Test.YtkebgcalphajhaaRac
import Derived.StillTailTactics
import Derived.Deep.Cut
namespace Go.Proofs.Ytkebgcalphajhaa
open Go.RowKit Go.Lib
set_option maxRecDepth 100000
set_option maxHeartbeats 400000
theorem region_tail {P : Program} {id : Nat} {Q : Exit → Act → World → Prop} {a : Act} {w : World} {l : List Oper} (n : Nat) (W1 : World) (hW : W1 = { w with drawn := w.drawn + 1 }) (hm : P.follows .mixedOrders = true) (hB : Region.lexTailB .any l.toArray n = true)
    (h : wpStill P l.toArray W1 (fun a' => wpList P l.toArray Q (l.drop n) a' W1) (l.take n) a) : (Code.region id l.toArray true).wp P Q a w := by
  subst hW
  exact wp_region_still_tail n hm hB h
theorem close_row (cur xs : List Value) (off n i c : Nat) (u : Value) (hn : n ≤ c) (hi : i < n) (hs : off + c ≤ cur.length) (hx : (cur.drop off).take n = xs) :
    ((((splice cur (off + 1) (xs.take i)).set off u).drop (off + 1)).take (n - 1)) = xs.take i ++ xs.drop (i + 1) := by
  have hxl : xs.length = n := by rw [← hx, List.length_take, List.length_drop]; omega
  have hil : (xs.take i).length = i := by rw [List.length_take]; omega
  have e0 : (cur.drop (off + 1 + i)).take (n - 1 - i) = xs.drop (i + 1) := by
    rw [← hx, List.drop_take, List.drop_drop, show off + (i + 1) = off + 1 + i by omega, show n - (i + 1) = n - 1 - i by omega]
  rw [List.drop_set_of_lt (by omega)]
  unfold splice
  rw [List.drop_append, List.length_take, Nat.min_eq_left (by omega), List.drop_eq_nil_of_le (by rw [List.length_take]; omega), Nat.sub_self, List.drop_zero, List.nil_append, List.take_append, hil, List.take_of_length_le (by omega), e0]
def Cutted (w : World) (g most : Nat) (v : Value) (L : List Int) (r : Value) (e : Ending) (w' : World) : Prop := ∃ v', e = .returned r ∧ Ring w' g most v' L ∧ Mov w w' g v v'
theorem intsV_cut (L : List Int) (i : Nat) (h : i < L.length) : (intsV L).take i ++ (intsV L).drop (i + 1) = intsV (L.take i ++ L.drop (i + 1)) ∧ (L.take i ++ L.drop (i + 1)).length = L.length - 1 := by
  constructor
  · unfold intsV
    rw [List.map_append, List.map_take, List.map_drop]
  · rw [List.length_append, List.length_take, List.length_drop]
    omega
theorem close_any (g most : Nat) (v : Value) (L : List Int) (i : Nat) (hi : i < L.length) (w : World) (h : Ring w g most v L) (hl : L.length ≤ 65536) : Calls Try.prog 52 #[.pointer (some ⟨g, 0, none⟩), .int .i64 (i : Int)] w (Cutted w g most v (L.take i ++ L.drop (i + 1)) (.tuple #[])) := by
  obtain ⟨eC, eL⟩ := intsV_cut L i hi
  rcases id (Obj.row h).2 with ⟨_, h0⟩ | ⟨b, off, c, cur, rfl, hg, hn, hcm, hsz, hx⟩
  · omega
  rw [Nat.mul_one] at hsz hx
  have hne : b ≠ g := fun e => h.ne (by rw [← e]; rfl)
  obtain ⟨W1, hW1⟩ : ∃ W1, W1 = { w with drawn := w.drawn + 1 } := ⟨_, rfl⟩
  have h1h : W1.heap = w.heap := by rw [hW1]
  have hg1 : W1.heap[b]? = some (.cells cur.toArray 3 (0, 0)) := by rw [h1h]; exact hg
  have hb1 : Below w.heap.size w W1 := by rw [hW1]; exact ⟨rfl, rfl, rfl, Nat.le_refl _, fun _ _ => rfl⟩
  have H1 := Lib.hid (Obj.bel h hb1)
  have q1 := Obj.c1 H1.out
  have hxl := intsV_length L
  generalize hX : intsV L = xs at *
  generalize hnn : L.length = n at *
  have hil : (xs.take i).length = i := by rw [List.length_take]; omega
  have hwp : IntKind.i64.wrap ((i : Int) + 1) = (i : Int) + 1 := by rw [IntKind.wrap_i64]; omega
  by_cases hc1 : c = 1
  · have hn1 : n = 1 := by omega
    have hi0 : i = 0 := by omega
    subst hc1 hn1 hi0
    obtain ⟨W2, hW2⟩ : ∃ W2, W2 = W1.setRow b (splice cur off []).toArray := ⟨_, rfl⟩
    have hX2 : splice cur off [] = cur := by simp [splice]
    have hg2 : W2.heap[b]? = some (.cells cur.toArray 3 (0, 0)) := by rw [hW2, hX2]; exact setRow_heap W1 b _ _ 3 _ hg1
    have ho2 : W2.heap[g]? = W1.heap[g]? := by rw [hW2]; exact setRow_other W1 b g _ (fun e => hne e.symm)
    have q2 := (World.cell?_of_block (a := ⟨g, 1, none⟩) ho2).trans q1
    have c2 : W2.cell? ⟨b, off, none⟩ = some cur[off]! := by
      rw [cell_of_row W2 b _ _ 3 (0, 0) hg2]
      simp [List.getElem?_eq_getElem (show off < cur.length by omega), getElem!_pos cur off (by omega)]
    have f2 : W2.frozen? ⟨b, off, none⟩ = false := by unfold World.frozen?; rw [hg2]; simp
    obtain ⟨W3, hW3⟩ : ∃ W3, W3 = W2.setCell ⟨b, off, none⟩ (.int .i64 0) := ⟨_, rfl⟩
    have hg3 : W3.heap[b]? = some (.cells (cur.set off (.int .i64 0)).toArray 3 (0, 0)) := by
      rw [hW3]
      have := Go.heap_setCell_same W2 b off _ 3 (.int .i64 0) hg2
      simpa using this
    have ho3 : W3.heap[g]? = W2.heap[g]? := by rw [hW3]; exact heap_setCell_other _ _ _ _ (fun e => hne e.symm)
    have q3 := (World.cell?_of_block (a := ⟨g, 1, none⟩) ho3).trans q2
    have f3 : W3.frozen? ⟨g, 1, none⟩ = false := (World.frozen?_of_block (a := ⟨g, 1, none⟩) (ho3.trans ho2)).trans (Obj.fr H1.out 1)
    have hgr : W1.grownBy W3 (some b) := by
      rw [hW3, hW2]
      refine ⟨rfl, rfl, rfl, by simp [World.setRow, World.setCell], fun k _ hk => (heap_setCell_other _ _ _ _ (fun e => hk (by simp [e]))).trans (setRow_other W1 b k _ (fun e => hk (by simp [e])))⟩
    have HFIN : Hid (Cutted w g most (.slice (some ⟨b, off, none⟩) 1 1) (L.take 0 ++ L.drop (0 + 1)) (.tuple #[]) (.returned (.tuple #[])) (W3.setCell ⟨g, 1, none⟩ (.slice (some ⟨b, off, none⟩) 0 0))) := Lib.hid (by
      have hf : FreshV W1 (.slice (some ⟨b, off, none⟩) 1 1) (.slice (some ⟨b, off, none⟩) 0 0) := fun k hk => .inl hk
      refine ⟨_, rfl, ?_, (Mov.of_below g _ hb1).trans (Mov.store hgr hf _ _)⟩
      unfold Ring
      rw [eL, ← eC]
      refine Obj.store H1.out hgr.size (ho3.trans ho2) ⟨?_, .inr ⟨b, off, 0, _, rfl, hg3, Nat.le_refl _, by omega, by simp; omega, ?_⟩⟩ hf
      · rw [List.length_append, List.length_take, List.length_drop]; omega
      · rw [show xs.drop (0 + 1) = [] from List.drop_eq_nil_of_le (by omega)]; simp)
    have HW1 := Lib.hid hW1
    have HW2 := Lib.hid hW2
    have HW3 := Lib.hid hW3
    have HG1 := Lib.hid hg1
    have HC1 : Hid (([] : List Value).length = Nat.min 0 0 * 1) := Lib.hid rfl
    have HS1 : Hid (∀ j v, ([] : List Value)[j]? = some v → W1.cell? ((⟨b, off, none⟩ : Addr).add j) = some v) := Lib.hid (fun j v hj => by cases hj)
    have HF1 : Hid (off + ([] : List Value).length ≤ cur.length) := Lib.hid (by simp; omega)
    have HO1 : Hid (∀ u ∈ ([] : List Value), u.oneCell' = true) := Lib.hid (fun u hu => absurd hu (by simp))
    clear hW1 hW2 hW3 h1h hg1 hb1 hg2 ho2 hg3 ho3 hgr hX2 h hg hx hsz hX hxl hil eC eL
    have hw1 : IntKind.i64.wrap 1 = 1 := by rw [IntKind.wrap_i64]; omega
    have hw2 : IntKind.i64.wrap (0 + 1) = 1 := by rw [IntKind.wrap_i64]; omega
    generalize L.take 0 ++ L.drop (0 + 1) = L1 at *
    simp only [show ((0 : Nat) : Int) = 0 from rfl] at *
    clear hwp hnn
    go_enter Try.func52, Try.ntmps52
    go_upto_region 0 with fail
    refine region_tail 13 W1 HW1.out (by kernel_rfl) (by kernel_rfl) ?_
    simp only [List.take_succ_cons, List.take_zero, List.drop_succ_cons, List.drop_zero]
    repeat still_step
    refine wpStill_nil ?_
    go_wp2_with (first
      | ((with_reducible refine wpList_copy_row rowInt (o := ⟨some 18, _, _, _, _, _⟩) rfl (.tmp 11) (.tmp 17) rfl b off 0 0 ⟨b, off, none⟩ 0 1 ?_ ?_ cur [] HG1.out HC1.out HS1.out HF1.out HO1.out ?_); rfl; rfl; rw [← HW2.out])
      | (rw [← HW3.out]))
    go_end0
    exact HFIN.out
  · obtain ⟨W2, hW2⟩ : ∃ W2, W2 = W1.setRow b (splice cur (off + 1) (xs.take i)).toArray := ⟨_, rfl⟩
    have hfit : off + 1 + (xs.take i).length ≤ cur.length := by rw [hil]; omega
    have hXl := length_splice cur (off + 1) (xs.take i) hfit
    have hrow := close_row cur xs off n i c (.int .i64 0) hn hi hsz hx
    have hg2 : W2.heap[b]? = some (.cells (splice cur (off + 1) (xs.take i)).toArray 3 (0, 0)) := by rw [hW2]; exact setRow_heap W1 b _ _ 3 _ hg1
    have HS1 : Hid (∀ j v, (xs.take i)[j]? = some v → W1.cell? ((⟨b, off, none⟩ : Addr).add j) = some v) := Lib.hid (fun j v hj => by
      have hlt := (List.getElem?_eq_some_iff.1 hj).1
      rw [hil] at hlt
      rw [Addr.add_lit]
      refine (Obj.row H1.out).cell j v ?_
      rw [List.getElem?_take, if_pos hlt] at hj
      exact hj)
    have HO1 : Hid (∀ u ∈ xs.take i, u.oneCell' = true) := Lib.hid (fun u hu => by rw [← hX] at hu; exact intsV_one L u (List.mem_of_mem_take hu))
    generalize hXe : splice cur (off + 1) (xs.take i) = X at *
    have ho2 : W2.heap[g]? = W1.heap[g]? := by rw [hW2]; exact setRow_other W1 b g _ (fun e => hne e.symm)
    have q2 := (World.cell?_of_block (a := ⟨g, 1, none⟩) ho2).trans q1
    have c2 : W2.cell? ⟨b, off, none⟩ = some X[off]! := by
      rw [cell_of_row W2 b _ _ 3 (0, 0) hg2]
      simp [List.getElem?_eq_getElem (show off < X.length by omega), getElem!_pos X off (by omega)]
    have f2 : W2.frozen? ⟨b, off, none⟩ = false := by unfold World.frozen?; rw [hg2]; simp
    obtain ⟨W3, hW3⟩ : ∃ W3, W3 = W2.setCell ⟨b, off, none⟩ (.int .i64 0) := ⟨_, rfl⟩
    have hg3 : W3.heap[b]? = some (.cells (X.set off (.int .i64 0)).toArray 3 (0, 0)) := by
      rw [hW3]
      have := Go.heap_setCell_same W2 b off _ 3 (.int .i64 0) hg2
      simpa using this
    have ho3 : W3.heap[g]? = W2.heap[g]? := by rw [hW3]; exact heap_setCell_other _ _ _ _ (fun e => hne e.symm)
    have q3 := (World.cell?_of_block (a := ⟨g, 1, none⟩) ho3).trans q2
    have f3 : W3.frozen? ⟨g, 1, none⟩ = false := (World.frozen?_of_block (a := ⟨g, 1, none⟩) (ho3.trans ho2)).trans (Obj.fr H1.out 1)
    have hgr : W1.grownBy W3 (some b) := by
      rw [hW3, hW2]
      refine ⟨rfl, rfl, rfl, by simp [World.setRow, World.setCell], fun k _ hk => (heap_setCell_other _ _ _ _ (fun e => hk (by simp [e]))).trans (setRow_other W1 b k _ (fun e => hk (by simp [e])))⟩
    have HFIN : Hid (Cutted w g most (.slice (some ⟨b, off, none⟩) n c) (L.take i ++ L.drop (i + 1)) (.tuple #[]) (.returned (.tuple #[])) (W3.setCell ⟨g, 1, none⟩ (.slice (some ⟨b, off + 1, none⟩) (n - 1) (c - 1)))) := Lib.hid (by
      have hf : FreshV W1 (.slice (some ⟨b, off, none⟩) n c) (.slice (some ⟨b, off + 1, none⟩) (n - 1) (c - 1)) := fun k hk => .inl hk
      refine ⟨_, rfl, ?_, (Mov.of_below g _ hb1).trans (Mov.store hgr hf _ _)⟩
      unfold Ring
      rw [eL, ← eC]
      refine Obj.store H1.out hgr.size (ho3.trans ho2) ⟨?_, .inr ⟨b, off + 1, c - 1, _, rfl, hg3, by omega, by omega, by rw [List.length_set]; omega, ?_⟩⟩ hf
      · rw [List.length_append, List.length_take, List.length_drop]; omega
      · rw [Nat.mul_one]; exact hrow)
    have HW1 := Lib.hid hW1
    have HW2 := Lib.hid hW2
    have HW3 := Lib.hid hW3
    have HG1 := Lib.hid hg1
    have HC1 : Hid ((xs.take i).length = Nat.min i i * 1) := Lib.hid (by rw [hil, show Nat.min i i = i from Nat.min_self i]; omega)
    have HF1 := Lib.hid hfit
    have HXE := Lib.hid hXe
    clear hXe hW1 hW2 hW3 h1h hg1 hb1 hg2 ho2 hg3 ho3 hgr h hg hx hsz hX hxl hil eC eL hfit hXl hrow
    generalize L.take i ++ L.drop (i + 1) = L1 at *
    generalize xs.take i = cs at *
    have p1 : (i : Int) + 1 ≤ (c : Int) := by omega
    have p2 : (1 : Int) ≤ (i : Int) + 1 := by omega
    have p3 : (i : Int) ≤ (c : Int) := by omega
    have p4 : (0 : Int) < (n : Int) := by omega
    have p5 : (1 : Int) ≤ (n : Int) := by omega
    have p6 : 0 < n := by omega
    have p7 : i + 1 ≤ c := by omega
    have p8 : 0 ≤ (i : Int) + 1 := by omega
    clear hnn hi
    go_enter Try.func52, Try.ntmps52
    go_upto_region 0 with fail
    refine region_tail 13 W1 HW1.out (by kernel_rfl) (by kernel_rfl) ?_
    simp only [List.take_succ_cons, List.take_zero, List.drop_succ_cons, List.drop_zero]
    repeat still_step
    refine wpStill_nil ?_
    go_wp2_with (first
      | ((with_reducible refine wpList_copy_row rowInt (o := ⟨some 18, _, _, _, _, _⟩) rfl (.tmp 11) (.tmp 17) rfl b (off + 1) i (c - 1) ⟨b, off, none⟩ i c ?_ ?_ cur cs HG1.out HC1.out HS1.out HF1.out HO1.out ?_); rfl; rfl; rw [HXE.out, ← HW2.out])
      | (rw [← HW3.out]))
    go_end0
    exact HFIN.out
/-- What a cut at i leaves. -/
def cutAt (L : List Int) (i : Nat) : List Int := L.take i ++ L.drop (i + 1)
theorem cutAt_length {L : List Int} {i : Nat} (h : i < L.length) : (cutAt L i).length = L.length - 1 := (intsV_cut L i h).2
theorem cut_in (g most : Nat) (h0 : 0 < most) (v : Value) (L : List Int) (w : World) (h : Ring w g most v L) (hl : L.length ≤ 65536) (i : Nat) (hi : i < L.length) : Calls Try.prog 27 #[.pointer (some ⟨g, 0, none⟩), .int .i64 (i : Int)] w (Cutted w g most v (cutAt L i) (.tuple #[.int .i64 L[i]!, .bool true])) := by
  have HA := Lib.hid (rat_in g most h0 v L w h i hi)
  have HC := Lib.hid (close_any g most v L i hi w h hl)
  unfold cutAt
  generalize L.take i ++ L.drop (i + 1) = L1 at *
  generalize L[i]! = z at *
  clear h hl hi
  go_enter Try.func27, Try.ntmps27
  go_wp2_with (first
    | (go_at_call 51; (with_reducible refine HA.out.mono ?_); rintro e w1 ⟨rfl, rfl⟩)
    | (go_at_call 52; (with_reducible refine HC.out.mono ?_); rintro e w2 ⟨v2, rfl, hr2, hm2⟩))
  go_ret2
  exact ⟨v2, rfl, hr2, hm2⟩
theorem cut_out (g most : Nat) (h0 : 0 < most) (v : Value) (L : List Int) (w : World) (h : Ring w g most v L) (i : Int) (hi : i < 0 ∨ (L.length : Int) ≤ i) : Calls Try.prog 27 #[.pointer (some ⟨g, 0, none⟩), .int .i64 i] w (Cutted w g most v L (.tuple #[.int .i64 0, .bool false])) := by
  have HA := Lib.hid (rat_out g most h0 v L w h i hi)
  have H := Lib.hid h
  clear h hi
  go_enter Try.func27, Try.ntmps27
  go_wp2_with (first
    | (go_at_call 51; (with_reducible refine HA.out.mono ?_); rintro e w1 ⟨rfl, rfl⟩))
  go_ret2
  exact ⟨v, rfl, H.out, Mov.refl _ _ _⟩
/-- What is there behind a cut at i, and what it answers. -/
def cutL (L : List Int) (i : Int) : List Int := if 0 ≤ i ∧ i < (L.length : Int) then cutAt L i.toNat else L
def cutV (L : List Int) (i : Int) : Int := if 0 ≤ i ∧ i < (L.length : Int) then L[i.toNat]! else 0
def cutB (L : List Int) (i : Int) : Bool := decide (0 ≤ i ∧ i < (L.length : Int))
theorem cut_any (g most : Nat) (h0 : 0 < most) (v : Value) (L : List Int) (w : World) (h : Ring w g most v L) (hl : L.length ≤ 65536) (i : Int) : Calls Try.prog 27 #[.pointer (some ⟨g, 0, none⟩), .int .i64 i] w (Cutted w g most v (cutL L i) (.tuple #[.int .i64 (cutV L i), .bool (cutB L i)])) := by
  unfold cutL cutV cutB
  by_cases hc : 0 ≤ i ∧ i < (L.length : Int)
  · obtain ⟨j, rfl⟩ : ∃ j : Nat, i = (j : Int) := ⟨i.toNat, by omega⟩
    rw [if_pos hc, if_pos hc, decide_eq_true hc, Int.toNat_natCast]
    exact cut_in g most h0 v L w h hl j (by omega)
  · rw [if_neg hc, if_neg hc, decide_eq_false hc]
    exact cut_out g most h0 v L w h i (by omega)
theorem cutL_le {L : List Int} {i : Int} {most : Nat} (h : L.length ≤ most) : (cutL L i).length ≤ most := by
  unfold cutL
  split
  · rename_i hc
    rw [cutAt_length (by omega)]
    omega
  · exact h
theorem pop_any (g most : Nat) (h0 : 0 < most) (v : Value) (L : List Int) (w : World) (h : Ring w g most v L) (hl : L.length ≤ 65536) : Calls Try.prog 24 #[.pointer (some ⟨g, 0, none⟩)] w (Cutted w g most v (cutL L 0) (.tuple #[.int .i64 (cutV L 0), .bool (cutB L 0)])) := by
  have HC := Lib.hid (cut_any g most h0 v L w h hl 0)
  generalize cutL L 0 = L1 at *
  generalize cutV L 0 = z at *
  generalize cutB L 0 = t at *
  clear h hl
  go_enter Try.func24, Try.ntmps24
  go_wp2_with (first
    | (go_at_call 27; (with_reducible refine HC.out.mono ?_); rintro e w2 ⟨v2, rfl, hr2, hm2⟩))
  go_ret2
  exact ⟨v2, rfl, hr2, hm2⟩
end Go.Proofs.Ytkebgcalphajhaa
