/- like of the statements on the package ring. Conditions: the queue is made; the list is its own. -/
import Derived.Test.YtkebgcalphajhaaRaj
import Derived.Deep.RegionHeld3
namespace Go.Proofs.Ytkebgcalphajhaa
open Go.RowKit Go.Lib Go.Shelf
set_option maxRecDepth 100000
set_option maxHeartbeats 400000
theorem load4 {w : World} {a : Addr} {v : Value} (h : w.cell? a = some v) : (loadVar 4 a).run Try.prog w = .ok v w := by simp [loadVar, h]
theorem results_cellv {fn : Func} {p : Tmp} {ty : TypeId} (h : fn.results = #[.cell p ty]) (tmps : Array Value) (W : World) (ad : Addr) (v : Value) (hp : tmps.getD p undef = .pointer (some ad)) (hl : (loadVar ty ad).run Try.prog W = .ok v W) : (results fn tmps).run Try.prog W = .ok v W := by
  have hp' : tmps[p]?.getD undef = .pointer (some ad) := by simpa using hp
  simp [results, h, hp', asAddr, hl]
theorem load3 {w : World} {a : Addr} {v : Value} (h : w.cell? a = some v) : (loadVar 3 a).run Try.prog w = .ok v w := by simp [loadVar, h]
theorem heap3 (w : World) (a b c : Go.Obj) : (((w.alloc a).alloc b).alloc c).heap[w.heap.size]? = some a ∧ (((w.alloc a).alloc b).alloc c).heap[w.heap.size + 1]? = some b ∧ (((w.alloc a).alloc b).alloc c).heap[w.heap.size + 1 + 1]? = some c := by
  refine ⟨?_, ?_, ?_⟩
  all_goals
    show (((w.heap.push a).push b).push c)[_]? = _
    simp only [Array.getElem?_push, Array.size_push]
    repeat (first | rw [if_pos trivial] | rw [if_pos (by omega)] | rw [if_neg (by omega)])
/-- Behind pre: what has been counted lies in block b; nothing else has turned. -/
def LikI (w4 : World) (b : Nat) (pre : List (Int × Int)) (W : World) : Prop := w4.grownBy W (some b) ∧ Boxed W b 3 (.int .i64 (pre.length : Int))
theorem grownBy_more {w4 X Y : World} {r row : Option Nat} (h : w4.grownBy X r) (hg : X.grownBy Y row) (hr : ∀ k, row = some k → w4.heap.size ≤ k) : w4.grownBy Y r :=
  ⟨hg.os.trans h.os, hg.tape.trans h.tape, hg.output.trans h.output, Nat.le_trans h.size hg.size, fun k hk hne => (hg.block k (Nat.lt_of_lt_of_le hk h.size) (fun e => by have := hr k e.symm; omega)).trans (h.block k hk hne)⟩
theorem likI_own (w4 : World) (b B : Nat) (hB : w4.heap.size ≤ B) : OwnFrom B (LikI w4 b) := fun s X Y row h hg hr =>
  ⟨grownBy_more h.1 hg (fun r e => Nat.le_trans hB (hr r e).1), (grownBy_keeps_cells hg (fun r e => (hr r e).2) h.2 rfl).trans h.2⟩
theorem pre_next {α : Type} [Inhabited α] {M pre : List α} {x : α} (h : pre ++ [x] <+: M) : pre.length < M.length ∧ x = M[pre.length]! := by
  obtain ⟨r, hr⟩ := h
  subst hr
  simp
theorem idxL_at (L : List Int) {pre : List (Int × Int)} {x : Int × Int} (h : pre ++ [x] <+: idxL L) : pre.length < L.length ∧ x = ((pre.length : Int), L[pre.length]!) := by
  obtain ⟨h1, h2⟩ := pre_next h
  rw [idxL_length] at h1
  exact ⟨h1, by rw [h2, (idxL_next L _ h1).2]⟩
theorem rlike_any (g most : Nat) (h0 : 0 < most) (hm : most ≤ 65536) (v : Value) (L : List Int) (A : Option Addr) (c : Nat) (z : Int) (w : World) (h : Ring w g most v L) (hl : L.length ≤ most) (hA : IntsAt w (fun _ => True) A L) :
    Calls Try.prog 29 #[.pointer (some ⟨g, 0, none⟩), .slice A L.length c, .int .i64 (most : Int), .int .i64 z] w fun e w' => e = .returned (.bool true) ∧ Below w.heap.size w w' := by
  have H := Lib.hid h
  obtain ⟨w1, hw1⟩ : ∃ w1, w1 = ((w.alloc (.cells #[.slice A L.length c] 39)).alloc (.cells #[.bool false] 4)).alloc (.cells #[.int .i64 0] 3) := ⟨_, rfl⟩
  have hb1 : Below w.heap.size w w1 := by rw [hw1]; exact (((Below.refl _ w).alloc (Nat.le_refl _) _).alloc (by simp) _).alloc (by simp; omega) _
  have hs1 : w1.heap.size = w.heap.size + 3 := by rw [hw1]; simp
  have HA := Lib.hid (all_any g most h0 v L w1 (Obj.bel h hb1) (by omega))
  have HW1 := Lib.hid hw1
  obtain ⟨k5, k8, k9⟩ : w1.heap[w.heap.size]? = some (.cells #[.slice A L.length c] 39 (0, 0)) ∧ w1.heap[w.heap.size + 1]? = some (.cells #[.bool false] 4 (0, 0)) ∧ w1.heap[w.heap.size + 1 + 1]? = some (.cells #[.int .i64 0] 3 (0, 0)) := by rw [hw1]; exact heap3 w _ _ _
  have HK5 := Lib.hid k5
  have HK8 := Lib.hid k8
  have HK9 := Lib.hid k9
  clear hw1 k5 k8 k9
  have hen : ∀ caps w, (binOp .eql 95 (.func (.func 68) #[] caps) .nilFunc).run Try.prog w = .ok (.bool false) w := fun _ _ => by kernel_rfl
  refine (callsIn_wide (n := 20)).1 ?_
  refine callsIn_of_wp_marks Try.func29 rfl trivial ?_ rfl
  simp only [Try.ntmps29, List.size_toArray, List.length_cons, List.length_nil, Nat.reduceAdd, Nat.reduceSub, Array.replicate_succ, Array.replicate_zero, List.push_toArray, List.append_toArray, List.nil_append, List.cons_append]
  gi_wp2_with (first
    | (refine ⟨trivial, ?_⟩; gi_at_call 49; rw [← HW1.out]; (with_reducible refine (callsIn_wide.2 HA.out).mono ?_); rintro e w4 ⟨B, v4, rfl, hB4, hX4, hr4, hb4, hf4⟩))
  obtain ⟨A4, c4, rfl, hn4⟩ := hr4.form
  have hlt4 := hr4.lt
  have hs4 := hb4.size
  have k5 : w1.heap[w.heap.size]? = some (.cells #[.slice A L.length c] 39 (0, 0)) := HK5.out
  have HI0 : Hid (LikI w4 (w.heap.size + 1 + 1) [] w4) := Lib.hid ⟨World.grownBy.refl _ _, (hb4.block _ (by omega)).trans HK9.out⟩
  have HSEQ := Lib.hid (all_stops (20 - 1) (by omega) A4 c4 L B (fun k => k = B ∨ (Value.slice A4 L.length c4).ownBlock = some k) w4 (by omega) (.inl rfl) hX4.cell ((hr4.ints rfl).mono (fun b _ hb => .inr hb)))
  have HZ : Hid (∀ k, k = B ∨ (Value.slice A4 L.length c4).ownBlock = some k → k < w4.heap.size ∧ k ≠ w.heap.size + 1 + 1) := Lib.hid (fun k hk => by
    rcases hk with rfl | hk
    · exact ⟨hX4.lt, by omega⟩
    · have := hf4 k hk
      exact ⟨hlt4 k hk, by omega⟩)
  have hb4' : Below w.heap.size w w4 := hb1.trans (hb4.mono hb1.size)
  have H5 : Hid (Boxed w4 w.heap.size 39 (.slice A L.length c)) := Lib.hid ((hb4.block _ (by omega)).trans HK5.out)
  have H8 : Hid (Boxed w4 (w.heap.size + 1) 4 (.bool false)) := Lib.hid ((hb4.block _ (by omega)).trans HK8.out)
  have HI4 : Hid (IntsAt w4 (fun b => b < w.heap.size) A L) := Lib.hid ((hA.mono (P' := fun b => b < w.heap.size) (fun b hb _ => hb)).same hb4'.size (fun b hb _ => hb4'.block b hb))
  have HR4 : Hid (Ring w4 g most v L) := Lib.hid (Obj.bel h hb4')
  have HS4 : Hid (w.heap.size + 3 ≤ w4.heap.size) := Lib.hid (by omega)
  have HB4 := Lib.hid hb4'
  clear h hX4 hr4 hlt4 hf4 hb4 hB4 hs1 hs4 hn4 k5 HK5 HK8 HK9 hb4' hA hb1 HA HW1 hen
  refine wpIn_each (encs := encP) (S₀ := fun k => k = B ∨ (Value.slice A4 L.length c4).ownBlock = some k) rfl (by omega) (gf := 68) (lb := #[.pointer (some ⟨B, 0, none⟩)]) rfl trivial (enters_of Try.func68 (by kernel_rfl) rfl) (fun k hk => (HZ.out k hk).1)
    HSEQ.out (Below.refl _ _) (fun _ => rfl)
    (fun p => #[.pointer (some ⟨g, 0, none⟩), .slice A L.length c, .int .i64 (most : Int), .int .i64 z, undef, .pointer (some ⟨w.heap.size, 0, none⟩), undef, undef, .pointer (some ⟨w.heap.size + 1, 0, none⟩), .pointer (some ⟨w.heap.size + 1 + 1, 0, none⟩), .func (.func 68) #[] #[.pointer (some ⟨B, 0, none⟩)], undef, undef, undef, undef, .pointer (some ⟨g, 0, none⟩), .func (.func 68) #[] #[.pointer (some ⟨B, 0, none⟩)], .func (.func 68) #[] #[.pointer (some ⟨B, 0, none⟩)], .bool false, .func (.func 68) #[] #[.pointer (some ⟨B, 0, none⟩)], .int .i64 p.1, .int .i64 p.2, undef, undef, undef, undef, undef, undef, undef, undef, undef, undef, undef, undef, undef, undef, undef, undef, undef, undef, undef, undef, undef, undef, undef, undef, undef, undef, undef, undef, undef, undef, undef, undef, undef, undef, undef, undef, undef, undef, undef, undef, undef, undef, undef, undef, undef, undef, undef, undef, undef, undef, undef, undef, undef, undef, undef, undef, undef, undef, undef, undef, undef, undef, undef, undef, undef, undef]) (fun x => by simp [encP])
    (LikI w4 (w.heap.size + 1 + 1))
    (fun pre p a W => LikI w4 (w.heap.size + 1 + 1) pre W ∧ a = { tmps := #[.pointer (some ⟨g, 0, none⟩), .slice A L.length c, .int .i64 (most : Int), .int .i64 z, undef, .pointer (some ⟨w.heap.size, 0, none⟩), undef, undef, .pointer (some ⟨w.heap.size + 1, 0, none⟩), .pointer (some ⟨w.heap.size + 1 + 1, 0, none⟩), .func (.func 68) #[] #[.pointer (some ⟨B, 0, none⟩)], .int .i64 p.1, .int .i64 p.2, undef, undef, .pointer (some ⟨g, 0, none⟩), .func (.func 68) #[] #[.pointer (some ⟨B, 0, none⟩)], .func (.func 68) #[] #[.pointer (some ⟨B, 0, none⟩)], .bool false, .func (.func 68) #[] #[.pointer (some ⟨B, 0, none⟩)], .int .i64 p.1, .int .i64 p.2, undef, undef, undef, undef, undef, undef, undef, undef, undef, undef, undef, undef, undef, undef, undef, undef, undef, undef, undef, undef, undef, undef, undef, undef, undef, undef, undef, undef, undef, undef, undef, undef, undef, undef, undef, undef, undef, undef, undef, undef, undef, undef, undef, undef, undef, undef, undef, undef, undef, undef, undef, undef, undef, undef, undef, undef, undef, undef, undef, undef, undef, undef, undef, undef, undef, undef], defers := [] })
    (likI_own _ _ _ (Nat.le_refl _))
    (fun q A B' row h hg hr => ⟨likI_own _ _ _ (Nat.le_refl _) _ _ _ _ h.1 hg hr, h.2⟩)
    HI0.out ?assign ?body ?done
  case assign =>
    intro l pre x W K hI hK
    have hsem := Oper.semAt_some l
    have HI := Lib.hid hI
    have HKK := Lib.hid hK
    clear hI hK
    gi_wp2
    exact HKK.out _ _ ⟨HI.out, rfl⟩ (KeepsOthers.refl W) (KpS.refl _ W)
  case body =>
    rintro l pre x a1 W hpre ⟨⟨hg, hx⟩, rfl⟩
    have hsem := Oper.semAt_some l
    obtain ⟨hk, rfl⟩ := idxL_at L hpre
    have hs4 := HS4.out
    have hlen : (pre ++ [((pre.length : Int), L[pre.length]!)]).length = pre.length + 1 := by simp
    have HREL : Hid (∀ y, ({ os := W.os, tape := W.tape, drawn := W.drawn, output := W.output, heap := W.heap } : World) = y → y = W) := Lib.hid (fun y h => h.symm)
    have q9 := hx.cell
    have f9 := hx.frozen
    have q5 : W.cell? ⟨w.heap.size, 0, none⟩ = some (.slice A L.length c) := Boxed.cell ((hg.block _ (by omega) (by simp; omega)).trans H5.out)
    rcases HI4.out with e0 | ⟨b, off, rfl, hb, _, hcl⟩
    · rw [e0] at hk; simp at hk
    have qa : W.cell? ⟨b, off + pre.length, none⟩ = some (.int .i64 L[pre.length]!) := (World.cell?_of_block (a := ⟨b, off + pre.length, none⟩) (hg.block b (by omega) (by simp; omega))).trans (hcl _ hk)
    have HX := Lib.hid hx
    have HG := Lib.hid hg
    have hk1 : (pre.length : Int) < (L.length : Int) := by omega
    have hk2 : ¬ (pre.length : Int) ≥ (L.length : Int) := by omega
    have hk3 : (pre.length : Int) ≤ 65536 := by omega
    have HFIN : Hid (KeepsOthers W (W.setCell ⟨w.heap.size + 1 + 1, 0, none⟩ (.int .i64 ((pre.length : Int) + 1))) ∧ KpS (fun k => k = B ∨ (Value.slice A4 L.length c4).ownBlock = some k) W (W.setCell ⟨w.heap.size + 1 + 1, 0, none⟩ (.int .i64 ((pre.length : Int) + 1))) ∧ LikI w4 (w.heap.size + 1 + 1) (pre ++ [((pre.length : Int), L[pre.length]!)]) (W.setCell ⟨w.heap.size + 1 + 1, 0, none⟩ (.int .i64 ((pre.length : Int) + 1)))) := Lib.hid (by
      refine ⟨KeepsOthers.setCell W _ _, ⟨by simp [World.setCell], fun k hk => heap_setCell_other _ _ _ _ (HZ.out k hk).2⟩, ⟨hg.os, hg.tape, hg.output, Nat.le_trans hg.size (by simp [World.setCell]), fun k hk hne => (heap_setCell_other _ _ _ _ (fun e => hne (by rw [e]))).trans (hg.block k hk hne)⟩, ?_⟩
      have := hx.set (.int .i64 ((pre.length : Int) + 1))
      rw [hlen]
      exact this)
    clear hg hx hpre hcl hlen hs4
    generalize L[pre.length]! = y at *
    generalize pre.length = k at *
    generalize L.length = n at *
    gi_wp2
    exact HFIN.out
  case done =>
    rintro D W hD ⟨hg, hx⟩ hK
    rw [idxL_length] at hx
    have hbW : Below w.heap.size w W := HB4.out.grown hg HB4.out.size (fun k hk => by cases hk; omega)
    have hrW := Obj.bel H.out hbW
    have hs4 := HS4.out
    have q9 := hx.cell
    have q5 : W.cell? ⟨w.heap.size, 0, none⟩ = some (.slice A L.length c) := Boxed.cell ((hg.block _ (by omega) (by simp; omega)).trans H5.out)
    have hx8 : Boxed W (w.heap.size + 1) 4 (.bool false) := (hg.block _ (by omega) (by simp)).trans H8.out
    have q8 := hx8.cell
    have f8 := hx8.frozen
    have HLN : Hid (Calls Try.prog 30 #[.pointer (some ⟨g, 0, none⟩)] W.drew fun e w' => e = .returned (.int .i64 (L.length : Int)) ∧ w' = W.drew) := Lib.hid (rlen_any g most h0 v L W.drew (Obj.same hrW rfl (fun _ _ => rfl)))
    have HRM : Hid (Calls Try.prog 50 #[.pointer (some ⟨g, 0, none⟩)] W.drew fun e w' => e = .returned (.int .i64 ((most - L.length : Nat) : Int)) ∧ Below W.drew.heap.size W.drew w') := Lib.hid (rroom_any g most h0 hm v L W.drew hl (Obj.same hrW rfl (fun _ _ => rfl)))
    have HBW := Lib.hid hbW
    have HL9 : Hid (w.heap.size + 1 + 1 < W.drew.heap.size) := Lib.hid (by have := hg.size; show _ < W.heap.size; omega)
    have HL8 : Hid (w.heap.size + 1 < W.drew.heap.size) := Lib.hid (by have := HL9.out; omega)
    have HL5 : Hid (w.heap.size < W.drew.heap.size) := Lib.hid (by have := HL9.out; omega)
    have HX8 := Lib.hid hx8
    have HK := Lib.hid hK
    have HD := Lib.hid hD
    by_cases hz : 0 ≤ z ∧ z < (L.length : Int)
    · obtain ⟨j, rfl⟩ : ∃ j : Nat, z = (j : Int) := ⟨z.toNat, by omega⟩
      have hj : j < L.length := by omega
      have HAT := Lib.hid (rat_in g most h0 v L W hrW j hj)
      rcases HI4.out with e0 | ⟨b, off, rfl, hb, _, hcl⟩
      · rw [e0] at hj; simp at hj
      have qa : W.cell? ⟨b, off + j, none⟩ = some (.int .i64 L[j]!) := (World.cell?_of_block (a := ⟨b, off + j, none⟩) (hg.block b (by omega) (by simp; omega))).trans (hcl _ hj)
      have z1 : ¬ (j : Int) < 0 := by omega
      have z2 : ¬ (j : Int) ≥ (L.length : Int) := by omega
      have z3 : (j : Int) < (L.length : Int) := by omega
      clear hbW hrW hs4 hx8 hg hx hK hD hcl hz
      generalize L[j]! = y at *
      generalize L.length = n at *
      have hwr : IntKind.i64.wrap ((most : Int) - (n : Int)) = ((most - n : Nat) : Int) := by rw [IntKind.wrap_i64]; omega
      gi_wp2_with (first
        | (refine ⟨trivial, ?_⟩; gi_at_call 51; (with_reducible refine (callsIn_wide.2 HAT.out).mono ?_); rintro e w5 ⟨rfl, rfl⟩))
      refine wpIn_wide.2 ?_
      go_region_held3 (fun w' => w'.cell? ⟨w.heap.size + 1 + 1, 0, none⟩ = some (.int .i64 (n : Int)) ∧ w'.cell? ⟨w.heap.size, 0, none⟩ = some (.slice (some ⟨b, off, none⟩) n c)) (first | exact ⟨q9, q5⟩ | exact ⟨q9b, q5b⟩ | exact ⟨(World.cell?_setCell_far _ _ _ _ (by simp)).trans q9b, (World.cell?_setCell_far _ _ _ _ (by simp)).trans q5b⟩) (first
        | (go_at_call 30; (with_reducible refine HLN.out.mono ?_); rintro e w5 ⟨rfl, rfl⟩)
        | (go_at_call 50; (with_reducible refine HRM.out.mono ?_); rintro e w6 ⟨rfl, hb6⟩; have q9b := (hb6.cell (p := ⟨w.heap.size + 1 + 1, 0, none⟩) HL9.out).trans q9; have q5b := (hb6.cell (p := ⟨w.heap.size, 0, none⟩) HL5.out).trans q5; have q8b := (hb6.cell (p := ⟨w.heap.size + 1, 0, none⟩) HL8.out).trans q8; have f8b := (hb6.frozen (p := ⟨w.heap.size + 1, 0, none⟩) HL8.out).trans f8))
      gi_wp2
      have hd := HD.out
      have hs := HS4.out
      have hkd : (w6.setCell ⟨w.heap.size + 1, 0, none⟩ (.bool true)).heap[D]? = some (.deferred (some [])) := (heap_setCell_other _ _ _ _ (by simp; omega)).trans ((hb6.block D (Array.getElem?_eq_some_iff.1 HK.out).1).trans HK.out)
      refine ⟨by simp, .inl ⟨_, _, rfl, run_takeDeferred hkd, ?_⟩⟩
      have hb7 : Below w.heap.size w (w6.setCell ⟨w.heap.size + 1, 0, none⟩ (.bool true)) := (HBW.out.trans ((⟨hb6.os, hb6.tape, hb6.output, hb6.size, fun k hk => hb6.block k hk⟩ : Below w5.heap.size w5 w6).mono HBW.out.size)).setCell (by simp) _
      have hx7 : Boxed (w6.setCell ⟨w.heap.size + 1, 0, none⟩ (.bool true)) (w.heap.size + 1) 4 (.bool true) := Boxed.set _ (show Boxed w6 (w.heap.size + 1) 4 (.bool false) from (hb6.block _ HL8.out).trans HX8.out)
      have hx8 : Boxed ((w6.setCell ⟨w.heap.size + 1, 0, none⟩ (.bool true)).putObj D (.deferred none)) (w.heap.size + 1) 4 (.bool true) := (World.putObj_heap_other (by omega)).trans hx7
      exact ⟨_, results_cellv rfl _ _ ⟨w.heap.size + 1, 0, none⟩ _ rfl (load4 hx8.cell), rfl, hb7.trans (belowK_b (w := w) (Nat.le_refl _) _ D _ _ (by omega) hkd rfl rfl)⟩
    · have HAT := Lib.hid (rat_out g most h0 v L W hrW z (by omega))
      have hz' : z < 0 ∨ (L.length : Int) ≤ z := by omega
      clear hbW hrW hs4 hx8 hg hx hK hD hz
      generalize L.length = n at *
      have hwr : IntKind.i64.wrap ((most : Int) - (n : Int)) = ((most - n : Nat) : Int) := by rw [IntKind.wrap_i64]; omega
      rcases hz' with hz1 | hz1
      · gi_wp2_with (first
          | (refine ⟨trivial, ?_⟩; gi_at_call 51; (with_reducible refine (callsIn_wide.2 HAT.out).mono ?_); rintro e w5 ⟨rfl, rfl⟩))
        refine wpIn_wide.2 ?_
        go_region_held3 (fun w' => w'.cell? ⟨w.heap.size + 1 + 1, 0, none⟩ = some (.int .i64 (n : Int)) ∧ w'.cell? ⟨w.heap.size, 0, none⟩ = some (.slice A n c)) (first | exact ⟨q9, q5⟩ | exact ⟨q9b, q5b⟩ | exact ⟨(World.cell?_setCell_far _ _ _ _ (by simp)).trans q9b, (World.cell?_setCell_far _ _ _ _ (by simp)).trans q5b⟩) (first
          | (go_at_call 30; (with_reducible refine HLN.out.mono ?_); rintro e w5 ⟨rfl, rfl⟩)
          | (go_at_call 50; (with_reducible refine HRM.out.mono ?_); rintro e w6 ⟨rfl, hb6⟩; have q9b := (hb6.cell (p := ⟨w.heap.size + 1 + 1, 0, none⟩) HL9.out).trans q9; have q5b := (hb6.cell (p := ⟨w.heap.size, 0, none⟩) HL5.out).trans q5; have q8b := (hb6.cell (p := ⟨w.heap.size + 1, 0, none⟩) HL8.out).trans q8; have f8b := (hb6.frozen (p := ⟨w.heap.size + 1, 0, none⟩) HL8.out).trans f8))
        gi_wp2
        have hd := HD.out
        have hs := HS4.out
        have hkd : (w6.setCell ⟨w.heap.size + 1, 0, none⟩ (.bool true)).heap[D]? = some (.deferred (some [])) := (heap_setCell_other _ _ _ _ (by simp; omega)).trans ((hb6.block D (Array.getElem?_eq_some_iff.1 HK.out).1).trans HK.out)
        refine ⟨by simp, .inl ⟨_, _, rfl, run_takeDeferred hkd, ?_⟩⟩
        have hb7 : Below w.heap.size w (w6.setCell ⟨w.heap.size + 1, 0, none⟩ (.bool true)) := (HBW.out.trans ((⟨hb6.os, hb6.tape, hb6.output, hb6.size, fun k hk => hb6.block k hk⟩ : Below w5.heap.size w5 w6).mono HBW.out.size)).setCell (by simp) _
        have hx7 : Boxed (w6.setCell ⟨w.heap.size + 1, 0, none⟩ (.bool true)) (w.heap.size + 1) 4 (.bool true) := Boxed.set _ (show Boxed w6 (w.heap.size + 1) 4 (.bool false) from (hb6.block _ HL8.out).trans HX8.out)
        have hx8 : Boxed ((w6.setCell ⟨w.heap.size + 1, 0, none⟩ (.bool true)).putObj D (.deferred none)) (w.heap.size + 1) 4 (.bool true) := (World.putObj_heap_other (by omega)).trans hx7
        exact ⟨_, results_cellv rfl _ _ ⟨w.heap.size + 1, 0, none⟩ _ rfl (load4 hx8.cell), rfl, hb7.trans (belowK_b (w := w) (Nat.le_refl _) _ D _ _ (by omega) hkd rfl rfl)⟩
      · have hz0 : ¬ z < 0 := by omega
        have hz2 : z ≥ (n : Int) := hz1
        gi_wp2_with (first
          | (refine ⟨trivial, ?_⟩; gi_at_call 51; (with_reducible refine (callsIn_wide.2 HAT.out).mono ?_); rintro e w5 ⟨rfl, rfl⟩))
        refine wpIn_wide.2 ?_
        go_region_held3 (fun w' => w'.cell? ⟨w.heap.size + 1 + 1, 0, none⟩ = some (.int .i64 (n : Int)) ∧ w'.cell? ⟨w.heap.size, 0, none⟩ = some (.slice A n c)) (first | exact ⟨q9, q5⟩ | exact ⟨q9b, q5b⟩ | exact ⟨(World.cell?_setCell_far _ _ _ _ (by simp)).trans q9b, (World.cell?_setCell_far _ _ _ _ (by simp)).trans q5b⟩) (first
          | (go_at_call 30; (with_reducible refine HLN.out.mono ?_); rintro e w5 ⟨rfl, rfl⟩)
          | (go_at_call 50; (with_reducible refine HRM.out.mono ?_); rintro e w6 ⟨rfl, hb6⟩; have q9b := (hb6.cell (p := ⟨w.heap.size + 1 + 1, 0, none⟩) HL9.out).trans q9; have q5b := (hb6.cell (p := ⟨w.heap.size, 0, none⟩) HL5.out).trans q5; have q8b := (hb6.cell (p := ⟨w.heap.size + 1, 0, none⟩) HL8.out).trans q8; have f8b := (hb6.frozen (p := ⟨w.heap.size + 1, 0, none⟩) HL8.out).trans f8))
        gi_wp2
        have hd := HD.out
        have hs := HS4.out
        have hkd : (w6.setCell ⟨w.heap.size + 1, 0, none⟩ (.bool true)).heap[D]? = some (.deferred (some [])) := (heap_setCell_other _ _ _ _ (by simp; omega)).trans ((hb6.block D (Array.getElem?_eq_some_iff.1 HK.out).1).trans HK.out)
        refine ⟨by simp, .inl ⟨_, _, rfl, run_takeDeferred hkd, ?_⟩⟩
        have hb7 : Below w.heap.size w (w6.setCell ⟨w.heap.size + 1, 0, none⟩ (.bool true)) := (HBW.out.trans ((⟨hb6.os, hb6.tape, hb6.output, hb6.size, fun k hk => hb6.block k hk⟩ : Below w5.heap.size w5 w6).mono HBW.out.size)).setCell (by simp) _
        have hx7 : Boxed (w6.setCell ⟨w.heap.size + 1, 0, none⟩ (.bool true)) (w.heap.size + 1) 4 (.bool true) := Boxed.set _ (show Boxed w6 (w.heap.size + 1) 4 (.bool false) from (hb6.block _ HL8.out).trans HX8.out)
        have hx8 : Boxed ((w6.setCell ⟨w.heap.size + 1, 0, none⟩ (.bool true)).putObj D (.deferred none)) (w.heap.size + 1) 4 (.bool true) := (World.putObj_heap_other (by omega)).trans hx7
        exact ⟨_, results_cellv rfl _ _ ⟨w.heap.size + 1, 0, none⟩ _ rfl (load4 hx8.cell), rfl, hb7.trans (belowK_b (w := w) (Nat.le_refl _) _ D _ _ (by omega) hkd rfl rfl)⟩
end Go.Proofs.Ytkebgcalphajhaa
