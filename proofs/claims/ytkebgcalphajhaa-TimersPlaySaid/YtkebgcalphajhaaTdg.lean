/- like of the statements on the package timers. Conditions: the table is made; the list is its own. -/
import Derived.Test.YtkebgcalphajhaaTdf
import Derived.Test.YtkebgcalphajhaaTah
import Derived.Deep.RegionHeld3
import Derived.Test.YtkebgcalphajhaaTgc
namespace Go.Proofs.Ytkebgcalphajhaa
open Go.RowKit Go.Lib Go.Shelf
set_option maxRecDepth 100000
set_option maxHeartbeats 4000000
/-- Behind pre: what has been counted lies in block b; nothing else has turned. -/
def TLikI (w4 : World) (b : Nat) (pre : List (Int × Nat)) (W : World) : Prop := w4.grownBy W (some b) ∧ Boxed W b 3 (.int .i64 (pre.length : Int))
theorem tlikI_own (w4 : World) (b B : Nat) (hB : w4.heap.size ≤ B) : OwnFrom B (TLikI w4 b) := fun _ _ _ _ h hg hr =>
  ⟨grownBy_more h.1 hg (fun r e => Nat.le_trans hB (hr r e).1), (grownBy_keeps_cells hg (fun r e => (hr r e).2) h.2 rfl).trans h.2⟩
theorem TmsAt.mono {w : World} {S S' : Nat → Prop} {A : Option Addr} {L : List (Int × Nat)} (h : TmsAt w S A L) (hs : ∀ b, S b → S' b) : TmsAt w S' A L := by
  rcases h with h | ⟨b, off, h1, h2, h3⟩
  · exact .inl h
  · exact .inr ⟨b, off, h1, hs b h2, h3⟩
/-- What is known behind the loop of like. -/
structure LikD (w wB w4 : World) (g most : Nat) (v : Value) (L O : List (Int × Nat)) (A Ao : Option Addr) (c co : Nat) : Prop where
  b4 : Below w.heap.size w w4
  h6 : Boxed w4 w.heap.size 4 (.bool false)
  h7 : Boxed w4 wB.heap.size 26 (.slice Ao O.length co)
  s4 : wB.heap.size + 2 ≤ w4.heap.size
  sB : w.heap.size + 1 ≤ wB.heap.size
  t : Tab w4 g most v O
  u : RefAt w4 (.slice A L.length c) L
  ub : ∀ b, (Value.slice A L.length c).ownBlock = some b → b < w.heap.size
  o : RefAt w4 (.slice Ao O.length co) O
  ob : ∀ b, (Value.slice Ao O.length co).ownBlock = some b → b < wB.heap.size
  ol : ∀ b, (Value.slice Ao O.length co).ownBlock = some b → w.heap.size < b
theorem likD (w wA wB w4 : World) (g most : Nat) (v : Value) (L O : List (Int × Nat)) (A Ao : Option Addr) (c co : Nat) (h : Tab w g most v O) (hA : RefAt w (.slice A L.length c) L) (hwA : wA = w.alloc (.cells #[.bool false] 4)) (hG : GroT wA O (.slice Ao O.length co) wB)
    (hb4 : Below ((wB.alloc (.cells #[.slice Ao O.length co] 26)).alloc (.cells #[.int .i64 0] 3)).heap.size ((wB.alloc (.cells #[.slice Ao O.length co] 26)).alloc (.cells #[.int .i64 0] 3)) w4) : LikD w wB w4 g most v L O A Ao c co ∧ w4.heap[wB.heap.size + 1]? = some (.cells #[.int .i64 0] 3 (0, 0)) := by
  obtain ⟨wC, hwC⟩ : ∃ wC, wC = (wB.alloc (.cells #[.slice Ao O.length co] 26)).alloc (.cells #[.int .i64 0] 3) := ⟨_, rfl⟩
  rw [← hwC] at hb4
  have hbA : Below w.heap.size w wA := by rw [hwA]; exact (Below.refl _ w).alloc (Nat.le_refl _) _
  have hsA : wA.heap.size = w.heap.size + 1 := by rw [hwA]; simp
  have k6 : wA.heap[w.heap.size]? = some (.cells #[.bool false] 4 (0, 0)) := by rw [hwA]; exact heap_alloc_new w _
  have hbB := hG.1
  have hs := hbB.size
  have hbC : Below wB.heap.size wB wC := by rw [hwC]; exact ((Below.refl _ wB).alloc (Nat.le_refl _) _).alloc (by simp) _
  have hsC : wC.heap.size = wB.heap.size + 2 := by rw [hwC]; simp
  have k7 : wC.heap[wB.heap.size]? = some (.cells #[.slice Ao O.length co] 26 (0, 0)) := by
    rw [hwC]
    exact (Below.heap_alloc _ _ _ (by simp)).trans (heap_alloc_new wB _)
  have k8 : wC.heap[wB.heap.size + 1]? = some (.cells #[.int .i64 0] 3 (0, 0)) := by
    have := heap_alloc_new (wB.alloc (.cells #[.slice Ao O.length co] 26)) (.cells #[.int .i64 0] 3)
    rw [show (wB.alloc (.cells #[.slice Ao O.length co] 26)).heap.size = wB.heap.size + 1 by simp, ← hwC] at this
    exact this
  have hs4 := hb4.size
  have hbB4 : Below wB.heap.size wB w4 := hbC.trans (hb4.mono (by omega))
  have hbw : Below w.heap.size w w4 := (hbA.trans (hbB.mono (by omega))).trans (hbB4.mono (by omega))
  refine ⟨⟨hbw, (hbB4.block _ (by omega)).trans ((hbB.block _ (by omega)).trans k6), (hb4.block _ (by omega)).trans k7, by omega, by omega, Obj.bel h hbw, RowAt.bel hA hbw, RowAt.lt hA, RowAt.bel hG.2.1 hbB4, RowAt.lt hG.2.1, fun b hb => by have := hG.2.2 b hb; omega⟩, (hb4.block _ (by omega)).trans k8⟩
theorem tlike_any (g most : Nat) (h0 : 0 < most) (v : Value) (u : Value) (L : List (Int × Nat)) (z : Int) (w : World) (h : Tab w g most v (ordT L)) (hl : L.length ≤ 60000) (hu : UniT L) (hA : RefAt w u L) :
    Calls Try.prog 18 #[.pointer (some ⟨g, 0, none⟩), u, .int .i64 z] w fun e w' => e = .returned (.bool true) ∧ Below w.heap.size w w' := by
  have H := Lib.hid h
  obtain ⟨wA, hwA⟩ : ∃ wA, wA = w.alloc (.cells #[.bool false] 4) := ⟨_, rfl⟩
  have hbA : Below w.heap.size w wA := by rw [hwA]; exact (Below.refl _ w).alloc (Nat.le_refl _) _
  have HO := Lib.hid (order_any u L wA (RowAt.bel hA hbA) hl)
  obtain ⟨O, hO⟩ : ∃ O, O = ordT L := ⟨_, rfl⟩
  have hOl : O.length = L.length := by rw [hO, ordT_length]
  rw [← hO] at HO H
  have HOL := Lib.hid hOl
  have HOE := Lib.hid hO
  have HO6 : Hid (O.length ≤ 60000) := Lib.hid (by omega)
  have HAL : Hid (∀ W, Below w.heap.size w W → Calls Try.prog 46 #[.pointer (some ⟨g, 0, none⟩)] W (TAllIs W O)) := Lib.hid (fun W hW => tall_any g most h0 v O W (Obj.bel H.out hW) (by omega))
  have HWA := Lib.hid hwA
  have HBA := Lib.hid hbA
  have hen : ∀ caps w, (binOp .eql 87 (.func (.func 66) #[] caps) .nilFunc).run Try.prog w = .ok (.bool false) w := fun _ _ => by kernel_rfl
  obtain ⟨A, c, rfl, hn⟩ := RowAt.form hA
  have HU := Lib.hid hA
  clear hwA hbA hO hOl h hA
  refine (callsIn_wide (n := 20)).1 ?_
  refine callsIn_of_wp_marks Try.func18 rfl trivial ?_ rfl
  simp only [Try.ntmps18, List.size_toArray, List.length_cons, List.length_nil, Nat.reduceAdd, Nat.reduceSub, Array.replicate_succ, Array.replicate_zero, List.push_toArray, List.append_toArray, List.nil_append, List.cons_append]
  gi_wp2_with (first
    | (refine ⟨trivial, ?_⟩; gi_at_call 40; rw [← HWA.out]; (with_reducible refine (callsIn_wide.2 HO.out).mono ?_); rintro e wB ⟨vo, rfl, hG⟩; have HG := Lib.hid hG; obtain ⟨Ao, co, rfl, hno⟩ := RowAt.form hG.2.1; have HBB := Lib.hid (HBA.out.trans (hG.1.mono HBA.out.size)); have HBC := Lib.hid ((HBB.out.alloc HBB.out.size (.cells #[.slice Ao O.length co] 26)).alloc (Nat.le_trans HBB.out.size (by simp)) (.cells #[.int .i64 0] 3)))
    | (refine ⟨trivial, ?_⟩; gi_at_call 46; (with_reducible refine (callsIn_wide.2 (HAL.out _ HBC.out)).mono ?_); rintro e w4 ⟨B, v4, rfl, hB4, hX4, hr4, hb4, hf4⟩))
  obtain ⟨hD, k8⟩ := likD w wA wB w4 g most v L O A Ao c co H.out HU.out HWA.out HG.out hb4
  obtain ⟨A4, c4, rfl, hn4⟩ := hr4.form
  have hlt4 := hr4.lt
  have hsC : ((wB.alloc (.cells #[.slice Ao O.length co] 26)).alloc (.cells #[.int .i64 0] 3)).heap.size = wB.heap.size + 2 := by simp
  rw [hsC] at hB4 hf4
  have HI0 : Hid (TLikI w4 (wB.heap.size + 1) [] w4) := Lib.hid ⟨World.grownBy.refl _ _, k8⟩
  have HSEQ := Lib.hid (told_stops (20 - 1) (by omega) A4 c4 O B (fun k => k = B ∨ (Value.slice A4 O.length c4).ownBlock = some k) w4 (by have := HO6.out; omega) (.inl rfl) (fun b hb => by rcases hb with rfl | hb; exact hX4.lt; exact hlt4 b hb) hX4.cell ((RowAt.tms hr4 rfl).mono (fun b hb => .inr hb)))
  have HZ : Hid (∀ k, k = B ∨ (Value.slice A4 O.length c4).ownBlock = some k → k < w4.heap.size ∧ k ≠ wB.heap.size + 1) := Lib.hid (fun k hk => by
    rcases hk with rfl | hk
    · exact ⟨hX4.lt, by omega⟩
    · have := hf4 k hk
      exact ⟨hlt4 k hk, by omega⟩)
  have HD := Lib.hid hD
  clear hX4 hr4 hlt4 hf4 hb4 hB4 hsC hn4 k8 hD HAL HBC HBB HG hG HWA HBA HO hen
  refine wpIn_each (encs := encY) (S₀ := fun k => k = B ∨ (Value.slice A4 O.length c4).ownBlock = some k) rfl (by omega) (gf := 66) (lb := #[.pointer (some ⟨B, 0, none⟩)]) rfl trivial (enters_of Try.func66 (by kernel_rfl) rfl) (fun k hk => (HZ.out k hk).1)
    HSEQ.out (Below.refl _ _) (fun _ => rfl)
    (fun p => #[.pointer (some ⟨g, 0, none⟩), .slice A L.length c, .int .i64 z, undef, undef, undef, .pointer (some ⟨w.heap.size, 0, none⟩), .pointer (some ⟨wB.heap.size, 0, none⟩), .pointer (some ⟨wB.heap.size + 1, 0, none⟩), .func (.func 66) #[] #[.pointer (some ⟨B, 0, none⟩)], undef, undef, undef, undef, undef, undef, undef, .slice A L.length c, .slice Ao O.length co, .pointer (some ⟨g, 0, none⟩), .func (.func 66) #[] #[.pointer (some ⟨B, 0, none⟩)], .func (.func 66) #[] #[.pointer (some ⟨B, 0, none⟩)], .bool false, .func (.func 66) #[] #[.pointer (some ⟨B, 0, none⟩)], Value.int .i64 p.1, .int .u64 (p.2 : Int), undef, undef, undef, undef, undef, undef, undef, undef, undef, undef, undef, undef, undef, undef, undef, undef, undef, undef, undef, undef, undef, undef, undef, undef, undef, undef, undef, undef, undef, undef, undef, undef, undef, undef, undef, undef, undef, undef, undef, undef, undef, undef, undef, undef, undef, undef, undef, undef, undef, undef, undef, undef, undef, undef, undef, undef, undef, undef, undef, undef, undef, undef, undef, undef, undef, undef, undef, undef, undef, undef, undef, undef, undef, undef, undef, undef, undef, undef, undef, undef, undef, undef, undef, undef, undef, undef, undef, undef, undef, undef, undef, undef, undef, undef, undef, undef, undef, undef, undef, undef, undef]) (fun x => by simp [encY])
    (TLikI w4 (wB.heap.size + 1))
    (fun pre p a W => TLikI w4 (wB.heap.size + 1) pre W ∧ a = { tmps := #[.pointer (some ⟨g, 0, none⟩), .slice A L.length c, .int .i64 z, undef, undef, undef, .pointer (some ⟨w.heap.size, 0, none⟩), .pointer (some ⟨wB.heap.size, 0, none⟩), .pointer (some ⟨wB.heap.size + 1, 0, none⟩), .func (.func 66) #[] #[.pointer (some ⟨B, 0, none⟩)], Value.int .i64 p.1, .int .u64 (p.2 : Int), undef, undef, undef, undef, undef, .slice A L.length c, .slice Ao O.length co, .pointer (some ⟨g, 0, none⟩), .func (.func 66) #[] #[.pointer (some ⟨B, 0, none⟩)], .func (.func 66) #[] #[.pointer (some ⟨B, 0, none⟩)], .bool false, .func (.func 66) #[] #[.pointer (some ⟨B, 0, none⟩)], Value.int .i64 p.1, .int .u64 (p.2 : Int), undef, undef, undef, undef, undef, undef, undef, undef, undef, undef, undef, undef, undef, undef, undef, undef, undef, undef, undef, undef, undef, undef, undef, undef, undef, undef, undef, undef, undef, undef, undef, undef, undef, undef, undef, undef, undef, undef, undef, undef, undef, undef, undef, undef, undef, undef, undef, undef, undef, undef, undef, undef, undef, undef, undef, undef, undef, undef, undef, undef, undef, undef, undef, undef, undef, undef, undef, undef, undef, undef, undef, undef, undef, undef, undef, undef, undef, undef, undef, undef, undef, undef, undef, undef, undef, undef, undef, undef, undef, undef, undef, undef, undef, undef, undef, undef, undef, undef, undef, undef, undef], defers := [] })
    (tlikI_own _ _ _ (Nat.le_refl _))
    (fun q A B' row h hg hr => ⟨tlikI_own _ _ _ (Nat.le_refl _) _ _ _ _ h.1 hg hr, h.2⟩)
    HI0.out ?assign ?body ?done
  case assign =>
    intro l pre x W K hI hK
    have hsem := Oper.semAt_some l
    have HI := Lib.hid hI
    have HKK := Lib.hid hK
    clear hI hK
    gi_wp2
    exact HKK.out _ _ ⟨HI.out, rfl⟩ (KeepsOthers.refl W) (KpS.refl _ W)
  case body =>
    rintro l pre x a1 W hpre ⟨⟨hg, hx⟩, rfl⟩
    have hsem := Oper.semAt_some l
    obtain ⟨hk, rfl⟩ := pre_next hpre
    have hs4 := HD.out.s4
    have hlen : (pre ++ [O[pre.length]!]).length = pre.length + 1 := by simp
    have q8 := hx.cell
    have f8 := hx.frozen
    have hk7 : W.heap[wB.heap.size]? = w4.heap[wB.heap.size]? := hg.block _ (by omega) (by simp)
    have q7 : W.cell? ⟨wB.heap.size, 0, none⟩ = some (.slice Ao O.length co) := Boxed.cell (hk7.trans HD.out.h7)
    have hoW : RefAt W (.slice Ao O.length co) O := RowAt.same HD.out.o (fun b hb => hg.block b (RowAt.lt HD.out.o b hb) (fun e => by injection e with e; have := HD.out.ob b hb; omega))
    obtain ⟨bo, oo, co2, e3, _⟩ := RowAt.filled hoW (by omega)
    injection e3 with e4 _ e5
    subst e4 e5
    obtain ⟨qa, qb⟩ := RefAt.cells hoW rfl pre.length hk
    have HX := Lib.hid hx
    have HG := Lib.hid hg
    have hk1 : (pre.length : Int) < (O.length : Int) := by omega
    have hk2 : ¬ (pre.length : Int) ≥ (O.length : Int) := by omega
    have hk3 : (pre.length : Int) ≤ 65536 := by have := HO6.out; omega
    have hk4 : 0 ≤ (pre.length : Int) := by omega
    have hwr : IntKind.i64.wrap ((pre.length : Int) + 1) = (pre.length : Int) + 1 := by rw [IntKind.wrap_i64]; omega
    have HFIN : Hid (KeepsOthers W (W.setCell ⟨wB.heap.size + 1, 0, none⟩ (.int .i64 ((pre.length : Int) + 1))) ∧ KpS (fun k => k = B ∨ (Value.slice A4 O.length c4).ownBlock = some k) W (W.setCell ⟨wB.heap.size + 1, 0, none⟩ (.int .i64 ((pre.length : Int) + 1))) ∧ TLikI w4 (wB.heap.size + 1) (pre ++ [O[pre.length]!]) (W.setCell ⟨wB.heap.size + 1, 0, none⟩ (.int .i64 ((pre.length : Int) + 1)))) := Lib.hid (by
      refine ⟨KeepsOthers.setCell W _ _, ⟨by simp [World.setCell], fun k hk => heap_setCell_other _ _ _ _ (HZ.out k hk).2⟩, ⟨hg.os, hg.tape, hg.output, Nat.le_trans hg.size (by simp [World.setCell]), fun k hk hne => (heap_setCell_other _ _ _ _ (fun e => hne (by rw [e]))).trans (hg.block k hk hne)⟩, ?_⟩
      have := hx.set (.int .i64 ((pre.length : Int) + 1))
      rw [hlen]
      exact this)
    clear hg hx hpre hlen hs4 hk7 hoW HD HSEQ HZ HI0 HOL HOE HO6 H HU
    generalize O[pre.length]! = y at *
    obtain ⟨y1, y2⟩ := y
    simp only at qa qb
    generalize pre.length = k at *
    generalize hnn : O.length = n at *
    generalize hnl : L.length = ln at *
    gi_wp2
    exact HFIN.out
  case done =>
    rintro D W hD ⟨hg, hx⟩ hK
    have hs4 := HD.out.s4
    have hsB := HD.out.sB
    have hbW : Below w.heap.size w W := HD.out.b4.grown hg HD.out.b4.size (fun k hk => by cases hk; omega)
    have hWs := hg.size
    have HBW := Lib.hid hbW
    have HT : Hid (∀ W', Below W.heap.size W W' → Tab W' g most v O) := Lib.hid (fun W' h => Obj.bel (Obj.bel H.out hbW) h)
    have hk7 : Boxed W wB.heap.size 26 (.slice Ao O.length co) := (hg.block _ (by omega) (by simp)).trans HD.out.h7
    have hk6 : Boxed W w.heap.size 4 (.bool false) := (hg.block _ (by omega) (by simp; omega)).trans HD.out.h6
    have hoW : RefAt W (.slice Ao O.length co) O := RowAt.same HD.out.o (fun b hb => hg.block b (RowAt.lt HD.out.o b hb) (fun e => by injection e with e; have := HD.out.ob b hb; omega))
    have huW : RefAt W (.slice A L.length c) L := RowAt.bel HU.out hbW
    have HFI : Hid (∀ W', Below W.heap.size W W' → Calls Try.prog 11 #[.slice A L.length c, .int .i64 z] W' fun e w' => e = .returned (.int .i64 (plT L z)) ∧ w' = W') := Lib.hid (fun W' h => find_any _ L z W' (RowAt.bel huW h))
    have HLN : Hid (∀ W', Below W.heap.size W W' → Calls Try.prog 20 #[.pointer (some ⟨g, 0, none⟩)] W'.drew fun e w' => e = .returned (.int .i64 (O.length : Int)) ∧ w' = W'.drew) := Lib.hid (fun W' h => tlen_any g most h0 v O W'.drew (HT.out _ h.drew))
    have H6 : Hid (∀ W', Below W.heap.size W W' → W'.cell? ⟨w.heap.size, 0, none⟩ = some (.bool false) ∧ W'.frozen? ⟨w.heap.size, 0, none⟩ = false) := Lib.hid (fun W' h => by
      have hb6 : Boxed W' w.heap.size 4 (.bool false) := (h.block _ hk6.lt).trans hk6
      exact ⟨hb6.cell, hb6.frozen⟩)
    have HEND : Hid (∀ w6, Below W.heap.size W w6 → (w6.setCell ⟨w.heap.size, 0, none⟩ (.bool true)).heap[D]? = some (.deferred (some [])) ∧ Boxed ((w6.setCell ⟨w.heap.size, 0, none⟩ (.bool true)).putObj D (.deferred none)) w.heap.size 4 (.bool true) ∧ Below w.heap.size w ((w6.setCell ⟨w.heap.size, 0, none⟩ (.bool true)).putObj D (.deferred none))) := Lib.hid (fun w6 h => by
      have hkd : (w6.setCell ⟨w.heap.size, 0, none⟩ (.bool true)).heap[D]? = some (.deferred (some [])) := (heap_setCell_other _ _ _ _ (by simp; omega)).trans ((h.block D (Array.getElem?_eq_some_iff.1 hK).1).trans hK)
      have hb7 : Below w.heap.size w (w6.setCell ⟨w.heap.size, 0, none⟩ (.bool true)) := (HBW.out.trans (h.mono HBW.out.size)).setCell (Nat.le_refl _) _
      have hx7 : Boxed (w6.setCell ⟨w.heap.size, 0, none⟩ (.bool true)) w.heap.size 4 (.bool true) := Boxed.set _ (show Boxed w6 w.heap.size 4 (.bool false) from (h.block _ hk6.lt).trans hk6)
      have hx8 : Boxed ((w6.setCell ⟨w.heap.size, 0, none⟩ (.bool true)).putObj D (.deferred none)) w.heap.size 4 (.bool true) := (World.putObj_heap_other (by omega)).trans hx7
      exact ⟨hkd, hx8, hb7.trans (belowK_b (w := w) (Nat.le_refl _) _ D _ _ (by omega) hkd rfl rfl)⟩)
    by_cases hO0 : O.length = 0
    · have hOn : O = [] := List.eq_nil_of_length_eq_zero hO0
      have hhz : hasT L z = false := by rw [← hasT_ord, ← HOE.out, hOn]; rfl
      have hpl : plT L z = -1 := plT_no hhz
      have HAT : Hid (Calls Try.prog 47 #[.pointer (some ⟨g, 0, none⟩), Value.int .i64 z] W fun e w' => e = .returned (.tuple #[.int .u64 0, .bool false]) ∧ Below W.heap.size W w') := Lib.hid (at_no g most h0 v O z W (HT.out _ (Below.refl _ _)) (by rw [hOn]; rfl))
      have HNX : Hid (∀ W', Below W.heap.size W W' → Calls Try.prog 19 #[.pointer (some ⟨g, 0, none⟩)] W' fun e w' => e = .returned (.tuple #[.int .u64 0, .bool false]) ∧ w' = W') := Lib.hid (fun W' h => next_nil g most h0 v W' (by have := HT.out _ h; rw [hOn] at this; exact this))
      have HLN : Hid (∀ W', Below W.heap.size W W' → Calls Try.prog 20 #[.pointer (some ⟨g, 0, none⟩)] W'.drew fun e w' => e = .returned (.int .i64 0) ∧ w' = W'.drew) := Lib.hid (fun W' h => by have := HLN.out W' h; rw [hO0] at this; exact this)
      have HS : Hid (∀ W', Below W.heap.size W W' → (W'.cell? ⟨wB.heap.size + 1, 0, none⟩ = some (.int .i64 0) ∧ W'.cell? ⟨wB.heap.size, 0, none⟩ = some (.slice Ao 0 co)) ∧ ((W'.setCell ⟨w.heap.size, 0, none⟩ (.bool true)).cell? ⟨wB.heap.size + 1, 0, none⟩ = some (.int .i64 0) ∧ (W'.setCell ⟨w.heap.size, 0, none⟩ (.bool true)).cell? ⟨wB.heap.size, 0, none⟩ = some (.slice Ao 0 co))) := Lib.hid (fun W' h => by
        have a8 : W'.cell? ⟨wB.heap.size + 1, 0, none⟩ = some (.int .i64 (O.length : Int)) := (h.cell (p := ⟨wB.heap.size + 1, 0, none⟩) hx.lt).trans hx.cell
        have a7 : W'.cell? ⟨wB.heap.size, 0, none⟩ = some (.slice Ao O.length co) := (h.cell (p := ⟨wB.heap.size, 0, none⟩) hk7.lt).trans hk7.cell
        rw [hO0] at a8 a7
        exact ⟨⟨a8, a7⟩, ⟨(World.cell?_setCell_far _ _ _ _ (by simp; omega)).trans a8, (World.cell?_setCell_far _ _ _ _ (by simp; omega)).trans a7⟩⟩)
      rw [hO0]
      clear hOn hhz hO0
      have H11 : Hid (∀ W', Below W.heap.size W W' → Calls Try.prog 11 #[.slice A L.length c, .int .i64 z] W' fun e w' => e = .returned (.int .i64 (-1)) ∧ w' = W') := Lib.hid (fun W' h => by have := HFI.out W' h; rw [hpl] at this; exact this)
      clear hg hx hK hbW hWs hk7 hk6 hoW huW hs4 hsB HSEQ HZ HI0 HOL HOE HO6 HU H HFI HT hpl
      generalize L.length = ln at *
      gi_wp2_with (first
        | (refine ⟨trivial, ?_⟩; gi_at_call 47; (with_reducible refine (callsIn_wide.2 HAT.out).mono ?_); rintro e W5 ⟨rfl, hb5⟩; have HB5 := Lib.hid hb5)
        | (refine ⟨trivial, ?_⟩; gi_at_call 11; (with_reducible refine (callsIn_wide.2 (H11.out _ HB5.out)).mono ?_); rintro e w7 ⟨rfl, hw7⟩; rw [hw7]; clear hw7 w7)
        | (refine ⟨trivial, ?_⟩; gi_at_call 19; (with_reducible refine (callsIn_wide.2 (HNX.out _ HB5.out)).mono ?_); rintro e w7 ⟨rfl, hw7⟩; rw [hw7]; clear hw7 w7))
      refine wpIn_wide.2 ?_
      obtain ⟨W6, hW6⟩ : ∃ W6, W6 = W5.drew := ⟨_, rfl⟩
      have hb6 : Below W.heap.size W W6 := by rw [hW6]; exact HB5.out.drew
      have HB6 := Lib.hid hb6
      obtain ⟨qs, _⟩ := HS.out _ hb6
      obtain ⟨q6, f6⟩ := H6.out _ hb6
      have HC := HLN.out W5 HB5.out
      rw [← hW6] at HC
      have HC := Lib.hid HC
      have HW6 := Lib.hid hW6
      clear hW6 hb6 hb5 HS H6 HAT HNX HLN H11 HB5 HD HBW
      refine region_tailQ 63 W6 HW6.out (by kernel_rfl) (by kernel_rfl) ?_
      clear HW6
      simp only [List.take_succ_cons, List.take_zero, List.drop_succ_cons, List.drop_zero]
      repeat (go_big_quiet_step (fail))
      go_big_quiet_want
      go_big_quiet_op
      apply Exists.intro
      refine ⟨HC.out, ?_⟩
      go_big_quiet_on
      repeat (go_big_quiet_step (fail))
      refine wpQuiet_nil ?_
      go_wp2
      gi_wp2
      obtain ⟨hkd, hx8, hbE⟩ := HEND.out _ HB6.out
      refine ⟨by simp, .inl ⟨_, _, rfl, run_takeDeferred hkd, ?_⟩⟩
      exact ⟨_, results_cellv rfl _ _ ⟨w.heap.size, 0, none⟩ _ rfl (load4 hx8.cell), rfl, hbE⟩
    · obtain ⟨x, O', hOn⟩ : ∃ x O', O = x :: O' := by
        cases O with
        | nil => exact absurd rfl hO0
        | cons x O' => exact ⟨x, O', rfl⟩
      obtain ⟨bo, oo, co2, e3, _⟩ := RowAt.filled hoW (by omega)
      injection e3 with e4 _ e5
      subst e4 e5
      obtain ⟨x2, hx2⟩ : ∃ x2, O[0]!.2 = x2 := ⟨_, rfl⟩
      have HNX : Hid (∀ W', Below W.heap.size W W' → Calls Try.prog 19 #[.pointer (some ⟨g, 0, none⟩)] W' fun e w' => e = .returned (.tuple #[.int .u64 (x2 : Int), .bool true]) ∧ w' = W') := Lib.hid (fun W' h => by
        have := next_cons g most h0 v x O' W' (by have := HT.out _ h; rw [hOn] at this; exact this)
        rw [hOn] at hx2
        rw [← show x.2 = x2 from hx2]
        exact this)
      clear hOn
      cases hhz : hasT L z with
      | false =>
        have hpl : plT L z = -1 := plT_no hhz
        have HAT : Hid (Calls Try.prog 47 #[.pointer (some ⟨g, 0, none⟩), Value.int .i64 z] W fun e w' => e = .returned (.tuple #[.int .u64 0, .bool false]) ∧ Below W.heap.size W w') := Lib.hid (at_no g most h0 v O z W (HT.out _ (Below.refl _ _)) (by rw [HOE.out, hasT_ord]; exact hhz))
        have HS : Hid (∀ W', Below W.heap.size W W' → (W'.cell? ⟨wB.heap.size + 1, 0, none⟩ = some (.int .i64 (O.length : Int)) ∧ W'.cell? ⟨wB.heap.size, 0, none⟩ = some (.slice (some ⟨bo, oo, none⟩) O.length co) ∧ W'.cell? ⟨bo, oo + 1, none⟩ = some (.int .u64 (x2 : Int))) ∧ ((W'.setCell ⟨w.heap.size, 0, none⟩ (.bool true)).cell? ⟨wB.heap.size + 1, 0, none⟩ = some (.int .i64 (O.length : Int)) ∧ (W'.setCell ⟨w.heap.size, 0, none⟩ (.bool true)).cell? ⟨wB.heap.size, 0, none⟩ = some (.slice (some ⟨bo, oo, none⟩) O.length co) ∧ (W'.setCell ⟨w.heap.size, 0, none⟩ (.bool true)).cell? ⟨bo, oo + 1, none⟩ = some (.int .u64 (x2 : Int)))) := Lib.hid (fun W' h => by
          have a8 : W'.cell? ⟨wB.heap.size + 1, 0, none⟩ = some (.int .i64 (O.length : Int)) := (h.cell (p := ⟨wB.heap.size + 1, 0, none⟩) hx.lt).trans hx.cell
          have a7 : W'.cell? ⟨wB.heap.size, 0, none⟩ = some (.slice (some ⟨bo, oo, none⟩) O.length co) := (h.cell (p := ⟨wB.heap.size, 0, none⟩) hk7.lt).trans hk7.cell
          have a0 := (RefAt.cells (RowAt.bel hoW h) rfl 0 (by omega)).2
          rw [hx2] at a0
          simp only [Nat.zero_mul, Nat.add_zero] at a0
          exact ⟨⟨a8, a7, a0⟩, ⟨(World.cell?_setCell_far _ _ _ _ (by simp; omega)).trans a8, (World.cell?_setCell_far _ _ _ _ (by simp; omega)).trans a7, (World.cell?_setCell_far _ _ _ _ (by have := HD.out.ol bo rfl; simp; omega)).trans a0⟩⟩)
        have H11 : Hid (∀ W', Below W.heap.size W W' → Calls Try.prog 11 #[.slice A L.length c, .int .i64 z] W' fun e w' => e = .returned (.int .i64 (-1)) ∧ w' = W') := Lib.hid (fun W' h => by have := HFI.out W' h; rw [hpl] at this; exact this)
        clear hg hx hK hbW hWs hk7 hk6 hoW huW hs4 hsB HSEQ HZ HI0 HOL HOE HO6 HU H HFI HT hpl hhz hx2
        have n1 : 0 < O.length := by omega
        have n2 : (O.length : Int) > 0 := by omega
        have n3 : ¬ (O.length : Int) = 0 := by omega
        have n4 : ((O.length : Int) == 0) = false := by rw [beq_eq_false_iff_ne]; exact n3
        have n5 : decide ((O.length : Int) > 0) = true := decide_eq_true n2
        have n6 : decide (0 < O.length) = true := decide_eq_true n1
        have n7 : ¬ O.length = 0 := by omega
        generalize O.length = n at *
        generalize L.length = ln at *
        gi_wp2_with (first
          | (refine ⟨trivial, ?_⟩; gi_at_call 47; (with_reducible refine (callsIn_wide.2 HAT.out).mono ?_); rintro e W5 ⟨rfl, hb5⟩; have HB5 := Lib.hid hb5)
          | (refine ⟨trivial, ?_⟩; gi_at_call 11; (with_reducible refine (callsIn_wide.2 (H11.out _ HB5.out)).mono ?_); rintro e w7 ⟨rfl, hw7⟩; rw [hw7]; clear hw7 w7)
          | (refine ⟨trivial, ?_⟩; gi_at_call 19; (with_reducible refine (callsIn_wide.2 (HNX.out _ HB5.out)).mono ?_); rintro e w7 ⟨rfl, hw7⟩; rw [hw7]; clear hw7 w7))
        refine wpIn_wide.2 ?_
        obtain ⟨W6, hW6⟩ : ∃ W6, W6 = W5.drew := ⟨_, rfl⟩
        have hb6 : Below W.heap.size W W6 := by rw [hW6]; exact HB5.out.drew
        have HB6 := Lib.hid hb6
        obtain ⟨qs, _⟩ := HS.out _ hb6
        obtain ⟨q6, f6⟩ := H6.out _ hb6
        have HC := HLN.out W5 HB5.out
        rw [← hW6] at HC
        have HC := Lib.hid HC
        have HW6 := Lib.hid hW6
        clear hW6 hb6 hb5 HS H6 HAT HNX HLN H11 HB5 HD HBW
        refine region_tailQ 63 W6 HW6.out (by kernel_rfl) (by kernel_rfl) ?_
        clear HW6
        simp only [List.take_succ_cons, List.take_zero, List.drop_succ_cons, List.drop_zero]
        repeat (go_big_quiet_step (fail))
        go_big_quiet_want
        go_big_quiet_op
        apply Exists.intro
        refine ⟨HC.out, ?_⟩
        go_big_quiet_on
        repeat (go_big_quiet_step (fail))
        refine wpQuiet_nil ?_
        go_wp2
        gi_wp2
        obtain ⟨hkd, hx8, hbE⟩ := HEND.out _ HB6.out
        refine ⟨by simp, .inl ⟨_, _, rfl, run_takeDeferred hkd, ?_⟩⟩
        exact ⟨_, results_cellv rfl _ _ ⟨w.heap.size, 0, none⟩ _ rfl (load4 hx8.cell), rfl, hbE⟩
      | true =>
        obtain ⟨P, a, R, hL, hP⟩ := split_has hhz
        obtain ⟨P2, a2, R2, hO2, hP2⟩ := split_has (show hasT O z = true by rw [HOE.out, hasT_ord]; exact hhz)
        have ha : a2 = a := uni_eq hu ((mem_ordT L (z, a2)).1 (by rw [← HOE.out, hO2]; simp)) (by rw [hL]; simp)
        subst ha
        obtain ⟨i, hi⟩ : ∃ i, i = P.length := ⟨_, rfl⟩
        have hpl : plT L z = (i : Int) := by rw [hL, hi]; exact plT_mid hP
        have hiL : i < L.length := by rw [hL, hi]; simp
        have hia : L[i]!.2 = a2 := by
          rw [getElem!_pos L i hiL]
          have : L[i] = (z, a2) := by
            have e : L[i]? = some (z, a2) := by rw [hL, hi]; simp
            rw [List.getElem?_eq_getElem hiL] at e
            injection e
          rw [this]
        have HAT : Hid (Calls Try.prog 47 #[.pointer (some ⟨g, 0, none⟩), Value.int .i64 z] W fun e w' => e = .returned (.tuple #[.int .u64 (a2 : Int), .bool true]) ∧ Below W.heap.size W w') := Lib.hid (at_mid g most h0 v P2 R2 z a2 W (by have := HT.out _ (Below.refl _ _); rw [hO2] at this; exact this) hP2)
        obtain ⟨bu, ou, cu, e6, _⟩ := RowAt.filled huW (by omega)
        injection e6 with e7 _ e8
        subst e7 e8
        have HIL := Lib.hid hiL
        clear hL hO2 hP hP2 hi
        generalize a2 = a at *
        have HS : Hid (∀ W', Below W.heap.size W W' → (W'.cell? ⟨wB.heap.size + 1, 0, none⟩ = some (.int .i64 (O.length : Int)) ∧ W'.cell? ⟨wB.heap.size, 0, none⟩ = some (.slice (some ⟨bo, oo, none⟩) O.length co) ∧ W'.cell? ⟨bo, oo + 1, none⟩ = some (.int .u64 (x2 : Int)) ∧ W'.cell? ⟨bu, ou + i * 2 + 1, none⟩ = some (.int .u64 (a : Int))) ∧ ((W'.setCell ⟨w.heap.size, 0, none⟩ (.bool true)).cell? ⟨wB.heap.size + 1, 0, none⟩ = some (.int .i64 (O.length : Int)) ∧ (W'.setCell ⟨w.heap.size, 0, none⟩ (.bool true)).cell? ⟨wB.heap.size, 0, none⟩ = some (.slice (some ⟨bo, oo, none⟩) O.length co) ∧ (W'.setCell ⟨w.heap.size, 0, none⟩ (.bool true)).cell? ⟨bo, oo + 1, none⟩ = some (.int .u64 (x2 : Int)) ∧ (W'.setCell ⟨w.heap.size, 0, none⟩ (.bool true)).cell? ⟨bu, ou + i * 2 + 1, none⟩ = some (.int .u64 (a : Int)))) := Lib.hid (fun W' h => by
          have a8 : W'.cell? ⟨wB.heap.size + 1, 0, none⟩ = some (.int .i64 (O.length : Int)) := (h.cell (p := ⟨wB.heap.size + 1, 0, none⟩) hx.lt).trans hx.cell
          have a7 : W'.cell? ⟨wB.heap.size, 0, none⟩ = some (.slice (some ⟨bo, oo, none⟩) O.length co) := (h.cell (p := ⟨wB.heap.size, 0, none⟩) hk7.lt).trans hk7.cell
          have a0 := (RefAt.cells (RowAt.bel hoW h) rfl 0 (by omega)).2
          rw [hx2] at a0
          simp only [Nat.zero_mul, Nat.add_zero] at a0
          have a1 := (RefAt.cells (RowAt.bel huW h) rfl i hiL).2
          rw [hia] at a1
          exact ⟨⟨a8, a7, a0, a1⟩, ⟨(World.cell?_setCell_far _ _ _ _ (by simp; omega)).trans a8, (World.cell?_setCell_far _ _ _ _ (by simp; omega)).trans a7, (World.cell?_setCell_far _ _ _ _ (by have := HD.out.ol bo rfl; simp; omega)).trans a0, (World.cell?_setCell_far _ _ _ _ (by have := HD.out.ub bu rfl; simp; omega)).trans a1⟩⟩)
        have H11 : Hid (∀ W', Below W.heap.size W W' → Calls Try.prog 11 #[.slice (some ⟨bu, ou, none⟩) L.length c, .int .i64 z] W' fun e w' => e = .returned (.int .i64 ((i : Int))) ∧ w' = W') := Lib.hid (fun W' h => by have := HFI.out W' h; rw [hpl] at this; exact this)
        clear hg hx hK hbW hWs hk7 hk6 hoW huW hs4 hsB HSEQ HZ HI0 HOL HOE HO6 HU H HFI HT hpl hx2 hiL hia
        have n1 : 0 < O.length := by omega
        have n2 : (O.length : Int) > 0 := by omega
        have n3 : ¬ (O.length : Int) = 0 := by omega
        have n4 : ((O.length : Int) == 0) = false := by rw [beq_eq_false_iff_ne]; exact n3
        have n5 : decide ((O.length : Int) > 0) = true := decide_eq_true n2
        have n6 : decide (0 < O.length) = true := decide_eq_true n1
        have n7 : ¬ O.length = 0 := by omega
        generalize O.length = n at *
        have i1 : 0 ≤ (i : Int) := by omega
        have i2 : ¬ (i : Int) < 0 := by omega
        have i3 : (i : Int) ≥ 0 := by omega
        have i4 : decide ((i : Int) ≥ 0) = true := decide_eq_true i3
        have i5 : decide ((i : Int) < 0) = false := decide_eq_false i2
        have i6 : (i : Int) < (L.length : Int) := by have := HIL.out; omega
        have i7 : i < L.length := HIL.out
        generalize L.length = ln at *
        gi_wp2_with (first
          | (refine ⟨trivial, ?_⟩; gi_at_call 47; (with_reducible refine (callsIn_wide.2 HAT.out).mono ?_); rintro e W5 ⟨rfl, hb5⟩; have HB5 := Lib.hid hb5)
          | (refine ⟨trivial, ?_⟩; gi_at_call 11; (with_reducible refine (callsIn_wide.2 (H11.out _ HB5.out)).mono ?_); rintro e w7 ⟨rfl, hw7⟩; rw [hw7]; clear hw7 w7)
          | (refine ⟨trivial, ?_⟩; gi_at_call 19; (with_reducible refine (callsIn_wide.2 (HNX.out _ HB5.out)).mono ?_); rintro e w7 ⟨rfl, hw7⟩; rw [hw7]; clear hw7 w7))
        refine wpIn_wide.2 ?_
        obtain ⟨W6, hW6⟩ : ∃ W6, W6 = W5.drew := ⟨_, rfl⟩
        have hb6 : Below W.heap.size W W6 := by rw [hW6]; exact HB5.out.drew
        have HB6 := Lib.hid hb6
        obtain ⟨qs, _⟩ := HS.out _ hb6
        obtain ⟨q6, f6⟩ := H6.out _ hb6
        have HC := HLN.out W5 HB5.out
        rw [← hW6] at HC
        have HC := Lib.hid HC
        have HW6 := Lib.hid hW6
        clear hW6 hb6 hb5 HS H6 HAT HNX HLN H11 HB5 HD HBW
        refine region_tailQ 63 W6 HW6.out (by kernel_rfl) (by kernel_rfl) ?_
        clear HW6
        simp only [List.take_succ_cons, List.take_zero, List.drop_succ_cons, List.drop_zero]
        repeat (go_big_quiet_step (fail))
        go_big_quiet_want
        go_big_quiet_op
        apply Exists.intro
        refine ⟨HC.out, ?_⟩
        go_big_quiet_on
        repeat (go_big_quiet_step (fail))
        refine wpQuiet_nil ?_
        go_wp2
        gi_wp2
        obtain ⟨hkd, hx8, hbE⟩ := HEND.out _ HB6.out
        refine ⟨by simp, .inl ⟨_, _, rfl, run_takeDeferred hkd, ?_⟩⟩
        exact ⟨_, results_cellv rfl _ _ ⟨w.heap.size, 0, none⟩ _ rfl (load4 hx8.cell), rfl, hbE⟩
end Go.Proofs.Ytkebgcalphajhaa
