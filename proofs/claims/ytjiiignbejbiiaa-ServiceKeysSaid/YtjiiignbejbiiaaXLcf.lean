/- Contract of Good of package label. Conditions: at most 100,000 bytes. -/
import Derived.RangeFuncFrom
import Derived.RangeFuncLeaves
import Derived.Test.YtjiiignbejbiiaaXLce
namespace Go.Proofs.Ytjiiignbejbiiaa
open Go.Shelf Go.RowKit Go.Lib Go.Great
set_option maxRecDepth 100000
set_option maxHeartbeats 1000000
theorem cell_new_l (W : World) (v : Value) (t : TypeId) : (W.alloc (.cells #[v] t)).cell? ⟨W.heap.size, 0, none⟩ = some v ∧ (W.alloc (.cells #[v] t)).frozen? ⟨W.heap.size, 0, none⟩ = false :=
  ⟨by simp, by simp⟩
theorem cell_alloc_l {W : World} {a : Addr} {v : Value} (o : Obj) (h : W.cell? a = some v) : (W.alloc o).cell? a = some v := cell_kept h (World.grownBy_alloc W o none) (fun r e => by cases e)
theorem frozen_alloc_l {W : World} {a : Addr} {v : Value} (o : Obj) (h : W.cell? a = some v) (hf : W.frozen? a = false) : (W.alloc o).frozen? a = false := (frozen_kept h (World.grownBy_alloc W o none) (fun r e => by cases e)).trans hf
theorem below_others {W W' : World} (h : Below W.heap.size W W') : KeepsOthers W W' := ⟨h.size, fun k o hk _ => (h.block k (Array.getElem?_eq_some_iff.1 hk).1).trans hk⟩
theorem below_walks {W W' : World} (h : Below W.heap.size W W') : KeepsWalks W W' := ⟨h.size, fun k o hk _ => (h.block k (Array.getElem?_eq_some_iff.1 hk).1).trans hk⟩
theorem good_long (s : List UInt8) (h : 253 < s.length) (w : World) : Calls Try.prog 13 #[.string (bstr s)] w fun e w' => e = .returned (.bool false) ∧ Below w.heap.size w w' := by
  have hsz := bstr_size s
  obtain ⟨n, hn⟩ : ∃ n, n = s.length := ⟨_, rfl⟩
  rw [← hn] at hsz h
  have hgt : (253 : Int) < (n : Int) := by omega
  clear hn
  generalize bstr s = B at *
  have HB := Lib.hid ((Below.refl _ w).alloc (Nat.le_refl w.heap.size) (.cells #[.bool false] 4))
  have c0 := cell_new_l w (.bool false) 4
  have HC := Lib.hid c0.1
  go_enter Try.func13, Try.ntmps13
  go_wp2
  refine bodyPost_ret (v := .bool false) ?_ rfl ⟨rfl, HB.out⟩
  have hc := HC.out
  simp [results, Try.f13, go_sem, hc]
theorem good_short (s : List UInt8) (h : s.length ≤ 253) (w : World) : Calls Try.prog 13 #[.string (bstr s)] w fun e w' => e = .returned (.bool ((splitD s).all partL)) ∧ Below w.heap.size w w' := by
  have hsz := bstr_size s
  have hgt : ¬ (253 : Int) < (s.length : Int) := by omega
  have HBT := Lib.hid (fun W => btw_any s W)
  refine (callsIn_wide (n := 20)).1 ?_
  refine callsIn_of_wp_marks Try.func13 rfl trivial ?_ rfl
  simp only [Try.ntmps13, List.size_toArray, List.length_cons, List.length_nil, Nat.reduceAdd, Nat.reduceSub, Array.replicate_succ, Array.replicate_zero, List.push_toArray, List.append_toArray, List.nil_append, List.cons_append]
  gi_wp2_with (refine ⟨trivial, ?_⟩; gi_at_call 40; (with_reducible refine (callsIn_wide.2 (HBT.out _)).mono ?_); rintro e w' ⟨rfl, rfl⟩)
  have c0 := cell_new_l w (.bool false) 4
  have c1 := cell_new_l (w.alloc (.cells #[.bool false] 4)) (.string (bstr s)) 9
  simp only [World.size_alloc] at c1
  have hB0 : Below w.heap.size w ((w.alloc (.cells #[.bool false] 4)).alloc (.cells #[.string (bstr s)] 9)) := ((Below.refl _ w).alloc (Nat.le_refl _) _).alloc (by simp) _
  refine wpIn_rangeFunc_ownF (encs := fun p => #[encT p]) rfl (by omega) (gf := 52) (lb := #[.pointer (some ⟨w.heap.size + 1, 0, none⟩)]) rfl trivial (enters_of Try.func52 (by kernel_rfl) rfl)
    (btw_stops (20 - 1) (by omega) s (by omega) (w.heap.size + 1) ((w.alloc (.cells #[.bool false] 4)).alloc (.cells #[.string (bstr s)] 9)) (by simp) c1.1) walksK_t (fun W l o o' hl h1 h2 h3 => walksK_b (w := w) W l o o' (by simp at hl; omega) h1 h2 h3) (Below.refl _ _) (fun _ => rfl)
    (fun pre W => (pre.all partL = true ∧ W.cell? ⟨w.heap.size, 0, none⟩ = some (.bool false) ∧ W.frozen? ⟨w.heap.size, 0, none⟩ = false) ∧ Below w.heap.size w W)
    (fun c pre W => (c = .ret ∧ pre.all partL = false ∧ W.cell? ⟨w.heap.size, 0, none⟩ = some (.bool false)) ∧ Below w.heap.size w W)
    (OwnFrom.and (Own.from (fun s A B row hs hg hr => ⟨hs.1, cell_kept hs.2.1 hg hr, (frozen_kept hs.2.1 hg hr).trans hs.2.2⟩) _) (ownFrom_below (Nat.le_refl _) (by simp; omega)))
    (fun c => OwnFrom.and (Own.from (fun s A B row hs hg hr => ⟨hs.1, hs.2.1, cell_kept hs.2.2 hg hr⟩) _) (ownFrom_below (Nat.le_refl _) (by simp; omega)))
    ⟨⟨rfl, cell_alloc_l _ c0.1, frozen_alloc_l _ c0.1 c0.2⟩, hB0⟩
    (fun x => { tmps := #[.string (bstr s), undef, .pointer (some ⟨w.heap.size, 0, none⟩), encT x, .string (bstr s), .int .i64 s.length, .bool false, .string (bstr s), .func (.func 52) #[] #[.pointer (some ⟨w.heap.size + 1, 0, none⟩)], encT x, undef, undef, undef], defers := [] }) ?assign ?body ?done ?stop
  case assign =>
    intro l x W K hK
    have hsem := Oper.semAt_some l
    unfold encT at hK ⊢
    gi_wp2
    exact hK
  case body =>
    rintro l pre x W ⟨⟨hp, hc, hf⟩, hB⟩ _
    have HPA := Lib.hid (part_any x W)
    have hsem := Oper.semAt_some l
    have c10 : ∀ W1, Below W.heap.size W W1 → W1.cell? ⟨w.heap.size, 0, none⟩ = some (.bool false) ∧ W1.frozen? ⟨w.heap.size, 0, none⟩ = false := fun W1 h1 => ⟨cell_kept hc (below_grown h1) (fun r e => by cases e), (frozen_kept hc (below_grown h1) (fun r e => by cases e)).trans hf⟩
    have HC := Lib.hid c10
    have HBW := Lib.hid hB
    clear c10 hc hf hB
    unfold encT
    cases hx : partL x
    · rw [hx] at HPA
      gi_wp2_with (refine ⟨trivial, ?_⟩; gi_at_call 11; (with_reducible refine (CallsIn.inRound l (callsIn_wide.2 HPA.out)).mono ?_); rintro e w1 ⟨rfl, hb1⟩; obtain ⟨k1, k2⟩ := HC.out _ hb1)
      exact ⟨(below_others hb1).trans (KeepsOthers.setCell _ _ _), ⟨rfl, by simp [hx], World.cell?_setCell_same' _ _ _ (by rw [k1]; rfl)⟩, (HBW.out.trans (hb1.mono HBW.out.size)).setCell (p := ⟨w.heap.size, 0, none⟩) (by simp) _⟩
    · rw [hx] at HPA
      gi_wp2_with (refine ⟨trivial, ?_⟩; gi_at_call 11; (with_reducible refine (CallsIn.inRound l (callsIn_wide.2 HPA.out)).mono ?_); rintro e w1 ⟨rfl, hb1⟩; obtain ⟨k1, k2⟩ := HC.out _ hb1)
      exact ⟨below_others hb1, below_walks hb1, ⟨by simp [hx, hp], k1, k2⟩, HBW.out.trans (hb1.mono HBW.out.size)⟩
  case done =>
    rintro D ys W hD rfl ⟨⟨hp, hc, hf⟩, hB⟩ hK
    gi_wp2
    have hK' := (KeepsOthers.setCell W ⟨w.heap.size, 0, none⟩ (.bool true)).same D _ hK rfl
    refine ⟨by simp, .inl ⟨_, _, rfl, run_takeDeferred hK', ?_⟩⟩
    have hc5 := cell_kept (World.cell?_setCell_same' W ⟨w.heap.size, 0, none⟩ (.bool true) (by rw [hc]; rfl)) (grownBy_putObj' _ D (.deferred none)) (fun r e => by cases e; exact ⟨_, hK', rfl⟩)
    refine ⟨.bool true, ?_, by rw [hp], (hB.setCell (p := ⟨w.heap.size, 0, none⟩) (by simp) _).trans (belowK_b (w := w) (Nat.le_refl _) _ D _ _ (by simp at hD; omega) hK' rfl rfl)⟩
    simp [results, Try.f13, go_sem, hc5]
  case stop =>
    rintro D c pre W hD hpre ⟨⟨rfl, hp, hc⟩, hB⟩ hK
    gi_wp2
    refine ⟨by simp, .inl ⟨_, _, rfl, run_takeDeferred hK, ?_⟩⟩
    have hc5 := cell_kept hc (grownBy_putObj' _ D (.deferred none)) (fun r e => by cases e; exact ⟨_, hK, rfl⟩)
    refine ⟨.bool false, ?_, ?_, hB.trans (belowK_b (w := w) (Nat.le_refl _) W D _ _ (by simp at hD; omega) hK rfl rfl)⟩
    · simp [results, Try.f13, go_sem, hc5]
    · have : (splitD s).all partL = false := by
        obtain ⟨t, ht⟩ := hpre
        rw [← ht, List.all_append, hp, Bool.false_and]
      rw [this]
end Go.Proofs.Ytjiiignbejbiiaa
