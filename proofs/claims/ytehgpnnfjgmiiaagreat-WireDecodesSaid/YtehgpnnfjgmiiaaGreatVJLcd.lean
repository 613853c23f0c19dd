/- Contract of between, and of Part. Conditions: at most 100,000 bytes. Contract of Part. Conditions: at most 100,000 bytes. Contract of Good of package label. Conditions: at most 100,000 bytes. Contract of Parts of package label. Conditions: at most 100,000 bytes. Contracts of Fold and Same of package label. Conditions: at most 100,000 bytes. Contracts of Same and Under of package label. Conditions: at most 100,000 bytes. Contract of read of package label. Conditions: at most 255 bytes. -/
import Derived.Test.YtehgpnnfjgmiiaaGreatProg
import Derived.Test.YtehgpnnfjgmiiaaGreatVKCdi
import Derived.RangeFuncFrom
import Derived.RangeFuncLeaves
import Derived.Lib.ConvBytes
section
namespace Go.Proofs.YtehgpnnfjgmiiaaGreat
open Go.Shelf Go.RowKit Go.Lib Go.Great
set_option maxRecDepth 100000
set_option maxHeartbeats 1000000
theorem btw_any (s : List UInt8) (w : World) : Calls Tryz.prog 120 #[.string (bstr s)] w fun e w' => e = .returned (.func (.func 130) #[] #[.pointer (some ⟨w.heap.size, 0, none⟩)]) ∧ w' = w.alloc (.cells #[.string (bstr s)] 9) := by
  go_enter Tryz.func120, Tryz.ntmps120
  go_wp2
  go_ret
  exact ⟨rfl, rfl⟩
theorem bstr_empty (s : List UInt8) : (bstr s).toList.isEmpty = decide (s.length = 0) := by
  rw [← decide_eq_emptyBytes]
  by_cases h : s.length = 0
  · obtain rfl := List.length_eq_zero_iff.1 h
    rfl
  · rw [decide_eq_false h, decide_eq_false]
    intro e
    have := congrArg ByteArray.size e
    rw [bstr_size] at this
    exact h this
theorem part_long (s : List UInt8) (h : s.length = 0 ∨ 63 < s.length) (w : World) : Calls Tryz.prog 121 #[.string (bstr s)] w fun e w' => e = .returned (.bool false) ∧ Below w.heap.size w w' := by
  have hsz := bstr_size s
  have he := bstr_empty s
  rcases h with h | h
  · rw [decide_eq_true h] at he
    generalize bstr s = B at *
    clear hsz h
    go_enter Tryz.func121, Tryz.ntmps121
    go_wp2
    go_ret
    exact ⟨rfl, Below.refl _ _⟩
  · rw [decide_eq_false (by omega)] at he
    have hgt : (63 : Int) < ((bstr s).size : Int) := by omega
    generalize bstr s = B at *
    clear hsz h
    go_enter Tryz.func121, Tryz.ntmps121
    go_wp2
    go_ret
    exact ⟨rfl, Below.refl _ _⟩
/-- The bytes ahead of a place fit. -/
def fitsTo (s : List UInt8) (i : Nat) : Prop := ∀ j, j < i → fitsB s[j]! (decide (j = 0) || decide (j = s.length - 1)) = true
def PartR (s : List UInt8) (B : Nat) (w : World) (i : Value) (wr : World) : Prop := ∃ k : Nat, i = .int .i64 (k : Int) ∧ k ≤ s.length ∧ fitsTo s k ∧ Below B w wr
theorem bstr_get (s : List UInt8) (k : Nat) (hk : k < (bstr s).size) : (bstr s)[k] = s[k]! := by
  have : k < s.length := by rw [← bstr_size s]; exact hk
  simp [bstr, ByteArray.getElem_eq_getElem_data, this]
theorem part_short (s : List UInt8) (h1 : 1 ≤ s.length) (h2 : s.length ≤ 63) (w : World) : Calls Tryz.prog 121 #[.string (bstr s)] w fun e w' => (∃ b, e = .returned (.bool b) ∧ (b = true ↔ fitsTo s s.length)) ∧ Below w.heap.size w w' := by
  have hsz := bstr_size s
  have he := bstr_empty s
  rw [decide_eq_false (by omega)] at he
  have HB := Lib.hid (bstr_get s)
  have R0 : Hid (PartR s w.heap.size w (.int .i64 0) w) := Lib.hid ⟨0, rfl, by omega, fun j hj => absurd hj (by omega), Below.refl _ _⟩
  obtain ⟨n, hn⟩ : ∃ n, n = s.length := ⟨_, rfl⟩
  rw [← hn] at hsz h1 h2 ⊢
  have HN := Lib.hid hn
  clear hn
  generalize bstr s = B at *
  have hgt : ¬ (63 : Int) < (n : Int) := by omega
  go_enter Tryz.func121, Tryz.ntmps121
  go_upto_region 4 with fail
  go_loopw [13] (PartR s w.heap.size w) (fun i _ => n - (RowKit.intOf i).toNat)
  case atStart => exact R0.out
  case round =>
    obtain ⟨k, rfl, hk, hF, hb⟩ := hrel
    rw [← HN.out] at hk
    clear R0
    have HF := Lib.hid hF
    have HBW := Lib.hid hb
    clear hF hb
    by_cases hlt : k < n
    · have hlt' : (k : Int) < (n : Int) := by omega
      have hget := HB.out k (by omega)
      have hbyte := B[k].toNat_lt
      obtain ⟨q, hq⟩ : ∃ q, q = (decide (k = 0) || decide (k = n - 1)) := ⟨_, rfl⟩
      have HFI := Lib.hid (fun W => fits_any s[k]! q W)
      have HNEXT : Hid (fitsB s[k]! q = true → PartR s w.heap.size w (.int .i64 ((k : Int) + 1)) wr) := Lib.hid (fun h => ⟨k + 1, by simp, by rw [← HN.out]; omega, fun j hj => by
        by_cases e : j = k
        · subst e
          rw [← HN.out, ← hq]
          exact h
        · exact HF.out j (by omega), HBW.out⟩)
      have HSTOP : Hid (fitsB s[k]! q = false → ¬ fitsTo s n) := Lib.hid (fun h hf => by
        have := hf k hlt
        rw [← HN.out, ← hq, h] at this
        cases this)
      clear HB HF hbyte
      generalize s[k]! = ch at *
      generalize fitsB ch q = r at *
      by_cases k0 : k = 0
      · subst k0
        obtain rfl : q = true := by simpa using hq
        clear hq
        cases r
        · go_wp2_with (go_at_call 132; (with_reducible refine (HFI.out _).mono ?_); rintro e w1 ⟨rfl, rfl⟩)
          go_ret
          exact ⟨⟨false, rfl, fun h => (by cases h), fun h => absurd h (HSTOP.out (by trivial))⟩, HBW.out⟩
        · go_wp2_with (go_at_call 132; (with_reducible refine (HFI.out _).mono ?_); rintro e w1 ⟨rfl, rfl⟩)
          go_roundw
          case rel => exact HNEXT.out (by trivial)
          case measure => simp [RowKit.intOf]; omega
      · have k0' : ((k : Int) == 0) = false := by simp; omega
        by_cases kn : k = n - 1
        · obtain rfl : q = true := by simpa [kn] using hq
          clear hq
          have kn' : ((k : Int) == (n : Int) - 1) = true := by simp; omega
          clear kn
          cases r
          · go_wp2_with (go_at_call 132; (with_reducible refine (HFI.out _).mono ?_); rintro e w1 ⟨rfl, rfl⟩)
            go_ret
            exact ⟨⟨false, rfl, fun h => (by cases h), fun h => absurd h (HSTOP.out (by trivial))⟩, HBW.out⟩
          · go_wp2_with (go_at_call 132; (with_reducible refine (HFI.out _).mono ?_); rintro e w1 ⟨rfl, rfl⟩)
            go_roundw
            case rel => exact HNEXT.out (by trivial)
            case measure => simp [RowKit.intOf]; omega
        · have kn' : ((k : Int) == (n : Int) - 1) = false := by simp; omega
          obtain rfl : q = false := by simpa [k0, kn] using hq
          clear hq kn
          cases r
          · go_wp2_with (go_at_call 132; go_loud ((with_reducible refine (HFI.out _).mono ?_); rintro e w1 ⟨rfl, rfl⟩))
            go_ret
            exact ⟨⟨false, rfl, fun h => (by cases h), fun h => absurd h (HSTOP.out (by trivial))⟩, HBW.out⟩
          · go_wp2_with (go_at_call 132; (with_reducible refine (HFI.out _).mono ?_); rintro e w1 ⟨rfl, rfl⟩)
            go_roundw
            case rel => exact HNEXT.out (by trivial)
            case measure => simp [RowKit.intOf]; omega
    · obtain rfl : k = n := by omega
      have HT : Hid (fitsTo s k) := HF
      clear HF HB
      go_wp2
      go_ret
      exact ⟨⟨true, rfl, fun _ => HT.out, fun _ => rfl⟩, HBW.out⟩
end Go.Proofs.YtehgpnnfjgmiiaaGreat
end
section
namespace Go.Proofs.YtehgpnnfjgmiiaaGreat
open Go.Shelf Go.RowKit Go.Lib Go.Great
set_option maxRecDepth 100000
set_option maxHeartbeats 1000000
theorem fitsB_iff (c : UInt8) (b : Bool) : fitsB c b = true ↔ nameB c = true ∧ (c = 45 → b = false) := by
  have hc : (c = 45) ↔ c.toNat = 45 := ⟨fun h => by rw [h]; rfl, fun h => UInt8.toNat_inj.1 (by rw [h]; rfl)⟩
  rw [hc]
  unfold fitsB nameB letB capB digitB
  by_cases h : c.toNat = 45
  · rw [if_pos h]
    simp [h]
  · rw [if_neg h]
    simp only [Bool.or_eq_true, Bool.and_eq_true, decide_eq_true_iff, beq_iff_eq]
    omega
theorem fits_part (s : List UInt8) (h1 : 1 ≤ s.length) (h2 : s.length ≤ 63) : fitsTo s s.length ↔ partL s = true := by
  rw [partL_iff]
  constructor
  · intro h
    refine ⟨⟨h1, h2⟩, fun c hc => ?_, ?_, ?_⟩
    · obtain ⟨i, hi, rfl⟩ := List.mem_iff_getElem.1 hc
      have := ((fitsB_iff _ _).1 (h i hi)).1
      rwa [getElem!_pos s i hi] at this
    · intro e
      have := ((fitsB_iff _ _).1 (h 0 (by omega))).2 e
      simp at this
    · intro e
      have := ((fitsB_iff _ _).1 (h (s.length - 1) (by omega))).2 e
      simp at this
  · rintro ⟨_, h3, h4, h5⟩ j hj
    refine (fitsB_iff _ _).2 ⟨by rw [getElem!_pos s j hj]; exact h3 _ (List.getElem_mem hj), fun e => ?_⟩
    rw [Bool.or_eq_false_iff, decide_eq_false_iff_not, decide_eq_false_iff_not]
    exact ⟨fun e0 => h4 (e0 ▸ e), fun e0 => h5 (e0 ▸ e)⟩
theorem part_any (s : List UInt8) (w : World) : Calls Tryz.prog 121 #[.string (bstr s)] w fun e w' => e = .returned (.bool (partL s)) ∧ Below w.heap.size w w' := by
  by_cases h : s.length = 0 ∨ 63 < s.length
  · have : partL s = false := by
      rw [← Bool.not_eq_true, partL_iff]
      omega
    rw [this]
    exact part_long s h w
  · refine (part_short s (by omega) (by omega) w).mono ?_
    rintro e w' ⟨⟨b, rfl, hb⟩, hw⟩
    refine ⟨?_, hw⟩
    rw [Bool.eq_iff_iff.2 (hb.trans (fits_part s (by omega) (by omega)))]
end Go.Proofs.YtehgpnnfjgmiiaaGreat
end
section
namespace Go.Proofs.YtehgpnnfjgmiiaaGreat
open Go.Shelf Go.RowKit Go.Lib Go.Great
set_option maxRecDepth 100000
set_option maxHeartbeats 1000000
theorem cell_new_l (W : World) (v : Value) (t : TypeId) : (W.alloc (.cells #[v] t)).cell? ⟨W.heap.size, 0, none⟩ = some v ∧ (W.alloc (.cells #[v] t)).frozen? ⟨W.heap.size, 0, none⟩ = false :=
  ⟨by simp, by simp⟩
theorem cell_alloc_l {W : World} {a : Addr} {v : Value} (o : Obj) (h : W.cell? a = some v) : (W.alloc o).cell? a = some v := cell_kept h (World.grownBy_alloc W o none) (fun r e => by cases e)
theorem frozen_alloc_l {W : World} {a : Addr} {v : Value} (o : Obj) (h : W.cell? a = some v) (hf : W.frozen? a = false) : (W.alloc o).frozen? a = false := (frozen_kept h (World.grownBy_alloc W o none) (fun r e => by cases e)).trans hf
theorem below_others {W W' : World} (h : Below W.heap.size W W') : KeepsOthers W W' := ⟨h.size, fun k o hk _ => (h.block k (Array.getElem?_eq_some_iff.1 hk).1).trans hk⟩
theorem below_walks {W W' : World} (h : Below W.heap.size W W') : KeepsWalks W W' := ⟨h.size, fun k o hk _ => (h.block k (Array.getElem?_eq_some_iff.1 hk).1).trans hk⟩
theorem good_long (s : List UInt8) (h : 253 < s.length) (w : World) : Calls Tryz.prog 103 #[.string (bstr s)] w fun e w' => e = .returned (.bool false) ∧ Below w.heap.size w w' := by
  have hsz := bstr_size s
  obtain ⟨n, hn⟩ : ∃ n, n = s.length := ⟨_, rfl⟩
  rw [← hn] at hsz h
  have hgt : (253 : Int) < (n : Int) := by omega
  clear hn
  generalize bstr s = B at *
  have HB := Lib.hid ((Below.refl _ w).alloc (Nat.le_refl w.heap.size) (.cells #[.bool false] 4))
  have c0 := cell_new_l w (.bool false) 4
  have HC := Lib.hid c0.1
  go_enter Tryz.func103, Tryz.ntmps103
  go_wp2
  refine bodyPost_ret (v := .bool false) ?_ rfl ⟨rfl, HB.out⟩
  have hc := HC.out
  simp [results, Tryz.f103, go_sem, hc]
theorem good_short (s : List UInt8) (h : s.length ≤ 253) (w : World) : Calls Tryz.prog 103 #[.string (bstr s)] w fun e w' => e = .returned (.bool ((splitD s).all partL)) ∧ Below w.heap.size w w' := by
  have hsz := bstr_size s
  have hgt : ¬ (253 : Int) < (s.length : Int) := by omega
  have HBT := Lib.hid (fun W => btw_any s W)
  refine (callsIn_wide (n := 20)).1 ?_
  refine callsIn_of_wp_marks Tryz.func103 rfl trivial ?_ rfl
  simp only [Tryz.ntmps103, List.size_toArray, List.length_cons, List.length_nil, Nat.reduceAdd, Nat.reduceSub, Array.replicate_succ, Array.replicate_zero, List.push_toArray, List.append_toArray, List.nil_append, List.cons_append]
  gi_wp2_with (refine ⟨trivial, ?_⟩; gi_at_call 120; (with_reducible refine (callsIn_wide.2 (HBT.out _)).mono ?_); rintro e w' ⟨rfl, rfl⟩)
  have c0 := cell_new_l w (.bool false) 4
  have c1 := cell_new_l (w.alloc (.cells #[.bool false] 4)) (.string (bstr s)) 9
  simp only [World.size_alloc] at c1
  have hB0 : Below w.heap.size w ((w.alloc (.cells #[.bool false] 4)).alloc (.cells #[.string (bstr s)] 9)) := ((Below.refl _ w).alloc (Nat.le_refl _) _).alloc (by simp) _
  refine wpIn_rangeFunc_ownF (encs := fun p => #[encT p]) rfl (by omega) (gf := 130) (lb := #[.pointer (some ⟨w.heap.size + 1, 0, none⟩)]) rfl trivial (enters_of Tryz.func130 (by kernel_rfl) rfl)
    (btw_stops (20 - 1) (by omega) s (by omega) (w.heap.size + 1) ((w.alloc (.cells #[.bool false] 4)).alloc (.cells #[.string (bstr s)] 9)) (by simp) c1.1) walksK_t (fun W l o o' hl h1 h2 h3 => walksK_b (w := w) W l o o' (by simp at hl; omega) h1 h2 h3) (Below.refl _ _) (fun _ => rfl)
    (fun pre W => (pre.all partL = true ∧ W.cell? ⟨w.heap.size, 0, none⟩ = some (.bool false) ∧ W.frozen? ⟨w.heap.size, 0, none⟩ = false) ∧ Below w.heap.size w W)
    (fun c pre W => (c = .ret ∧ pre.all partL = false ∧ W.cell? ⟨w.heap.size, 0, none⟩ = some (.bool false)) ∧ Below w.heap.size w W)
    (OwnFrom.and (Own.from (fun s A B row hs hg hr => ⟨hs.1, cell_kept hs.2.1 hg hr, (frozen_kept hs.2.1 hg hr).trans hs.2.2⟩) _) (ownFrom_below (Nat.le_refl _) (by simp; omega)))
    (fun c => OwnFrom.and (Own.from (fun s A B row hs hg hr => ⟨hs.1, hs.2.1, cell_kept hs.2.2 hg hr⟩) _) (ownFrom_below (Nat.le_refl _) (by simp; omega)))
    ⟨⟨rfl, cell_alloc_l _ c0.1, frozen_alloc_l _ c0.1 c0.2⟩, hB0⟩
    (fun x => { tmps := #[.string (bstr s), undef, .pointer (some ⟨w.heap.size, 0, none⟩), encT x, .string (bstr s), .int .i64 s.length, .bool false, .string (bstr s), .func (.func 130) #[] #[.pointer (some ⟨w.heap.size + 1, 0, none⟩)], encT x, undef, undef, undef], defers := [] }) ?assign ?body ?done ?stop
  case assign =>
    intro l x W K hK
    have hsem := Oper.semAt_some l
    unfold encT at hK ⊢
    gi_wp2
    exact hK
  case body =>
    rintro l pre x W ⟨⟨hp, hc, hf⟩, hB⟩ _
    have HPA := Lib.hid (part_any x W)
    have hsem := Oper.semAt_some l
    have c10 : ∀ W1, Below W.heap.size W W1 → W1.cell? ⟨w.heap.size, 0, none⟩ = some (.bool false) ∧ W1.frozen? ⟨w.heap.size, 0, none⟩ = false := fun W1 h1 => ⟨cell_kept hc (below_grown h1) (fun r e => by cases e), (frozen_kept hc (below_grown h1) (fun r e => by cases e)).trans hf⟩
    have HC := Lib.hid c10
    have HBW := Lib.hid hB
    clear c10 hc hf hB
    unfold encT
    cases hx : partL x
    · rw [hx] at HPA
      gi_wp2_with (refine ⟨trivial, ?_⟩; gi_at_call 121; (with_reducible refine (CallsIn.inRound l (callsIn_wide.2 HPA.out)).mono ?_); rintro e w1 ⟨rfl, hb1⟩; obtain ⟨k1, k2⟩ := HC.out _ hb1)
      exact ⟨(below_others hb1).trans (KeepsOthers.setCell _ _ _), ⟨rfl, by simp [hx], World.cell?_setCell_same' _ _ _ (by rw [k1]; rfl)⟩, (HBW.out.trans (hb1.mono HBW.out.size)).setCell (p := ⟨w.heap.size, 0, none⟩) (by simp) _⟩
    · rw [hx] at HPA
      gi_wp2_with (refine ⟨trivial, ?_⟩; gi_at_call 121; (with_reducible refine (CallsIn.inRound l (callsIn_wide.2 HPA.out)).mono ?_); rintro e w1 ⟨rfl, hb1⟩; obtain ⟨k1, k2⟩ := HC.out _ hb1)
      exact ⟨below_others hb1, below_walks hb1, ⟨by simp [hx, hp], k1, k2⟩, HBW.out.trans (hb1.mono HBW.out.size)⟩
  case done =>
    rintro D ys W hD rfl ⟨⟨hp, hc, hf⟩, hB⟩ hK
    gi_wp2
    have hK' := (KeepsOthers.setCell W ⟨w.heap.size, 0, none⟩ (.bool true)).same D _ hK rfl
    refine ⟨by simp, .inl ⟨_, _, rfl, run_takeDeferred hK', ?_⟩⟩
    have hc5 := cell_kept (World.cell?_setCell_same' W ⟨w.heap.size, 0, none⟩ (.bool true) (by rw [hc]; rfl)) (grownBy_putObj' _ D (.deferred none)) (fun r e => by cases e; exact ⟨_, hK', rfl⟩)
    refine ⟨.bool true, ?_, by rw [hp], (hB.setCell (p := ⟨w.heap.size, 0, none⟩) (by simp) _).trans (belowK_b (w := w) (Nat.le_refl _) _ D _ _ (by simp at hD; omega) hK' rfl rfl)⟩
    simp [results, Tryz.f103, go_sem, hc5]
  case stop =>
    rintro D c pre W hD hpre ⟨⟨rfl, hp, hc⟩, hB⟩ hK
    gi_wp2
    refine ⟨by simp, .inl ⟨_, _, rfl, run_takeDeferred hK, ?_⟩⟩
    have hc5 := cell_kept hc (grownBy_putObj' _ D (.deferred none)) (fun r e => by cases e; exact ⟨_, hK, rfl⟩)
    refine ⟨.bool false, ?_, ?_, hB.trans (belowK_b (w := w) (Nat.le_refl _) W D _ _ (by simp at hD; omega) hK rfl rfl)⟩
    · simp [results, Tryz.f103, go_sem, hc5]
    · have : (splitD s).all partL = false := by
        obtain ⟨t, ht⟩ := hpre
        rw [← ht, List.all_append, hp, Bool.false_and]
      rw [this]
end Go.Proofs.YtehgpnnfjgmiiaaGreat
end
section
namespace Go.Proofs.YtehgpnnfjgmiiaaGreat
open Go.Shelf Go.RowKit Go.Lib Go.Great
set_option maxRecDepth 100000
set_option maxHeartbeats 1000000
/-- A slice of texts of its own. -/
def OwnT (B : Nat) (v : Value) (L : List (List UInt8)) (w : World) : Prop := w.ownsRow B 9 1 v L.length (L.map encT)
end Go.Proofs.YtehgpnnfjgmiiaaGreat
end
section
namespace Go.Proofs.YtehgpnnfjgmiiaaGreat
open Go.Shelf Go.RowKit Go.Lib Go.Great
set_option maxRecDepth 100000
set_option maxHeartbeats 1000000
/-- The bytes stand in the block g, and may be written. -/
structure BytesIn (w : World) (g : Nat) (ys : List UInt8) (W : World) : Prop where
  cell : ∀ j (h : j < ys.length), W.cell? ⟨g, j, none⟩ = some (.int .u8 (ys[j].toNat : Int))
  free : ∀ j, j < ys.length → W.frozen? ⟨g, j, none⟩ = false
  bel : Below w.heap.size w W
  lt : g < W.heap.size
theorem BytesIn.set {w W : World} {g i : Nat} {ys : List UInt8} (h : BytesIn w g ys W) (hg : w.heap.size ≤ g) (hi : i < ys.length) (c : UInt8) : BytesIn w g (ys.set i c) (W.setCell ⟨g, i, none⟩ (.int .u8 (c.toNat : Int))) :=
  ⟨fun j hj => by
    rw [List.length_set] at hj
    by_cases e : i = j
    · subst e
      rw [World.cell?_setCell_same' _ _ _ (by rw [h.cell i hi]; rfl)]
      simp
    · rw [World.cell?_setCell_other _ ⟨g, i, none⟩ ⟨g, j, none⟩ _ (fun he => e (by injection he)), h.cell j hj]
      simp [e],
   fun j hj => by rw [World.frozen?_setCell]; exact h.free j (by simpa using hj), h.bel.setCell (p := ⟨g, i, none⟩) hg _, by rw [World.size_setCell]; exact h.lt⟩
theorem BytesIn.bat {w W : World} {g : Nat} {ys : List UInt8} (h : BytesIn w g ys W) : BAt W W.heap.size (some ⟨g, 0, none⟩) ys :=
  .inr ⟨g, 0, rfl, h.lt, fun j hj => by rw [Nat.zero_add]; exact h.cell j hj⟩
theorem str_in (xs : List UInt8) (w : World) : ∃ c W', (convert 9 31 (.string (bstr xs))).run Tryz.prog w = .ok (.slice (some ⟨w.heap.size, 0, none⟩) xs.length c) W' ∧ BytesIn w w.heap.size xs W' ∧ xs.length ≤ c := by
  have hr := Lib.run_convert_string_bytes (P := Tryz.prog) w 9 31 5 (bstr xs) Tryz.underlying9 Tryz.underlying31 Tryz.underlying5
  refine ⟨_, _, hr, ⟨fun j hj => ?_, fun j hj => ?_, ?_, ?_⟩, ?_⟩
  · rw [Lib.bytesWorld_cell w 5 (bstr xs) j hj]
    simp [bstr, List.getElem?_eq_getElem hj]
  · have hz := bstr_size xs
    simp [World.frozen?, bytesWorld_at_new, bytesCells]
    omega
  · refine ⟨rfl, rfl, rfl, by rw [Lib.bytesWorld_size]; omega, fun k hk => Lib.bytesWorld_at_old w 5 (bstr xs) k hk⟩
  · rw [Lib.bytesWorld_size]; omega
  · exact grownCap_ge w xs.length 0 5
def FoldR (s : List UInt8) (w : World) (i : Value) (wr : World) : Prop := ∃ k : Nat, i = .int .i64 (k : Int) ∧ k ≤ s.length ∧ BytesIn w w.heap.size (foldL (s.take k) ++ s.drop k) wr
theorem foldC_eq (c : UInt8) : (65 ≤ c.toNat ∧ c.toNat ≤ 90 → ((c.toNat : Int) - 65 + 97) % 256 = ((foldC c).toNat : Int)) ∧ (¬ (65 ≤ c.toNat ∧ c.toNat ≤ 90) → foldC c = c) := by
  have h8 := c.toNat_lt
  refine ⟨fun h => ?_, fun h => by rw [foldC, if_neg h]⟩
  have e : (foldC c).toNat = c.toNat + 32 := by
    rw [foldC, if_pos h, UInt8.toNat_add]
    simp
    omega
  rw [e]
  omega
theorem fold_step (s : List UInt8) (k : Nat) (hk : k < s.length) : (foldL (s.take k) ++ s.drop k).set k (foldC s[k]) = foldL (s.take (k + 1)) ++ s.drop (k + 1) := by
  have hl : (foldL (s.take k)).length = k := by rw [foldL_length, List.length_take]; omega
  rw [List.set_append_right _ _ (by omega), hl, Nat.sub_self, List.drop_eq_getElem_cons hk, List.set_cons_zero, List.take_succ_eq_append_getElem hk, show foldL (s.take k ++ [s[k]]) = foldL (s.take k) ++ [foldC s[k]] by simp only [foldL, List.map_append, List.map_cons, List.map_nil], List.append_assoc]
  rfl
theorem fold_at (s : List UInt8) (k : Nat) (hk : k < s.length) : (foldL (s.take k) ++ s.drop k)[k]'(by simp [foldL_length]; omega) = s[k] := by
  have hl : (foldL (s.take k)).length = k := by rw [foldL_length, List.length_take]; omega
  rw [List.getElem_append_right (by omega)]
  simp [hl]
theorem fold_any (s : List UInt8) (hs : s.length ≤ 100000) (w : World) : Calls Tryz.prog 104 #[.string (bstr s)] w fun e w' => e = .returned (.string (bstr (foldL s))) ∧ Below w.heap.size w w' := by
  obtain ⟨c, W1, hcv, hB1, hc⟩ := str_in s w
  have R0 : Hid (FoldR s w (.int .i64 0) W1) := Lib.hid ⟨0, rfl, by omega, by simpa [foldL] using hB1⟩
  have HCONV : Hid (∀ W, BytesIn w w.heap.size (foldL s) W → (convert 31 9 (.slice (some ⟨w.heap.size, 0, none⟩) s.length c)).run Tryz.prog W = .ok (.string (bstr (foldL s))) W) := Lib.hid (fun W h => by
    have := run_convert_bat (P := Tryz.prog) 31 9 5 c Tryz.underlying31 Tryz.underlying5 Tryz.underlying9 h.bat
    rwa [foldL_length] at this)
  have HCAP := Lib.hid (fun c W => cap_any c W)
  obtain ⟨n, hn⟩ : ∃ n, n = s.length := ⟨_, rfl⟩
  have HN := Lib.hid hn
  rw [← hn] at hcv HCONV hs hc
  clear hB1 hn
  generalize hS : bstr s = S at *
  generalize hT : bstr (foldL s) = T at *
  clear hS hT
  go_enter Tryz.func104, Tryz.ntmps104
  go_upto_region 3 with fail
  go_loopw [10] (FoldR s w) (fun i _ => n - (RowKit.intOf i).toNat)
  case atStart => exact R0.out
  case round =>
    obtain ⟨k, rfl, hk, hB⟩ := hrel
    rw [← HN.out] at hk
    clear R0 hcv
    by_cases hlt : k < n
    · have hlt' : (k : Int) < (n : Int) := by omega
      have hls : k < s.length := by rw [← HN.out]; exact hlt
      have hll : k < (foldL (s.take k) ++ s.drop k).length := by rw [List.length_append, foldL_length, List.length_take, List.length_drop]; omega
      have hget := hB.cell k hll
      rw [fold_at s k hls] at hget
      have hfree := hB.free k hll
      have HB2 := Lib.hid (hB.set (Nat.le_refl _) hll (foldC s[k]))
      rw [fold_step s k hls] at HB2
      have HSAME : Hid (foldC s[k] = s[k] → BytesIn w w.heap.size (foldL (s.take (k + 1)) ++ s.drop (k + 1)) wr) := Lib.hid (fun e => by
        rw [← fold_step s k hls, e]
        have : (foldL (s.take k) ++ s.drop k).set k s[k] = foldL (s.take k) ++ s.drop k := by
          rw [← fold_at s k hls, List.set_getElem_self]
        rw [this]
        exact hB)
      have HQ := Lib.hid (foldC_eq s[k])
      have hbyte := s[k].toNat_lt
      have HK1 : Hid (k + 1 ≤ s.length) := Lib.hid hls
      clear hB hll hk
      generalize s[k] = ch at *
      clear hls
      cases hcb : capB ch
      · have HF : Hid (foldC ch = ch) := Lib.hid (HQ.out.2 (fun h => by simp [capB] at hcb; omega))
        have HCB := Lib.hid hcb
        clear hcb
        go_wp2_with (go_at_call 122; (with_reducible refine (HCAP.out _ _).mono ?_); rw [HCB.out]; rintro e w1 ⟨rfl, rfl⟩)
        go_roundw
        case rel => exact ⟨k + 1, by simp, HK1.out, HSAME.out HF.out⟩
        case measure => simp [RowKit.intOf]; omega
      · have hwr := HQ.out.1 (by simp [capB] at hcb; omega)
        have HCB := Lib.hid hcb
        clear hcb
        go_wp2_with (go_at_call 122; (with_reducible refine (HCAP.out _ _).mono ?_); rw [HCB.out]; rintro e w1 ⟨rfl, rfl⟩)
        go_roundw
        case rel => exact ⟨k + 1, by simp, HK1.out, HB2.out⟩
        case measure => simp [RowKit.intOf]; omega
    · obtain rfl : k = n := by omega
      have hB' : BytesIn w w.heap.size (foldL s) wr := by
        rw [HN.out, List.take_length, List.drop_length, List.append_nil] at hB
        exact hB
      have HBW := Lib.hid hB'.bel
      have hcv2 := HCONV.out wr hB'
      clear hB hB' HCONV
      go_wp2
      go_ret
      exact ⟨rfl, HBW.out⟩
end Go.Proofs.YtehgpnnfjgmiiaaGreat
end
section
namespace Go.Proofs.YtehgpnnfjgmiiaaGreat
open Go.Shelf Go.RowKit Go.Lib Go.Great
set_option maxRecDepth 100000
set_option maxHeartbeats 1000000
theorem bstr_list (a : List UInt8) : (bstr a).toList = a := by rw [ByteArray.toList_eq]; simp [bstr]
/-- The address leads to the texts L, in a block below B. -/
def SAt (w : World) (B : Nat) (A : Option Addr) (L : List (List UInt8)) : Prop := L = [] ∨ ∃ g off, A = some ⟨g, off, none⟩ ∧ g < B ∧ ∀ j (h : j < L.length), w.cell? ⟨g, off + j, none⟩ = some (encT L[j])
theorem SAt.below {w w' : World} {B : Nat} {A : Option Addr} {L : List (List UInt8)} (h : SAt w B A L) (hb : Below B w w') : SAt w' B A L := by
  rcases h with h | ⟨g, off, e, hg, hr⟩
  · exact .inl h
  · exact .inr ⟨g, off, e, hg, fun j hj => by rw [hb.cell (p := ⟨g, off + j, none⟩) hg]; exact hr j hj⟩
theorem SAt.more {w : World} {B B' : Nat} {A : Option Addr} {L : List (List UInt8)} (h : SAt w B A L) (hB : B ≤ B') : SAt w B' A L := by
  rcases h with h | ⟨g, off, e, hg, hr⟩
  · exact .inl h
  · exact .inr ⟨g, off, e, by omega, hr⟩
theorem OwnT.at_ {w : World} {base : Nat} {v : Value} {L : List (List UInt8)} (h : OwnT base v L w) : ∃ A c, v = .slice A L.length c ∧ L.length ≤ c ∧ SAt w w.heap.size A L := by
  unfold OwnT at h
  rcases h.2 with ⟨hv, hn⟩ | ⟨g, cap, cur, hv, hb, hg, hn, _⟩
  · exact ⟨none, 0, by rw [hv, hn], by omega, .inl (List.eq_nil_of_length_eq_zero hn)⟩
  · exact ⟨some ⟨g, 0, none⟩, cap, hv, hn, .inr ⟨g, 0, rfl, (Array.getElem?_eq_some_iff.1 hg).1, fun j hj => by
      subst hv
      rw [Nat.zero_add, h.cellAt j (by omega)]
      simp [hj]⟩⟩
theorem goodp_any (s : List UInt8) (w : World) : Calls Tryz.prog 103 #[.string (bstr s)] w fun e w' => e = .returned (.bool (goodL s)) ∧ Below w.heap.size w w' := by
  unfold goodL
  by_cases h : s.length ≤ 253
  · rw [decide_eq_true h, Bool.and_true]
    exact good_short s h w
  · rw [decide_eq_false h, Bool.and_false]
    exact good_long s (by omega) w
end Go.Proofs.YtehgpnnfjgmiiaaGreat
end
section
namespace Go.Proofs.YtehgpnnfjgmiiaaGreat
open Go.Shelf Go.RowKit Go.Lib Go.Great
set_option maxRecDepth 100000
set_option maxHeartbeats 1000000
theorem info9 : (Tryz.prog.info? 9).map (fun i => (i.zero, i.size, i.bytes)) = some (some (.string ⟨#[]⟩), 1, 16) := by kernel_rfl
theorem src_str (p : ByteArray) (w : World) : Src Tryz.prog 1 134 (.slice (some ⟨w.heap.size, 0, none⟩) 1 1) 1 [.string p] (w.alloc (.cells #[.string p] 9)) := by
  refine Src.ofSlice _ Tryz.underlying134 _ 1 1 [.string p] rfl (fun j u hu => ?_) (by simp [Value.oneCell'])
  match j, hu with
  | 0, hu =>
    simp at hu
    subst hu
    simp [Addr.add]
theorem app_below {W w1 : World} {n₀ : Nat} {e : TypeId} {size : Nat} {v : Value} {k : Nat} {xs : List Value} {tmp : Obj} (hrow : W.ownsRow n₀ e size v k xs) (hn₀ : n₀ ≤ W.heap.size) (hgrow : (W.alloc tmp).grownBy w1 v.ownBlock) : Below n₀ W w1 := by
  refine ((Below.refl n₀ W).alloc hn₀ tmp).grown hgrow (by simp; omega) fun j ej => ?_
  rcases hrow.2 with ⟨rfl, _⟩ | ⟨g, cap, cur, rfl, hb, _, _⟩
  · simp [Value.ownBlock] at ej
  · obtain rfl : g = j := by simpa [Value.ownBlock] using ej
    exact hb
theorem OwnT.nil {B : Nat} {w : World} : OwnT B (.slice none 0 0) [] w := ⟨rfl, .inl ⟨rfl, rfl⟩⟩
end Go.Proofs.YtehgpnnfjgmiiaaGreat
end
