/- Contract of Sort of package metric. Conditions: fewer than 50000 ids. Contract of Least of package metric. Conditions: fewer than 50000 ids. -/
import Derived.Test.YtcoiaddjfeaciaaGm
import Derived.Test.YtcoiaddjfeaciaaGp
section
namespace Go.Proofs.Ytcoiaddjfeaciaa
set_option maxRecDepth 100000
set_option maxHeartbeats 1000000
open Go.RowKit Go.Lib Go.Great Go.Shelf Go.Sort

/-- The closure that measures to what lies at p. -/
def nearF (p : Nat) : Value := .func (.func 89) #[] #[.pointer (some ⟨p, 0, none⟩)]
theorem nearer_any (t : IDv) (w : World) : Calls Try.prog 75 #[.agg (encID t).toArray] w fun e w' => e = .returned (nearF w.heap.size) ∧ w' = w.alloc (.cells (encID t).toArray 26) := by
  generalize (encID t).toArray = X
  go_enter Try.func75, Try.ntmps75
  go_wp2
  go_ret
  exact ⟨rfl, rfl⟩
theorem clo89_g (t x y : IDv) (p : Nat) (w : World) (hp : p < w.heap.size) (hr : w.rangeAt p 0 (encID t)) :
    Calls Try.prog 89 #[.agg (encID x).toArray, .agg (encID y).toArray, .pointer (some ⟨p, 0, none⟩)] w fun e w' => e = .returned (.int .i64 (cfM t x y)) ∧ Grows w w' := by
  have HC := Lib.hid (fun W => mcmp_g t.val x.val y.val t.property x.property y.property W)
  change Hid (∀ W, Calls Try.prog 53 #[.agg (encID t).toArray, .agg (encID x).toArray, .agg (encID y).toArray] W fun e w' => e = .returned (.int .i64 (cfM t x y)) ∧ Grows W w') at HC
  obtain ⟨h1, h2, hb⟩ := heap2 w (.cells (encID x).toArray 26) (.cells (encID y).toArray 26)
  have HK0 := Lib.hid (range_load26 (range_keep hr (hb.block p hp)))
  have HK1 := Lib.hid (range_load26 (row_range h1))
  have HK2 := Lib.hid (range_load26 (row_range h2))
  have HG := Lib.hid ((Grows.alloc w (.cells (encID x).toArray 26)).trans (Grows.alloc _ (.cells (encID y).toArray 26)))
  generalize (encID x).toArray = X at HC HK0 HK1 HK2 HG ⊢
  generalize (encID y).toArray = Y at HC HK0 HK1 HK2 HG ⊢
  generalize (encID t).toArray = T at HC HK0 HK1 HK2 HG ⊢
  generalize cfM t x y = k at HC ⊢
  clear h1 h2 hb hr hp
  go_enter Try.func89, Try.ntmps89
  go_wp2_with (first
    | ((with_reducible refine wpList_loadV (op := ⟨some 6, _, _, _, _, _⟩) rfl 26 (.tmp 2) rfl _ ?_ _ HK0.out ?_); rfl)
    | ((with_reducible refine wpList_loadV (op := ⟨some 7, _, _, _, _, _⟩) rfl 26 (.tmp 3) rfl _ ?_ _ HK1.out ?_); rfl)
    | ((with_reducible refine wpList_loadV (op := ⟨some 8, _, _, _, _, _⟩) rfl 26 (.tmp 4) rfl _ ?_ _ HK2.out ?_); rfl)
    | (go_at_call 53; refine (HC.out _).mono ?_; rintro e w1 ⟨rfl, hb1⟩))
  go_ret
  exact ⟨rfl, HG.out.trans hb1⟩

theorem sortW_other (w : World) (blk off m p : Nat) (dk : Array IDv) (os : Array Obj) (hp : p < w.heap.size) (hne : p ≠ blk) : (sortWorldK encID 20 w blk off m dk os).heap[p]? = w.heap[p]? := by
  unfold sortWorldK putRowK grow putRow mapBlock Sort.ahead
  simp only
  rw [Array.getElem?_append_left (by simpa using hp), Array.getElem?_modify, if_neg (fun e => hne e.symm)]
theorem sorts_m (t : IDv) (p g cap : Nat) (L : List IDv) (W : World) (hL : L.length ≤ 50000) (hg : g < W.heap.size) (hr : W.rangeAt g 0 (flatI L)) (ht : W.there g 0 (L.length * 20)) (hp : p < W.heap.size) (hne : p ≠ g) (hpt : W.rangeAt p 0 (encID t)) :
    Calls Try.prog 69 #[.slice (some ⟨g, 0, none⟩) L.length cap, nearF p] W fun e w' => e = .returned (.tuple #[]) ∧ ∃ L' : List IDv, L'.length = L.length ∧ IsSet (kM t) (dd L' L'.length) L ∧ w'.rangeAt g 0 (flatI L') ∧ w'.there g 0 (L'.length * 20) ∧ g < w'.heap.size ∧ Below g W w' := by
  have eg : ∀ args w, (callFunc 89 args).run Try.prog w = .ok (.enter 89 args) w := enters_of Try.func89 (by kernel_rfl) rfl
  have hlay : CmpLays Try.prog 89 #[.pointer (some ⟨p, 0, none⟩)] encID 20 (cfM t) g 0 L.toArray.size W := fun m os dk _ x y => by
    have hs : W.heap.size ≤ (sortWorldK encID 20 W g 0 m dk os).heap.size := by
      unfold sortWorldK putRowK grow
      rw [Array.size_append, size_putRow]
      exact Nat.le_add_right _ _
    exact (clo89_g t x y p _ (Nat.lt_of_lt_of_le hp hs) (range_keep hpt (sortW_other W g 0 m p dk os hp hne))).mono (by rintro e w' ⟨he, hg⟩; exact ⟨he, hg.form⟩)
  have h := AnyQ.slices_SortFunc Try.sortID 20 (fun w => by kernel_rfl) (fun w => by kernel_rfl) encID (fun x => encID_length x) (fun x v hv => bcells_one _ v hv) (cfM t) (swoM t) 89 #[.pointer (some ⟨p, 0, none⟩)] g 0 cap L.toArray W eg hlay (holdsK_iff hr ht) hg (by simp; omega)
  have hsz : L.toArray.size = L.length := by simp
  rw [hsz] at h
  refine h.mono ?_
  rintro e w' ⟨rfl, d', n, os, hp, hs, rfl⟩
  obtain ⟨h1, h2⟩ := sorted_set (kM_inj t) (ltM t) L d' hp hs
  obtain ⟨k1, k2, k3, k4⟩ := sort_world (n := n) (os := os) (holdsK_iff hr ht) hg (Nat.le_refl g) (by simpa using h1)
  exact ⟨rfl, d'.toList, h1, by rw [h1]; exact h2, k1, k2, k3, k4⟩

theorem msort_any (t : IDv) (A : Option Addr) (c : Nat) (L : List IDv) (w : World) (hL : L.length ≤ 50000) (hA : IAt w w.heap.size A L) :
    Calls Try.prog 47 #[.agg (encID t).toArray, .slice A L.length c] w fun e w' => ∃ A' c' out, e = .returned (.slice A' out.length c') ∧ IsSet (kM t) out L ∧ out.length ≤ L.length ∧ out.length ≤ c' ∧ IAt w' w'.heap.size A' out ∧ Below w.heap.size w w' := by
  obtain ⟨T, hT⟩ : ∃ T, T = (encID t).toArray := ⟨_, rfl⟩
  have hb0 : Below w.heap.size w (w.alloc (.cells T 26)) := (Below.refl _ w).alloc (Nat.le_refl _) _
  have HC := Lib.hid (clone_any A c L (w.alloc (.cells T 26)) hL ((hA.below hb0).more hb0.size))
  have HL : Hid (L.length ≤ 50000) := Lib.hid hL
  have HT : Hid (T = (encID t).toArray) := Lib.hid hT
  have h0 := heap_alloc_new w (.cells T 26)
  have hs0 : (w.alloc (.cells T 26)).heap.size = w.heap.size + 1 := by simp
  rw [← hT]
  generalize L.length = n at HC ⊢
  have HH := Lib.hid h0
  have HB0 := Lib.hid hb0
  have HS0 := Lib.hid hs0
  clear hA hL hT hb0 h0 hs0
  go_enter Try.func47, Try.ntmps47
  go_upto_region 2 with (go_at_call 68; refine HC.out.mono ?_; rintro e w1 ⟨v, rfl, ho, hne, hb⟩)
  obtain ⟨A1, c1, rfl, hn1, hcap, hform⟩ := own_form ho
  have hrow := (hb.block w.heap.size (by rw [HS0.out]; omega)).trans HH.out
  have hlt : w.heap.size < w1.heap.size := Nat.lt_of_lt_of_le (by rw [HS0.out]; omega) hb.size
  have HB := Lib.hid (HB0.out.trans (hb.mono HB0.out.size))
  have HO := Lib.hid ho
  have HN : Hid (n = L.length) := Lib.hid hn1
  have HLT := Lib.hid (by
    have := hrow
    rw [HT.out] at this
    exact range_load26 (row_range this))
  rw [← HT.out] at HLT
  have HNR := Lib.hid (nearer_any t w1)
  rw [← HT.out] at HNR
  clear HC hn1 ho hrow
  rcases hform with ⟨rfl, hl, rfl⟩ | ⟨g, rfl, hbg, hgw, hrg⟩
  · subst hl
    clear hne hcap hb
    go_wp2_with (first
      | ((with_reducible refine wpList_loadV (op := ⟨some 9, _, _, _, _, _⟩) rfl 26 (.tmp 2) rfl _ ?_ _ HLT.out ?_); rfl)
      | (go_at_call 75; refine HNR.out.mono ?_; rintro e w2 ⟨rfl, rfl⟩)
      | (go_at_call 69; refine (sort_none _ _ _ _).mono ?_; rintro e w3 ⟨rfl, rfl⟩)
      | (go_at_call 71; refine (compact_nil _).mono ?_; rintro e w4 ⟨rfl, rfl⟩))
    go_ret
    refine ⟨none, 0, [], rfl, IsSet.nil, by simp, by simp, IAt.nil_, ?_⟩
    exact HB.out.alloc HB.out.size _
  · have ho2 := HO.out
    rw [HN.out] at ho2
    have hth := there_own ho2
    have hbw : Below w1.heap.size w1 (w1.alloc (.cells T 26)) := (Below.refl _ w1).alloc (Nat.le_refl _) _
    have hrw : (w1.alloc (.cells T 26)).rangeAt w1.heap.size 0 (encID t) := by
      have := heap_alloc_new w1 (.cells T 26)
      rw [HT.out] at this ⊢
      exact row_range this
    have hbg2 : w.heap.size ≤ g := by rw [HS0.out] at hbg; omega
    have HSO := Lib.hid (sorts_m t w1.heap.size g c1 L (w1.alloc (.cells T 26)) HL.out (Nat.lt_of_lt_of_le hgw hbw.size) (range_keep hrg (hbw.block g hgw)) (there_keep hth (hbw.block g hgw)) (by simp) (by omega) hrw)
    have HBW := Lib.hid (HB.out.alloc HB.out.size (.cells T 26))
    clear hne hrg ho2 HO hth hbw hrw hb hlt hbg
    obtain ⟨m, hm⟩ : ∃ m, m = L.length := ⟨_, rfl⟩
    rw [← hm] at HSO hcap ⊢
    have HM : Hid (m = L.length) := Lib.hid hm
    clear hm
    go_upto_region 3 with (first
      | ((with_reducible refine wpList_loadV (op := ⟨some 9, _, _, _, _, _⟩) rfl 26 (.tmp 2) rfl _ ?_ _ HLT.out ?_); rfl)
      | (go_at_call 75; refine HNR.out.mono ?_; rintro e w2 ⟨rfl, rfl⟩)
      | (go_at_call 69; refine HSO.out.mono ?_; rintro e w3 ⟨rfl, L', hl', hset, hr2, ht2, hg2, hb2⟩))
    have hcp := compact_any g c1 w.heap.size L' w3 (by have := HL.out; have := HM.out; omega) (by omega) hbg2 hg2 hr2 ht2
    have hle := dd_len L' L'.length
    rw [hl'] at hcp hset hle
    have HCP := Lib.hid hcp
    have HST := Lib.hid hset
    have HLE : Hid ((dd L' m).length ≤ n ∧ (dd L' m).length ≤ c1) := Lib.hid ⟨by rw [HN.out, ← HM.out]; exact hle, Nat.le_trans hle hcap⟩
    have HB2 := Lib.hid (HBW.out.trans (hb2.mono hbg2))
    clear hcp hset hle hl' hr2 ht2 hg2 hb2 HSO HLT HNR
    go_wp2_with (go_at_call 71; refine HCP.out.mono ?_; rintro e w4 ⟨rfl, hr3, hg3, hb3⟩)
    go_ret
    exact ⟨_, _, dd L' m, rfl, HST.out, HLE.out.1, HLE.out.2, .inr ⟨g, 0, rfl, hg3, hr3⟩, HB2.out.trans hb3⟩
end Go.Proofs.Ytcoiaddjfeaciaa
end
section
namespace Go.Proofs.Ytcoiaddjfeaciaa
set_option maxRecDepth 100000
set_option maxHeartbeats 1000000
open Go.RowKit Go.Lib Go.Great

def LeRel (W1 : World) (S : List IDv) (k : Int) (v i : Value) (wr : World) : Prop :=
  ∃ j : Nat, i = .int .i64 (j : Int) ∧ ((j : Int) ≤ k ∨ j = 0) ∧ j ≤ S.length ∧ wr.ownsRow W1.heap.size 26 20 v j (flatI (S.take j)) ∧ Below W1.heap.size W1 wr

/-- v has the n nearest ones. -/
def LeastIs (t : IDv) (L : List IDv) (len : Nat) (n : Int) (base : Nat) (v : Value) (w : World) : Prop := ∃ S, IsSet (kM t) S L ∧ S.length ≤ len ∧ w.ownsRow base 26 20 v (S.take n.toNat).length (flatI (S.take n.toNat))
theorem mleast_any (t : IDv) (A : Option Addr) (c : Nat) (L : List IDv) (n : Int) (w : World) (hL : L.length ≤ 50000) (hA : IAt w w.heap.size A L) :
    Calls Try.prog 49 #[.agg (encID t).toArray, .slice A L.length c, .int .i64 n] w fun e w' => ∃ v, e = .returned v ∧ LeastIs t L L.length n w.heap.size v w' ∧ Below w.heap.size w w' := by
  obtain ⟨T, hT⟩ : ∃ T, T = (encID t).toArray := ⟨_, rfl⟩
  have hb0 : Below w.heap.size w (w.alloc (.cells T 26)) := (Below.refl _ w).alloc (Nat.le_refl _) _
  have HS := Lib.hid (msort_any t A c L (w.alloc (.cells T 26)) hL ((hA.below hb0).more hb0.size))
  have h0 := heap_alloc_new w (.cells T 26)
  have HLT := Lib.hid (by
    have := h0
    rw [hT] at this
    exact range_load26 (row_range this))
  rw [← hT] at HLT HS ⊢
  have HL : Hid (L.length ≤ 50000) := Lib.hid hL
  have HB0 := Lib.hid hb0
  generalize L.length = n0 at HS HL ⊢
  clear hA hL hT hb0 h0
  go_enter Try.func49, Try.ntmps49
  go_upto_region 2 with (first
    | ((with_reducible refine wpList_loadV (op := ⟨some 10, _, _, _, _, _⟩) rfl 26 (.tmp 3) rfl _ ?_ _ HLT.out ?_); rfl)
    | (go_at_call 47; refine HS.out.mono ?_; rintro e w1 ⟨A1, c1, S, rfl, hset, hlen, hcap, hA1, hb1⟩))
  have HST := Lib.hid hset
  have HLE : Hid (S.length ≤ n0) := Lib.hid hlen
  have HA := Lib.hid hA1
  have HB := Lib.hid (HB0.out.trans (hb1.mono HB0.out.size))
  have hm5 : S.length ≤ 50000 := Nat.le_trans hlen HL.out
  obtain ⟨m, hm⟩ : ∃ m, m = S.length := ⟨_, rfl⟩
  rw [← hm] at hm5 ⊢
  have HM : Hid (m = S.length) := Lib.hid hm
  clear hset hlen hA1 hb1 hm HS HLT hcap
  have R0 : ∀ k, Hid (LeRel w1 S k (.slice none 0 0) (.int .i64 0) w1) := fun k => Lib.hid ⟨0, rfl, .inr rfl, by omega, by simpa using World.ownsRow_nil w1 w1.heap.size 26 20, Below.refl _ _⟩
  go_upto_region 4 with fail
  obtain ⟨k, hk⟩ : ∃ k : Int, k = min n (m : Int) := ⟨_, rfl⟩
  have hEnd : Hid (∀ j : Nat, ((j : Int) ≤ k ∨ j = 0) → ¬ (j : Int) < k → S.take j = S.take n.toNat) := Lib.hid (fun j h1 h2 => by
    have := HM.out
    by_cases hmn : (m : Int) ≤ n
    · have : k = (m : Int) := by omega
      rw [List.take_of_length_le (by omega), List.take_of_length_le (by omega)]
    · have : k = n := by omega
      congr 1
      omega)
  have hkm : k ≤ (m : Int) := by omega
  rw [← hk]
  clear hk
  go_loopw [8, 17] (LeRel w1 S k) (fun _ i _ => (k - intOf i).toNat)
  case atStart => exact (R0 k).out
  case round =>
    obtain ⟨j, rfl, hjk, hjm, hown, hb⟩ := hrel
    clear R0
    by_cases hlt : (j : Int) < k
    · obtain ⟨x, hx⟩ : ∃ x, S[j]? = some x := ⟨S[j]'(by have := HM.out; omega), List.getElem?_eq_getElem _⟩
      obtain ⟨g, off, rfl, hg, hr⟩ := (HA.out.below hb).some_ (by have := HM.out; omega)
      have HL := Lib.hid (range_load26 (range_part hr hx))
      have HT := Lib.hid (take_snoc hx)
      have HB5 := Lib.hid hb
      have HO5 := Lib.hid hown
      have hjm2 : j < m := by omega
      clear hr hx hb hown hEnd
      go_upto_region 7 with (first
        | ((with_reducible refine wpList_loadV (op := ⟨some 24, _, _, _, _, _⟩) rfl 26 (.tmp 23) rfl _ ?_ _ HL.out ?_); rfl)
        | ((with_reducible refine wpList_build_one IdT.api x rfl (.tmp 24) rfl ?_ ?_); rfl)
        | (refine wpList_append_ids IdT.api _ rfl (.tmp 20) (.tmp 25) rfl w1.heap.size u8 j (S.take j) rfl (HO5.out.alloc _) _ 1 [x] rfl (src_new IdT.api x wr) (by have := HM.out; omega) (by have := HB5.out.size; simp; omega) ?_; intro v2 w2 ho2 hg2 hat2; clear hat2))
      have HREL : Hid (LeRel w1 S k v2 (.int .i64 ((j : Int) + 1)) w2) := Lib.hid (by
        have := HM.out
        refine ⟨j + 1, by go_num, .inl (by omega), by omega, ?_, ?_⟩
        · rw [HT.out]
          exact ho2
        · exact (HB5.out.alloc HB5.out.size _).grown hg2 (by have := HB5.out.size; simp; omega) (fun q hq => (HO5.out.lt q hq).1))
      clear ho2 hg2
      go_wp2
      go_roundw
      case rel => exact HREL.out
      case measure => simp [intOf]; omega
    · have he := hEnd.out j hjk hlt
      have HF : Hid (wr.ownsRow w.heap.size 26 20 u8 (S.take n.toNat).length (flatI (S.take n.toNat))) := Lib.hid (by
        rw [← he, List.length_take, Nat.min_eq_left hjm]
        exact own_mono hown HB.out.size)
      have HBF := Lib.hid (HB.out.trans (hb.mono HB.out.size))
      clear hown hb he hEnd
      go_wp2
      go_ret
      exact ⟨_, rfl, ⟨S, HST.out, HLE.out, HF.out⟩, HBF.out⟩
end Go.Proofs.Ytcoiaddjfeaciaa
end
