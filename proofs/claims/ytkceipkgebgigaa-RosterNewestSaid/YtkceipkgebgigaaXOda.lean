/- slices.BinarySearchFunc at instances, by their publishers. Conditions: at most 16 instances, in order. Put: plain; its pieces ready for the walk. Conditions: at most 10,000 instances, targets of at most 100,000 bytes. Put of the program. Conditions: at most 10,000 instances, targets of at most 100,000 bytes. Put of the program: a publisher that is new. Conditions: as Put's. -/
import Derived.Test.YtkceipkgebgigaaXObc
import Derived.Test.YtkceipkgebgigaaXIis
import Derived.Test.YtkceipkgebgigaaXOcc
import Derived.Test.YtkceipkgebgigaaXOfa
import Derived.Test.YtkceipkgebgigaaXIij
import Derived.Test.YtkceipkgebgigaaXIin
section
namespace Go.Proofs.Ytkceipkgebgigaa
open Go.Shelf Go.RowKit Go.Lib Go.Great
set_option maxRecDepth 100000
set_option maxHeartbeats 2000000
theorem cmpP_lt_trans {x y z : Ins} (h1 : cmpP x y < 0) (h2 : cmpP y z < 0) : cmpP x z < 0 := by
  unfold cmpP at *
  have a1 := compareBytes_anti x.pub y.pub
  have a2 := compareBytes_anti y.pub z.pub
  have a3 := compareBytes_anti x.pub z.pub
  have b1 := (less_cmp x.pub y.pub).2.2
  have b2 := (less_cmp y.pub z.pub).2.2
  have := compareBytes_trans z.pub y.pub x.pub (by omega) (by omega)
  omega
/-- In order, by publishers. -/
def SrtP (L : List Ins) : Prop := ∀ i j, i < j → j < L.length → cmpP L[i]! L[j]! < 0
theorem goodR_srt {L : List Ins} (h : goodR L = true) : SrtP L := by
  have hk := ((goodR_iff L).1 h).2
  have hs : ∀ k, k + 1 < L.length → cmpP L[k]! L[k + 1]! < 0 := fun k hk1 => by
    have := hk (k + 1) hk1
    unfold okAt at this
    rw [Bool.and_eq_true, Bool.or_eq_true, decide_eq_true_eq, decide_eq_true_eq] at this
    rcases this.2 with e | e
    · omega
    · simpa using e
  intro i j hij hj
  induction j with
  | zero => omega
  | succ j ih =>
    by_cases e : i = j
    · subst e; exact hs i hj
    · exact cmpP_lt_trans (ih (by omega) (by omega)) (hs j hj)
/-- Where one belongs. -/
structure LowAt (L : List Ins) (x : Ins) (a : Nat) : Prop where
  le : a ≤ L.length
  lt : ∀ q, q < a → cmpP L[q]! x < 0
  ge : ∀ q, a ≤ q → q < L.length → ¬ cmpP L[q]! x < 0
def foundAt (L : List Ins) (x : Ins) (a : Nat) : Bool := decide (a < L.length) && decide (cmpP L[a]! x = 0)
def BsRel (W : World) (L : List Ins) (x : Ins) (i j : Value) (wr : World) : Prop := ∃ a b : Nat, i = .int .i64 (a : Int) ∧ j = .int .i64 (b : Int) ∧ a ≤ b ∧ b ≤ L.length ∧ (∀ q, q < a → cmpP L[q]! x < 0) ∧ (∀ q, b ≤ q → q < L.length → ¬ cmpP L[q]! x < 0) ∧ Below W.heap.size W wr
def BsPost (L : List Ins) (x : Ins) (e : Ending) : Prop := ∃ a : Nat, e = .returned (.tuple #[.int .i64 (a : Int), .bool (foundAt L x a)]) ∧ LowAt L x a
theorem search_any (x : Ins) (A : Option Addr) (c : Nat) (L : List Ins) (w : World) (hL : L.length ≤ 16) (hS : SrtP L) (hA : IAt w w.heap.size A L) :
    Calls Try.prog 78 #[.slice A L.length c, .agg (encI x).toArray, .func (.func 79) #[] #[]] w fun e w' => BsPost L x e ∧ Below w.heap.size w w' := by
  obtain ⟨X, hX⟩ : ∃ X, X = (encI x).toArray := ⟨_, rfl⟩
  rw [← hX]
  have hb0 : Below w.heap.size w (w.alloc (.cells X 28)) := (Below.refl _ w).alloc (Nat.le_refl _) _
  obtain ⟨W0, hW0⟩ : ∃ W0, W0 = w.alloc (.cells X 28) := ⟨_, rfl⟩
  have h0 := heap_alloc_new w (.cells X 28)
  rw [← hW0] at hb0 h0
  have HA := Lib.hid ((hA.below hb0).more hb0.size)
  have HB0 := Lib.hid hb0
  have HW := Lib.hid hW0
  have HS := Lib.hid hS
  have HH : Hid (W0.heap[w.heap.size]? = some (.cells (encI x).toArray 28 (0, 0))) := Lib.hid (by rw [← hX]; exact h0)
  have HX := Lib.hid hX
  obtain ⟨n, hn⟩ : ∃ n, n = L.length := ⟨_, rfl⟩
  have R0 : Hid (BsRel W0 L x (.int .i64 0) (.int .i64 (n : Int)) W0) := Lib.hid ⟨0, n, rfl, rfl, by omega, by omega, fun q hq => by omega, fun q hq hy => by omega, Below.refl _ _⟩
  rw [← hn] at hL ⊢
  have HN := Lib.hid hn
  clear hA hX hb0 h0 hW0 hn hS
  go_enter Try.func78, Try.ntmps78
  go_upto_region 3 with fail
  rw [← HW.out]
  go_loopw [9, 10] (BsRel W0 L x) (fun i j _ => (RowKit.intOf j - RowKit.intOf i).toNat)
  case atStart => exact R0.out
  case round =>
    obtain ⟨a, b, rfl, rfl, hab, hbn, ha, hb2, hb⟩ := hrel
    clear R0
    rw [← HN.out] at hbn
    have HQ1 := Lib.hid ha
    have HQ2 := Lib.hid hb2
    have HB := Lib.hid hb
    clear ha hb2
    by_cases hlt : a < b
    · go_upto_region 5 with fail
      obtain ⟨h, hh⟩ : ∃ h : Nat, h = (a + b) / 2 := ⟨_, rfl⟩
      have he : ((a : Int) + (b : Int)) / 2 = (h : Int) := by omega
      have h1 : a ≤ h := by omega
      have h2 : h < b := by omega
      rw [he]
      clear he hh
      have hhn : h < n := by omega
      rcases HA.out.below hb with e | ⟨g, off, rfl, hg, hr⟩
      · rw [e] at HN; have := HN.out; simp at this; omega
      have HLY : Hid (∀ q : Kept wr.heap.size wr, (loadVar 28 ⟨g, off + h * 28, none⟩).run Try.prog q.val = .ok (.agg (encI L[h]!).toArray) q.val) := Lib.hid (fun q => row_load hr (Nat.lt_of_lt_of_le hg hb.size) q.property (by have := HN.out; omega))
      have hgx : w.heap.size < W0.heap.size := (Array.getElem?_eq_some_iff.1 HH.out).1
      have hLX : ∀ q : Kept wr.heap.size wr, (loadVar 28 ⟨w.heap.size, 0, none⟩).run Try.prog q.val = .ok (.agg (encI x).toArray) q.val := fun q =>
        load28 (row_range (by rw [q.property.block _ (Nat.lt_of_lt_of_le hgx hb.size), hb.block _ hgx]; exact HH.out))
      have hC := fun W => byp_any L[h]! x W
      rw [← HX.out] at hLX hC
      have HLX := Lib.hid hLX
      have HC := Lib.hid hC
      obtain ⟨cv, hcv⟩ : ∃ cv, cv = cmpP L[h]! x := ⟨_, rfl⟩
      rw [← hcv] at HC
      have HCV := Lib.hid hcv
      generalize (encI L[h]!).toArray = Y at *
      clear hr hg hgx hLX hb hC hcv
      by_cases hc : cv < 0
      · refine wp_region_kept wr.heap.size wr (Below.refl _ _) (by kernel_rfl) (by kernel_rfl) ?_
        repeat (first
          | (go_big_quiet_want; (with_reducible refine quiet_loadV 28 (.tmp 27) rfl _ ?_ _ HLY.out ?_); rfl; simp only [Act.put, List.setIfInBounds_toArray, List.set_cons_zero, List.set_cons_succ]; go_big_quiet_on)
          | (go_big_quiet_want; (with_reducible refine quiet_loadV 28 (.tmp 4) rfl _ ?_ _ HLX.out ?_); rfl; simp only [Act.put, List.setIfInBounds_toArray, List.set_cons_zero, List.set_cons_succ]; go_big_quiet_on)
          | go_big_quiet_step (first | (go_at_call 79; with_reducible exact kept_of (Nat.le_refl _) HC.out _)))
        refine wpQuiet_nil ?_
        rintro wk ⟨⟨_, hwk⟩, rfl⟩
        have HREL : Hid (BsRel W0 L x (.int .i64 ((h : Int) + 1)) (.int .i64 (b : Int)) wk) := Lib.hid ⟨h + 1, b, by go_num, rfl, by omega, by have := HN.out; omega, fun q hq => by
          by_cases e : q = h
          · subst e
            rw [← HCV.out]
            exact hc
          · exact cmpP_lt_trans (HS.out q h (by omega) (by have := HN.out; omega)) (by rw [← HCV.out]; exact hc), HQ2.out, HB.out.trans (hwk.mono HB.out.size)⟩
        clear hwk HLX HLY HQ1 HQ2 HB HC HCV
        go_wp2
        go_roundw
        case rel => exact HREL.out
        case measure => simp [RowKit.intOf]; omega
      · refine wp_region_kept wr.heap.size wr (Below.refl _ _) (by kernel_rfl) (by kernel_rfl) ?_
        repeat (first
          | (go_big_quiet_want; (with_reducible refine quiet_loadV 28 (.tmp 27) rfl _ ?_ _ HLY.out ?_); rfl; simp only [Act.put, List.setIfInBounds_toArray, List.set_cons_zero, List.set_cons_succ]; go_big_quiet_on)
          | (go_big_quiet_want; (with_reducible refine quiet_loadV 28 (.tmp 4) rfl _ ?_ _ HLX.out ?_); rfl; simp only [Act.put, List.setIfInBounds_toArray, List.set_cons_zero, List.set_cons_succ]; go_big_quiet_on)
          | go_big_quiet_step (first | (go_at_call 79; with_reducible exact kept_of (Nat.le_refl _) HC.out _)))
        refine wpQuiet_nil ?_
        rintro wk ⟨⟨_, hwk⟩, rfl⟩
        have HREL : Hid (BsRel W0 L x (.int .i64 (a : Int)) (.int .i64 (h : Int)) wk) := Lib.hid ⟨a, h, rfl, rfl, h1, by have := HN.out; omega, HQ1.out, fun q hq hz hlo => by
          have hno : ¬ cmpP L[h]! x < 0 := by rw [← HCV.out]; exact hc
          by_cases e : q = h
          · subst e
            exact hno hlo
          · exact hno (cmpP_lt_trans (HS.out h q (by omega) hz) hlo), HB.out.trans (hwk.mono HB.out.size)⟩
        clear hwk HLX HLY HQ1 HQ2 HB HC HCV
        go_wp2
        go_roundw
        case rel => exact HREL.out
        case measure => simp [RowKit.intOf]; omega
    · obtain rfl : a = b := by omega
      have HR : Hid (LowAt L x a) := Lib.hid ⟨by have := HN.out; omega, HQ1.out, HQ2.out⟩
      by_cases hat : a < n
      · have hat' : (a : Int) < (n : Int) := by omega
        rcases HA.out.below hb with e | ⟨g, off, rfl, hg, hr⟩
        · rw [e] at HN; have := HN.out; simp at this; omega
        have HLY : Hid (∀ q : Kept wr.heap.size wr, (loadVar 28 ⟨g, off + a * 28, none⟩).run Try.prog q.val = .ok (.agg (encI L[a]!).toArray) q.val) := Lib.hid (fun q => row_load hr (Nat.lt_of_lt_of_le hg hb.size) q.property (by have := HN.out; omega))
        have hgx : w.heap.size < W0.heap.size := (Array.getElem?_eq_some_iff.1 HH.out).1
        have hLX : ∀ q : Kept wr.heap.size wr, (loadVar 28 ⟨w.heap.size, 0, none⟩).run Try.prog q.val = .ok (.agg (encI x).toArray) q.val := fun q =>
          load28 (row_range (by rw [q.property.block _ (Nat.lt_of_lt_of_le hgx hb.size), hb.block _ hgx]; exact HH.out))
        have hC := fun W => byp_any L[a]! x W
        rw [← HX.out] at hLX hC
        have HLX := Lib.hid hLX
        have HC := Lib.hid hC
        have HFD : Hid (foundAt L x a = decide (cmpP L[a]! x = 0)) := Lib.hid (by unfold foundAt; rw [decide_eq_true (show a < L.length by have := HN.out; omega), Bool.true_and])
        obtain ⟨cv, hcv⟩ : ∃ cv, cv = cmpP L[a]! x := ⟨_, rfl⟩
        rw [← hcv] at HC HFD
        generalize (encI L[a]!).toArray = Y at *
        clear hr hg hgx hLX hb hC hcv
        have hcd : decide (cv = 0) = (cv == 0) := Bool.eq_iff_iff.2 (by simp)
        rw [hcd] at HFD
        clear hcd
        go_upto_region 8 with fail
        refine wp_region_kept wr.heap.size wr (Below.refl _ _) (by kernel_rfl) (by kernel_rfl) ?_
        repeat (first
          | (go_big_quiet_want; (with_reducible refine quiet_loadV 28 (.tmp 43) rfl _ ?_ _ HLY.out ?_); rfl; simp only [Act.put, List.setIfInBounds_toArray, List.set_cons_zero, List.set_cons_succ]; go_big_quiet_on)
          | (go_big_quiet_want; (with_reducible refine quiet_loadV 28 (.tmp 4) rfl _ ?_ _ HLX.out ?_); rfl; simp only [Act.put, List.setIfInBounds_toArray, List.set_cons_zero, List.set_cons_succ]; go_big_quiet_on)
          | go_big_quiet_step (first | (go_at_call 79; with_reducible exact kept_of (Nat.le_refl _) HC.out _)))
        refine wpQuiet_nil ?_
        rintro wk ⟨⟨_, hwk⟩, rfl⟩
        have HF := Lib.hid (HB0.out.trans ((HB.out.trans (hwk.mono HB.out.size)).mono HB0.out.size))
        clear hwk HLX HLY HB HC HQ1 HQ2
        go_wp2
        go_ret2
        exact ⟨⟨a, by rw [HFD.out]; rfl, HR.out⟩, HF.out⟩
      · have hat' : ¬ (a : Int) < (n : Int) := by omega
        have HFD : Hid (foundAt L x a = false) := Lib.hid (by unfold foundAt; rw [decide_eq_false (show ¬ a < L.length by have := HN.out; omega), Bool.false_and])
        clear hb HQ1 HQ2
        go_upto_region 8 with fail
        refine wp_region_kept wr.heap.size wr (Below.refl _ _) (by kernel_rfl) (by kernel_rfl) ?_
        repeat (first | go_big_quiet_step (fail))
        refine wpQuiet_nil ?_
        rintro wk ⟨⟨_, hwk⟩, rfl⟩
        have HF := Lib.hid (HB0.out.trans ((HB.out.trans (hwk.mono HB.out.size)).mono HB0.out.size))
        clear hwk HB
        go_wp2
        go_ret2
        exact ⟨⟨a, by rw [HFD.out]; rfl, HR.out⟩, HF.out⟩
end Go.Proofs.Ytkceipkgebgigaa
end
section
namespace Go.Proofs.Ytkceipkgebgigaa
open Go.Shelf Go.RowKit Go.Lib Go.Great
set_option maxRecDepth 100000
set_option maxHeartbeats 400000
/-- How many lie before. -/
def lowR : List Ins → Ins → Nat
  | [], _ => 0
  | y :: L, x => if cmpP y x < 0 then lowR L x + 1 else 0
theorem lowAt_eq : ∀ (L : List Ins) (x : Ins) (a : Nat), LowAt L x a → a = lowR L x
  | [], x, a, h => by have := h.le; simp at this; subst this; rfl
  | y :: L, x, a, h => by
    unfold lowR
    by_cases hc : cmpP y x < 0
    · rw [if_pos hc]
      cases a with
      | zero => exact absurd hc (h.ge 0 (Nat.le_refl _) (by simp))
      | succ a =>
        congr 1
        refine lowAt_eq L x a ⟨by have := h.le; simp at this; exact this, fun q hq => ?_, fun q hq hl => ?_⟩
        · have := h.lt (q + 1) (by omega); simpa using this
        · have := h.ge (q + 1) (by omega) (by simpa using hl); simpa using this
    · rw [if_neg hc]
      cases a with
      | zero => rfl
      | succ a => exact absurd (by have := h.lt 0 (by omega); simpa using this) hc
/-- What Put makes of a valid roster and a valid instance. -/
def putG (L : List Ins) (x : Ins) : List Ins :=
  if foundAt L x (lowR L x) = true then (if cmpI x L[lowR L x]! > 0 then L.set (lowR L x) x else L)
  else fitL (L.take (lowR L x) ++ x :: L.drop (lowR L x))
/-- What Put tells. -/
def putL (L : List Ins) (x : Ins) : List Ins := if goodR L && goodI x then putG L x else L
def putOk (L : List Ins) (x : Ins) : Bool := if goodR L && goodI x then !sameR (putG L x) L else false
theorem own_bel {w w' : World} {base n : Nat} {v : Value} {L : List Ins} (h : w.ownsRow base 28 28 v n (flatE encI L)) (hb : Below w.heap.size w w') : w'.ownsRow base 28 28 v n (flatE encI L) :=
  h.kept (grown_of_bel hb none) (by cases v.ownBlock <;> simp)
theorem own_len {w : World} {base n : Nat} {v : Value} {L : List Ins} (h : w.ownsRow base 28 28 v n (flatE encI L)) : n = L.length := by
  have hl := h.1
  rw [flatE_length encI_length] at hl
  omega
theorem own_iat {w : World} {base : Nat} {v : Value} {L : List Ins} (h : w.ownsRow base 28 28 v L.length (flatE encI L)) : ∃ A c, v = .slice A L.length c ∧ IAt w w.heap.size A L ∧ L.length ≤ c := by
  obtain ⟨A, c, hv, hn, hc, hm, hform⟩ := own_formI h
  refine ⟨A, c, hv, ?_, hc⟩
  rcases hform with ⟨_, e, _⟩ | ⟨g, rfl, _, hg, hr⟩
  · exact .inl e
  · exact .inr ⟨g, 0, rfl, hg, hr⟩
theorem same_own {w : World} {base : Nat} {v : Value} {M : List Ins} (A : Option Addr) (c : Nat) (L : List Ins) (hM : M.length ≤ 10000) (h : w.ownsRow base 28 28 v M.length (flatE encI M)) (hA : IAt w w.heap.size A L) :
    Calls Try.prog 44 #[v, .slice A L.length c] w fun e w' => e = .returned (.bool (sameR M L)) ∧ Below w.heap.size w w' := by
  obtain ⟨A', c', rfl, hi, _⟩ := own_iat h
  exact same_any A' A c' c M L w hM hi hA
theorem fitL_len (L : List Ins) (h : L.length ≤ 17) : (fitL L).length ≤ 16 := by
  unfold fitL
  split
  · assumption
  · have hf := lastMin_le L L.length L.length (Nat.le_refl _) (by omega)
    rw [List.length_eraseIdx, if_pos hf]
    omega
/-- A store into a row of one's own. -/
theorem own_store {w : World} {base g n c i : Nat} {L : List Ins} (x : Ins) (h : w.ownsRow base 28 28 (.slice (some ⟨g, 0, none⟩) n c) n (flatE encI L)) (hn : L.length = n) (hi : i < n) :
    w.there g (i * 28) 28 ∧ (w.setCells g (i * 28) (encI x)).ownsRow base 28 28 (.slice (some ⟨g, 0, none⟩) n c) n (flatE encI (L.set i x)) ∧ w.grownBy (w.setCells g (i * 28) (encI x)) (some g) := by
  rcases h.2 with ⟨e, _⟩ | ⟨g', cap, cur, e, hb, hg, hc, hm, hs, ht⟩
  · cases e
  · injection e with e1 _ e3
    injection e1 with e1
    injection e1 with e1
    subst e1 e3
    obtain ⟨l, rfl⟩ : ∃ l : List Value, cur = l.toArray := ⟨cur.toList, by simp⟩
    have hs' : l.length = c * 28 := by simpa using hs
    have ht' : l.take (n * 28) = flatE encI L := by simpa using ht
    have hlen : (flatE encI (L.set i x)).length = n * 28 := by rw [flatE_length encI_length, List.length_set, hn]
    refine ⟨fun j hj => ⟨?_, by simp [World.frozen?, hg]⟩, ⟨hlen, .inr ⟨g, c, _, rfl, hb, heap_setCells_row g 28 (encI x) (i * 28) l w hg (by rw [encI_length]; omega), hc, hm, ?_, ?_⟩⟩, grown_cells _ _ _ (World.grownBy.refl _ _)⟩
    · rw [cell_of_row _ _ _ _ _ _ hg, Array.getElem?_eq_getElem (by simp; omega)]
      rfl
    · simp only [List.size_toArray, List.length_append, List.length_take, List.length_drop, encI_length]
      omega
    · apply List.ext_getElem?
      intro j
      have hcl := encI_length x
      by_cases hj : j < n * 28
      · rw [List.getElem?_take, if_pos hj]
        have hq : j / 28 < L.length := by omega
        have e0 := flatE_get encI_length (by omega) L (j / 28) _ (j % 28) (List.getElem?_eq_getElem hq) (Nat.mod_lt _ (by omega))
        have e1 := flatE_get encI_length (by omega) (L.set i x) (j / 28) _ (j % 28) (List.getElem?_eq_getElem (by simpa using hq)) (Nat.mod_lt _ (by omega))
        rw [show j / 28 * 28 + j % 28 = j by omega] at e0 e1
        rw [e1, List.getElem_set]
        by_cases hi' : i = j / 28
        · rw [if_pos hi']
          rw [List.getElem?_append_left (by simp; omega), List.getElem?_append_right (by simp; omega)]
          congr 1
          simp
          omega
        · rw [if_neg hi', ← e0, ← ht', List.getElem?_take, if_pos hj]
          by_cases hlo : j < i * 28
          · rw [List.getElem?_append_left (by simp; omega), List.getElem?_append_left (by simp; omega), List.getElem?_take, if_pos hlo]
          · rw [List.getElem?_append_right (by simp; omega), List.getElem?_drop]
            congr 1
            simp
            omega
      · rw [List.getElem?_eq_none (by simp; omega), List.getElem?_eq_none (by omega)]
end Go.Proofs.Ytkceipkgebgigaa
end
section
namespace Go.Proofs.Ytkceipkgebgigaa
open Go.Shelf Go.RowKit Go.Lib Go.Great
set_option maxRecDepth 100000
set_option maxHeartbeats 400000
/-- A world that keeps what lay below B, and a row of one's own. -/
def RowI (W1 : World) (B : Nat) (M : List Ins) (W : World) (v : Value) : Prop := Below B W1 W ∧ W.ownsRow B 28 28 v M.length (flatE encI M) ∧ B ≤ W.heap.size
theorem RowI.step {W1 W W' : World} {B : Nat} {M : List Ins} {v : Value} (h : RowI W1 B M W v) (hb : Below W.heap.size W W') : RowI W1 B M W' v :=
  ⟨h.1.trans (hb.mono h.2.2), own_bel h.2.1 hb, Nat.le_trans h.2.2 hb.size⟩
def PutIs (w : World) (L : List Ins) (x : Ins) (e : Ending) (w' : World) : Prop :=
  ∃ v, e = .returned (.tuple #[v, .bool (putOk L x)]) ∧ w'.ownsRow w.heap.size 28 28 v (putL L x).length (flatE encI (putL L x)) ∧ Below w.heap.size w w'
/-- What the walk of Put rests upon. -/
structure PutK (w W1 : World) (A : Option Addr) (n c : Nat) (L : List Ins) (x : Ins) (X : Array Value) (M : List Ins) : Prop where
  w1 : W1 = w.alloc (.cells X 28)
  cl : Calls Try.prog 77 #[.slice A n c] W1 fun e w' => ∃ v, e = .returned v ∧ RowI W1 W1.heap.size L w' v
  gd : ∀ N W v, RowI W1 W1.heap.size N W v → Calls Try.prog 40 #[.slice A n c] W fun e w' => e = .returned (.bool (goodR L)) ∧ RowI W1 W1.heap.size N w' v
  gi : ∀ N W v, RowI W1 W1.heap.size N W v → Calls Try.prog 14 #[.agg X] W fun e w' => e = .returned (.bool (goodI x)) ∧ RowI W1 W1.heap.size N w' v
  ld : ∀ N W v, RowI W1 W1.heap.size N W v → (loadVar 28 ⟨w.heap.size, 0, none⟩).run Try.prog W = .ok (.agg X) W
  sm : ∀ W v, RowI W1 W1.heap.size M W v → Calls Try.prog 44 #[v, .slice A n c] W fun e w' => e = .returned (.bool (sameR M L)) ∧ RowI W1 W1.heap.size M w' v
  fin : ∀ W v, RowI W1 W1.heap.size M W v → W.ownsRow w.heap.size 28 28 v M.length (flatE encI M) ∧ Below w.heap.size w W
theorem putK (A : Option Addr) (c : Nat) (L M : List Ins) (x : Ins) (w : World) (hL : L.length ≤ 10000) (hM : M.length ≤ 10000) (ht : ∀ y ∈ L, y.tgt.length ≤ 100000) (hx : x.tgt.length ≤ 100000) (hA : IAt w w.heap.size A L) (hA2 : A = none ∨ ∃ g off, A = some ⟨g, off, none⟩) :
    PutK w (w.alloc (.cells (encI x).toArray 28)) A L.length c L x (encI x).toArray M := by
  have hb0 : Below w.heap.size w (w.alloc (.cells (encI x).toArray 28)) := (Below.refl _ w).alloc (Nat.le_refl _) _
  have h0 := heap_alloc_new w (.cells (encI x).toArray 28)
  obtain ⟨W1, hW1⟩ : ∃ W1, W1 = w.alloc (.cells (encI x).toArray 28) := ⟨_, rfl⟩
  rw [← hW1] at hb0 h0 ⊢
  have hA1 : IAt W1 W1.heap.size A L := (hA.below hb0).more hb0.size
  refine ⟨hW1, ?_, ?_, ?_, ?_, ?_, ?_⟩
  · refine (iclone_any A c L W1 hL hA1 hA2).mono ?_
    rintro e w' ⟨v, rfl, ho, hb⟩
    exact ⟨v, rfl, hb, ho, hb.size⟩
  · intro N W v hR
    refine (gd_any A c L W ht ((hA1.below hR.1).more hR.2.2)).mono ?_
    rintro e w' ⟨rfl, hb⟩
    exact ⟨rfl, hR.step hb⟩
  · intro N W v hR
    refine (igood_any x hx W).mono ?_
    rintro e w' ⟨rfl, hb⟩
    exact ⟨rfl, hR.step hb⟩
  · intro N W v hR
    exact load28 (row_range (by rw [hR.1.block _ (Array.getElem?_eq_some_iff.1 h0).1]; exact h0))
  · intro W v hR
    refine (same_own A c L hM hR.2.1 ((hA1.below hR.1).more hR.2.2)).mono ?_
    rintro e w' ⟨rfl, hb⟩
    exact ⟨rfl, hR.step hb⟩
  · intro W v hR
    exact ⟨own_baseC hR.2.1 hb0.size, hb0.trans (hR.1.mono hb0.size)⟩
theorem put_bad (A : Option Addr) (c : Nat) (L : List Ins) (x : Ins) (w : World) (hL : L.length ≤ 10000) (ht : ∀ y ∈ L, y.tgt.length ≤ 100000) (hx : x.tgt.length ≤ 100000) (hA : IAt w w.heap.size A L) (hA2 : A = none ∨ ∃ g off, A = some ⟨g, off, none⟩)
    (hb : (goodR L && goodI x) = false) : Calls Try.prog 39 #[.slice A L.length c, .agg (encI x).toArray] w (PutIs w L x) := by
  have K := putK A c L L x w hL hL ht hx hA hA2
  have HCL := Lib.hid K.cl
  have HGD := Lib.hid K.gd
  have HGI := Lib.hid K.gi
  have HLD := Lib.hid K.ld
  have HFIN : Hid (∀ W v, RowI (w.alloc (.cells (encI x).toArray 28)) (w.alloc (.cells (encI x).toArray 28)).heap.size L W v → PutIs w L x (.returned (.tuple #[v, .bool false])) W) := Lib.hid (fun W v hR => by
    obtain ⟨f1, f2⟩ := K.fin W v hR
    have e1 : putL L x = L := by unfold putL; rw [hb]; rfl
    have e2 : putOk L x = false := by unfold putOk; rw [hb]; rfl
    exact ⟨v, by rw [e2], by rw [e1]; exact f1, f2⟩)
  clear K hA hA2 ht hx hL
  generalize (encI x).toArray = X at *
  generalize L.length = n at *
  cases hg : goodR L with
  | false =>
    rw [hg] at HGD
    clear hb hg
    go_enter Try.func39, Try.ntmps39
    go_wp2_with (first
      | (go_at_call 77; (with_reducible refine HCL.out.mono ?_); rintro e2 w2 ⟨v, rfl, hp2⟩)
      | (go_at_call 40; (with_reducible refine (HGD.out _ _ _ hp2).mono ?_); rintro e3 w3 ⟨rfl, hp3⟩))
    go_ret2
    exact HFIN.out _ _ hp3
  | true =>
    rw [hg, Bool.true_and] at hb
    rw [hg] at HGD
    rw [hb] at HGI
    clear hb hg
    go_enter Try.func39, Try.ntmps39
    go_wp2_with (first
      | (go_at_call 77; (with_reducible refine HCL.out.mono ?_); rintro e2 w2 ⟨v, rfl, hp2⟩)
      | (go_at_call 40; (with_reducible refine (HGD.out _ _ _ hp2).mono ?_); rintro e3 w3 ⟨rfl, hp3⟩)
      | ((with_reducible refine wpList_loadG (o := ⟨some 15, _, _, _, _, _⟩) ?_ 28 (.tmp 3) rfl _ ?_ _ (HLD.out _ _ _ hp3) ?_); rfl; rfl)
      | (go_at_call 14; (with_reducible refine (HGI.out _ _ _ hp3).mono ?_); rintro e4 w4 ⟨rfl, hp4⟩))
    go_ret2
    exact HFIN.out _ _ hp4
end Go.Proofs.Ytkceipkgebgigaa
end
section
namespace Go.Proofs.Ytkceipkgebgigaa
open Go.Shelf Go.RowKit Go.Lib Go.Great
set_option maxRecDepth 100000
set_option maxHeartbeats 400000
theorem put_search (A : Option Addr) (c : Nat) (L N : List Ins) (x : Ins) (W1 W : World) (v : Value) (hg : goodR L = true) (hA1 : IAt W1 W1.heap.size A L) (hR : RowI W1 W1.heap.size N W v) :
    Calls Try.prog 78 #[.slice A L.length c, .agg (encI x).toArray, .func (.func 79) #[] #[]] W fun e w' => e = .returned (.tuple #[.int .i64 (lowR L x : Int), .bool (foundAt L x (lowR L x))]) ∧ RowI W1 W1.heap.size N w' v := by
  refine (search_any x A c L W ((goodR_iff L).1 hg).1 (goodR_srt hg) ((hA1.below hR.1).more hR.2.2)).mono ?_
  rintro e w' ⟨⟨a, rfl, hlow⟩, hb⟩
  rw [← lowAt_eq L x a hlow]
  exact ⟨rfl, hR.step hb⟩
theorem lowR_le : ∀ (L : List Ins) (x : Ins), lowR L x ≤ L.length
  | [], _ => Nat.le_refl _
  | y :: L, x => by
    unfold lowR
    split
    · have := lowR_le L x; simp; exact this
    · omega
theorem put_ins (L : List Ins) (a : Nat) (x : Ins) (W1 W : World) (v : Value) (hl : L.length ≤ 16) (ha : a ≤ L.length) (hR : RowI W1 W1.heap.size L W v) :
    Calls Try.prog 81 #[v, .int .i64 (a : Int), .slice (some ⟨W.heap.size, 0, none⟩) 1 1] (W.alloc (.cells (encI x).toArray 28)) fun e w' => ∃ v', e = .returned v' ∧ RowI W1 W1.heap.size (L.take a ++ x :: L.drop a) w' v' := by
  have hb : Below W.heap.size W (W.alloc (.cells (encI x).toArray 28)) := (Below.refl _ W).alloc (Nat.le_refl _) _
  have hR' := hR.step hb
  have hlt : (L.take a).length = a := by rw [List.length_take]; omega
  have hll : (L.take a).length + (L.drop a).length = L.length := by rw [hlt, List.length_drop]; omega
  have := insert_any v W1.heap.size W.heap.size (L.take a) (L.drop a) x (W.alloc (.cells (encI x).toArray 28)) (by omega) hR'.2.2 (by rw [hll, List.take_append_drop]; exact hR'.2.1) (heap_alloc_new W _) (fun e => by have := (hR.2.1.lt _ e).2; omega)
  rw [hlt] at this
  refine this.mono ?_
  rintro e w' ⟨v', rfl, ho, hg⟩
  refine ⟨v', rfl, below_ownB hR'.1 hR'.2.2 hg (fun k hk => (hR.2.1.lt k hk).1), ?_, Nat.le_trans hR'.2.2 hg.size⟩
  rw [show (L.take a ++ x :: L.drop a).length = a + (L.drop a).length + 1 by rw [List.length_append, hlt, List.length_cons]; omega]
  exact ho
theorem put_fit (N : List Ins) (W1 W : World) (v : Value) (hl : N.length ≤ 17) (hR : RowI W1 W1.heap.size N W v) :
    Calls Try.prog 80 #[v] W fun e w' => ∃ v', e = .returned v' ∧ RowI W1 W1.heap.size (fitL N) w' v' := by
  refine (fit_any v W1.heap.size N W hl hR.2.1).mono ?_
  rintro e w' ⟨v', rfl, ho, hg⟩
  exact ⟨v', rfl, below_ownB hR.1 hR.2.2 hg (fun k hk => (hR.2.1.lt k hk).1), ho, Nat.le_trans hR.2.2 hg.size⟩
theorem put_new (A : Option Addr) (c : Nat) (L : List Ins) (x : Ins) (w : World) (ht : ∀ y ∈ L, y.tgt.length ≤ 100000) (hx : x.tgt.length ≤ 100000) (hA : IAt w w.heap.size A L) (hA2 : A = none ∨ ∃ g off, A = some ⟨g, off, none⟩)
    (hg : goodR L = true) (hi : goodI x = true) (hf : foundAt L x (lowR L x) = false) : Calls Try.prog 39 #[.slice A L.length c, .agg (encI x).toArray] w (PutIs w L x) := by
  have hl := ((goodR_iff L).1 hg).1
  have hM : putG L x = fitL (L.take (lowR L x) ++ x :: L.drop (lowR L x)) := by unfold putG; rw [if_neg (by rw [hf]; decide)]
  have hn17 : (L.take (lowR L x) ++ x :: L.drop (lowR L x)).length ≤ 17 := by
    have := lowR_le L x
    rw [List.length_append, List.length_cons, List.length_take, List.length_drop]; omega
  have hM16 : (putG L x).length ≤ 16 := by rw [hM]; exact fitL_len _ hn17
  have K := putK A c L (putG L x) x w (by omega) (by omega) ht hx hA hA2
  have hb0 : Below w.heap.size w (w.alloc (.cells (encI x).toArray 28)) := (Below.refl _ w).alloc (Nat.le_refl _) _
  have hA1 : IAt (w.alloc (.cells (encI x).toArray 28)) (w.alloc (.cells (encI x).toArray 28)).heap.size A L := (hA.below hb0).more hb0.size
  have HCL := Lib.hid K.cl
  have HGD := Lib.hid K.gd
  have HGI := Lib.hid K.gi
  have HLD := Lib.hid K.ld
  have HSM := Lib.hid K.sm
  have HSE := Lib.hid (fun (N : List Ins) (W : World) (v : Value) (hR : RowI (w.alloc (.cells (encI x).toArray 28)) (w.alloc (.cells (encI x).toArray 28)).heap.size N W v) => put_search A c L N x (w.alloc (.cells (encI x).toArray 28)) W v hg hA1 hR)
  have HINS := Lib.hid (fun (W : World) (v : Value) (hR : RowI (w.alloc (.cells (encI x).toArray 28)) (w.alloc (.cells (encI x).toArray 28)).heap.size L W v) => put_ins L (lowR L x) x (w.alloc (.cells (encI x).toArray 28)) W v hl (lowR_le L x) hR)
  have HFIT := Lib.hid (fun (W : World) (v : Value) (hR : RowI (w.alloc (.cells (encI x).toArray 28)) (w.alloc (.cells (encI x).toArray 28)).heap.size (L.take (lowR L x) ++ x :: L.drop (lowR L x)) W v) => put_fit (L.take (lowR L x) ++ x :: L.drop (lowR L x)) (w.alloc (.cells (encI x).toArray 28)) W v hn17 hR)
  have HFIN : Hid (∀ W v, RowI (w.alloc (.cells (encI x).toArray 28)) (w.alloc (.cells (encI x).toArray 28)).heap.size (putG L x) W v → PutIs w L x (.returned (.tuple #[v, .bool (!sameR (putG L x) L)])) W) := Lib.hid (fun W v hR => by
    obtain ⟨f1, f2⟩ := K.fin W v hR
    have e1 : putL L x = putG L x := by unfold putL; rw [hg, hi]; rfl
    have e2 : putOk L x = !sameR (putG L x) L := by unfold putOk; rw [hg, hi]; rfl
    exact ⟨v, by rw [e2], by rw [e1]; exact f1, f2⟩)
  rw [hf] at HSE
  rw [hg] at HGD
  rw [hi] at HGI
  rw [← hM] at HFIT
  clear K hA hA2 ht hx hA1 hb0 hM hM16 hn17 hl hf hg hi
  generalize L.take (lowR L x) ++ x :: L.drop (lowR L x) = N at *
  generalize putG L x = M at *
  generalize sameR M L = sr at *
  generalize lowR L x = a at *
  generalize L.length = n at *
  go_enter Try.func39, Try.ntmps39
  go_wp2_with (first
    | (go_at_call 77; (with_reducible refine HCL.out.mono ?_); rintro e2 w2 ⟨v, rfl, hp2⟩)
    | (go_at_call 40; (with_reducible refine (HGD.out _ _ _ hp2).mono ?_); rintro e3 w3 ⟨rfl, hp3⟩)
    | ((with_reducible refine wpList_loadG (o := ⟨some 15, _, _, _, _, _⟩) ?_ 28 (.tmp 3) rfl _ ?_ _ (HLD.out _ _ _ hp3) ?_); rfl; rfl)
    | (go_at_call 14; (with_reducible refine (HGI.out _ _ _ hp3).mono ?_); rintro e4 w4 ⟨rfl, hp4⟩)
    | ((with_reducible refine wpList_loadV (op := ⟨some 22, _, _, _, _, _⟩) rfl 28 (.tmp 3) rfl _ ?_ _ (HLD.out _ _ _ hp4) ?_); rfl)
    | (go_at_call 78; (with_reducible refine (HSE.out _ _ _ hp4).mono ?_); rintro e5 w5 ⟨rfl, hp5⟩)
    | ((with_reducible refine wpList_loadV (op := ⟨some 30, _, _, _, _, _⟩) rfl 28 (.tmp 3) rfl _ ?_ _ (HLD.out _ _ _ hp5) ?_); rfl)
    | ((with_reducible refine wpList_build_oneI insT x (o := ⟨some 31, _, _, _, _, _⟩) rfl (.tmp 30) rfl ?_ ?_); rfl)
    | (go_at_call 81; (with_reducible refine (HINS.out _ _ hp5).mono ?_); rintro e6 w6 ⟨v6, rfl, hp6⟩)
    | (go_at_call 80; (with_reducible refine (HFIT.out _ _ hp6).mono ?_); rintro e7 w7 ⟨v7, rfl, hp7⟩)
    | (go_at_call 44; (with_reducible refine (HSM.out _ _ hp7).mono ?_); rintro e8 w8 ⟨rfl, hp8⟩))
  go_ret2
  exact HFIN.out _ _ hp8
end Go.Proofs.Ytkceipkgebgigaa
end
