/- Fill of the package ring. Conditions: the queue is made; what is filled in lies apart. -/
import Derived.Test.YtkebgcalphajhaaRad
namespace Go.Proofs.Ytkebgcalphajhaa
open Go.RowKit Go.Lib
set_option maxRecDepth 100000
set_option maxHeartbeats 400000
/-- The address leads to the numbers K, in a block that P allows. -/
def IntsAt (w : World) (P : Nat → Prop) (A : Option Addr) (K : List Int) : Prop := K = [] ∨ ∃ b off, A = some ⟨b, off, none⟩ ∧ P b ∧ b < w.heap.size ∧ ∀ j, j < K.length → w.cell? ⟨b, off + j, none⟩ = some (.int .i64 K[j]!)
theorem IntsAt.same {w w' : World} {P : Nat → Prop} {A : Option Addr} {K : List Int} (h : IntsAt w P A K) (hs : w.heap.size ≤ w'.heap.size) (hb : ∀ b, P b → b < w.heap.size → w'.heap[b]? = w.heap[b]?) : IntsAt w' P A K := by
  rcases h with h | ⟨b, off, e, hp, hl, hc⟩
  · exact .inl h
  · exact .inr ⟨b, off, e, hp, by omega, fun j hj => (World.cell?_of_block (a := ⟨b, off + j, none⟩) (hb b hp hl)).trans (hc j hj)⟩
theorem IntsAt.mono {w : World} {P P' : Nat → Prop} {A : Option Addr} {K : List Int} (h : IntsAt w P A K) (hp : ∀ b, b < w.heap.size → P b → P' b) : IntsAt w P' A K := by
  rcases h with h | ⟨b, off, e, h1, hl, hc⟩
  · exact .inl h
  · exact .inr ⟨b, off, e, hp b hl h1, hl, hc⟩
theorem RowAt.ints {w : World} {v : Value} {n : Nat} {L : List Int} {A : Option Addr} {c : Nat} (h : RowAt w 3 1 v n (intsV L)) (hv : v = .slice A n c) : IntsAt w (fun b => v.ownBlock = some b) A L := by
  rcases id h.2 with ⟨e, h0⟩ | ⟨g, off, cap, cur, e, hg, _⟩
  · left
    have := h.1
    rw [h0, intsV_length] at this
    exact List.eq_nil_of_length_eq_zero (by simpa using this)
  · rw [e] at h hv
    injection hv with e1 _ e3
    subst e1
    refine .inr ⟨g, off, rfl, by rw [e]; rfl, (Array.getElem?_eq_some_iff.1 hg).1, fun j hj => h.cell j _ (intsV_get L j hj)⟩
def fillN (most : Nat) (L K : List Int) : Nat := min (most - L.length) K.length
def fillL (most : Nat) (L K : List Int) : List Int := L ++ K.take (fillN most L K)
theorem fillL_le {most : Nat} {L K : List Int} (h : L.length ≤ most) : (fillL most L K).length ≤ most := by
  unfold fillL fillN
  rw [List.length_append, List.length_take]
  omega
def FillRel (w : World) (g most : Nat) (v : Value) (L K : List Int) (i : Value) (wr : World) : Prop := ∃ k : Nat, ∃ v', i = .int .i64 (k : Int) ∧ k ≤ K.length ∧ L.length + k ≤ most ∧ Ring wr g most v' (L ++ K.take k) ∧ Mov w wr g v v'
theorem fill_any (g most : Nat) (h0 : 0 < most) (hm : most ≤ 65536) (v : Value) (L K : List Int) (A : Option Addr) (c : Nat) (w : World) (hl : L.length ≤ most) (h : Ring w g most v L) (hK : IntsAt w (fun b => b ≠ g ∧ v.ownBlock ≠ some b) A K) (hKl : K.length ≤ 65536) : Calls Try.prog 28 #[.pointer (some ⟨g, 0, none⟩), .slice A K.length c] w (Cutted w g most v (fillL most L K) (.int .i64 (fillN most L K : Int))) := by
  have R0 : Hid (FillRel w g most v L K (.int .i64 0) w) := Lib.hid ⟨0, v, rfl, by omega, by omega, by rw [List.take_zero, List.append_nil]; exact h, Mov.refl _ _ _⟩
  have HK := Lib.hid hK
  have HE : Hid (fillN most L K = min (most - L.length) K.length) := Lib.hid rfl
  have HF : Hid (fillL most L K = L ++ K.take (fillN most L K)) := Lib.hid rfl
  generalize fillN most L K = N at *
  generalize fillL most L K = F at *
  generalize hn : K.length = n at *
  clear h hK
  go_enter Try.func28, Try.ntmps28
  go_wp2
  go_loopw [9] (FillRel w g most v L K) (fun i _ => n - (RowKit.intOf i).toNat)
  case atStart => exact R0.out
  case round =>
    obtain ⟨k, v1, rfl, hk, hlk, hr, hmv⟩ := hrel
    rw [hn] at hk
    clear R0
    have HR := Lib.hid hr
    have HM := Lib.hid hmv
    by_cases hlt : k < n
    · have hlt' : (k : Int) < (n : Int) := by omega
      rcases HK.out.same hmv.size (fun b hb hl => hmv.block b hl hb.1 (fun e => hb.2 e.symm)) with e0 | ⟨b, off, rfl, hp, hb, hcl⟩
      · rw [e0] at hn; simp at hn; omega
      have q := hcl k (by omega)
      have hll : (L ++ K.take k).length = L.length + k := by rw [List.length_append, List.length_take]; omega
      by_cases hc : L.length + k < most
      · have HP := Lib.hid (push_more g most h0 hm v1 (L ++ K.take k) K[k]! wr (by omega) hr)
        have HREL : Hid (∀ wx v2, Ring wx g most v2 (L ++ K.take k ++ [K[k]!]) → Mov w wx g v v2 → FillRel w g most v L K (.int .i64 ((k : Int) + 1)) wx) := Lib.hid (fun wx v2 h1 h2 => ⟨k + 1, v2, by go_num, by omega, by omega, by
          have e1 : L ++ K.take (k + 1) = L ++ K.take k ++ [K[k]!] := by
            rw [List.take_add_one, List.getElem?_eq_getElem (by omega), getElem!_pos K k (by omega), List.append_assoc]
            rfl
          rw [e1]
          exact h1, h2⟩)
        clear hr hmv hll hcl
        generalize K[k]! = x at *
        generalize L ++ K.take k ++ [x] = L2 at *
        go_wp2_with (first
          | (go_at_call 25; (with_reducible refine HP.out.mono ?_); rintro e w2 ⟨v2, rfl, hr2, hm2⟩))
        go_roundw
        case rel => exact HREL.out _ _ hr2 (HM.out.trans hm2)
        case measure => simp [RowKit.intOf]; omega
      · have HP := Lib.hid (push_full g most h0 hm v1 (L ++ K.take k) K[k]! wr (by omega) hr)
        have HEND : Hid (N = k ∧ L ++ K.take k = F) := Lib.hid (by
          have e1 : N = k := by rw [HE.out]; omega
          exact ⟨e1, by rw [HF.out, e1]⟩)
        clear hr hmv hll hcl
        generalize K[k]! = x at *
        generalize L ++ K.take k = L2 at *
        go_wp2_with (first
          | (go_at_call 25; (with_reducible refine HP.out.mono ?_); rintro e w2 ⟨v2, rfl, hr2, hm2⟩))
        go_ret
        obtain ⟨e1, e2⟩ := HEND.out
        rw [e2] at hr2
        rw [e1]
        exact ⟨v2, rfl, hr2, HM.out.trans hm2⟩
    · obtain rfl : k = n := by omega
      have hlt' : ¬ (k : Int) < (k : Int) := by omega
      have HEND : Hid (N = k ∧ L ++ K.take k = F) := Lib.hid (by
        have e1 : N = k := by rw [HE.out]; omega
        exact ⟨e1, by rw [HF.out, e1]⟩)
      clear hr hmv
      generalize L ++ K.take k = L2 at *
      go_wp2
      go_ret
      obtain ⟨e1, e2⟩ := HEND.out
      have hr2 := HR.out
      rw [e2] at hr2
      rw [e1]
      exact ⟨v1, rfl, hr2, HM.out⟩
end Go.Proofs.Ytkebgcalphajhaa
