/- The function that yields the texts between points, for a body that knows that they are short. Conditions: at most 100,000 bytes. -/
import Derived.Test.YtjiiignbejbiiaaXLcf
namespace Go.Proofs.Ytjiiignbejbiiaa
open Go.Shelf Go.RowKit Go.Lib Go.Great
set_option maxRecDepth 100000
set_option maxHeartbeats 1000000
/-- A text of no more than 100,000 bytes. -/
abbrev Tx := { p : List UInt8 // p.length ≤ 100000 }
def encX (p : Tx) : Value := .string (bstr p.1)
/-- Where the closure's loop stands. -/
def BtwR1 (s : List UInt8) (J : List Tx → World → Prop) (re mo : Value) (wr : World) : Prop :=
  (∃ (pre : List Tx) (r : List UInt8), re = .string (bstr r) ∧ mo = .bool true ∧ pre.map Subtype.val ++ splitD r = splitD s ∧ r.length ≤ s.length ∧ J pre wr) ∨ (∃ (pre : List Tx) (r : List UInt8), re = .string (bstr r) ∧ mo = .bool false ∧ pre.map Subtype.val = splitD s ∧ J pre wr)
theorem btw_stops1 (n : Nat) (hn : 2 ≤ n) (s : List UInt8) (hs : s.length ≤ 100000) (Bs : Nat) (w : World) (hBs : Bs < w.heap.size) (hc : w.cell? ⟨Bs, 0, none⟩ = some (.string (bstr s))) :
    SeqStops Fence.wide n Try.prog 52 #[.pointer (some ⟨Bs, 0, none⟩)] encX (fun xs => xs.map Subtype.val = splitD s) (fun pre => pre.map Subtype.val <+: splitD s) (splitD s).length w := fun l J Jx W hW hJ hJx hY h0 => by
  have hcW := (hW.cell (p := ⟨Bs, 0, none⟩) hBs).trans hc
  have R0 : Hid (BtwR1 s J (.string (bstr s)) (.bool true) W) := Lib.hid (.inl ⟨[], s, rfl, rfl, rfl, Nat.le_refl _, h0⟩)
  have HY := Lib.hid hY
  have HJ := Lib.hid hJ
  have HJX := Lib.hid hJx
  have HS := Lib.hid hs
  clear hY hJ hJx hs h0
  refine callsIn_of_wp Try.func52 rfl trivial ?_ rfl
  simp only [Try.ntmps52, List.size_toArray, List.length_cons, List.length_nil, Nat.reduceAdd, Nat.reduceSub, Array.replicate_succ, Array.replicate_zero, List.push_toArray, List.append_toArray, List.nil_append, List.cons_append]
  gi_wp2
  gi_loopw [3, 4] (BtwR1 s J) (fun re mo _ => btwM re mo)
  case atStart => exact R0.out
  case round =>
    rcases hrel with ⟨pre, r, rfl, rfl, hp, hr, hJw⟩ | ⟨pre, r, rfl, rfl, hp, hJw⟩
    · have hsr := HS.out
      have hlen : pre.length < (splitD s).length := by rw [← hp, List.length_append, List.length_map]; have := splitD_pos r; omega
      have HP := Lib.hid hp
      have HR := Lib.hid hr
      have hn1 : 1 ≤ n := by omega
      clear R0
      rcases index_facts r 46 with ⟨_, hno⟩ | ⟨k, _, _, hk, hno⟩
      · have HC := Lib.hid (cut_miss (n := n - 1) r hno (by omega) wr)
        have HJ2 : Hid (∀ w1, Below wr.heap.size wr w1 → J pre w1) := Lib.hid (fun w1 hb => HJ.out _ _ _ _ hJw (below_grown hb) (fun r e => by cases e))
        have hrl : r.length ≤ 100000 := by omega
        have HE : Hid ((pre ++ [(⟨r, hrl⟩ : Tx)]).map Subtype.val = splitD s) := Lib.hid (by rw [← hp, splitD_none r (fun c hc e => hno (e ▸ hc)), List.map_append]; rfl)
        clear hno hp hr hJw HP HR
        gi_wp2_with (refine ⟨trivial, ?_⟩; gi_at_call 53; (with_reducible refine HC.out.mono ?_); rintro e w1 ⟨rfl, hb1⟩; have hj1 := HJ2.out _ hb1; obtain ⟨fn, tmps, assign, body, hy, hR⟩ := HY.out pre ⟨r, hrl⟩ w1 hj1 hlen; dsimp only [encX] at hy)
        refine hR.mono ?_
        rintro e W3 (⟨rfl, hJ3, hk3⟩ | ⟨rfl, hJx3⟩)
        · gi_wp2
          go_roundw
          case rel => exact .inr ⟨_, [], rfl, rfl, HE.out, hJ3⟩
          case measure => simp [btwM]
        · gi_wp2
          refine bodyPost_ret (results_none rfl _ _ _) rfl ?_
          exact ⟨⟨_, rfl⟩, .inr ⟨_, by rw [HE.out]; exact List.prefix_refl _, hJx3⟩⟩
      · obtain ⟨a, ha⟩ : ∃ a, r.take k = a := ⟨_, rfl⟩
        obtain ⟨b, hb⟩ : ∃ b, r.drop (k + 1) = b := ⟨_, rfl⟩
        rw [ha, hb] at hk
        rw [ha] at hno
        subst hk
        have HC := Lib.hid (cut_hit (n := n - 1) a b hno (by omega) wr)
        have HJ2 : Hid (∀ w1, Below wr.heap.size wr w1 → J pre w1) := Lib.hid (fun w1 hb => HJ.out _ _ _ _ hJw (below_grown hb) (fun r e => by cases e))
        have hal : a.length ≤ 100000 := by simp at hr; omega
        have HE : Hid ((pre ++ [(⟨a, hal⟩ : Tx)]).map Subtype.val ++ splitD b = splitD s) := Lib.hid (by rw [← hp, splitD_dot a b (fun c hc e => hno (e ▸ hc)), List.map_append, List.append_assoc]; rfl)
        have HL : Hid (b.length ≤ s.length ∧ b.length < (a ++ 46 :: b).length) := Lib.hid (by simp at hr ⊢; omega)
        clear hno hp hr hJw HP HR ha hb
        generalize a ++ 46 :: b = r at HC HL ⊢
        gi_wp2_with (refine ⟨trivial, ?_⟩; gi_at_call 53; (with_reducible refine HC.out.mono ?_); rintro e w1 ⟨rfl, hb1⟩; have hj1 := HJ2.out _ hb1; obtain ⟨fn, tmps, assign, body, hy, hR⟩ := HY.out pre ⟨a, hal⟩ w1 hj1 hlen; dsimp only [encX] at hy)
        refine hR.mono ?_
        rintro e W3 (⟨rfl, hJ3, hk3⟩ | ⟨rfl, hJx3⟩)
        · gi_wp2
          go_roundw
          case rel => exact .inl ⟨_, b, rfl, rfl, HE.out, HL.out.1, hJ3⟩
          case measure => simp only [btwM, bstr_size]; have := HL.out.2; omega
        · gi_wp2
          refine bodyPost_ret (results_none rfl _ _ _) rfl ?_
          exact ⟨⟨_, rfl⟩, .inr ⟨_, ⟨splitD b, HE.out⟩, hJx3⟩⟩
    · clear R0
      gi_wp2
      go_end0
      exact ⟨⟨_, rfl⟩, .inl ⟨pre, hp, hJw⟩⟩
end Go.Proofs.Ytjiiignbejbiiaa
