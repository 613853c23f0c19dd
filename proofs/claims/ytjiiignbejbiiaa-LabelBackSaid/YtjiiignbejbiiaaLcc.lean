/- The function that yields the texts between points, and what makes it. Conditions: at most 100,000 bytes. -/
import Derived.RangeFuncNested
import Derived.RangeFuncBound
import Derived.RangeFuncCalls
import Derived.RangeFuncLeaves
import Derived.OwnWalkIn
import Derived.TacticsInMore
import Derived.LoopNIn
import Derived.LoopIn
import Derived.Test.YtjiiignbejbiiaaLcb
namespace Go.Proofs.Ytjiiignbejbiiaa
open Go.Shelf Go.RowKit Go.Lib Go.Great
set_option maxRecDepth 100000
set_option maxHeartbeats 1000000
theorem below_grown {W W' : World} (h : Below W.heap.size W W') : W.grownBy W' none := ⟨h.os, h.tape, h.output, h.size, fun k hk _ => h.block k hk⟩
def encT (p : List UInt8) : Value := .string (bstr p)
theorem cut_uniq {c : UInt8} : ∀ {a a' b b' : List UInt8}, a ++ c :: b = a' ++ c :: b' → c ∉ a → c ∉ a' → a = a' ∧ b = b'
  | [], [], b, b', h, _, _ => by simpa using h
  | [], y :: a', b, b', h, _, h2 => by
    simp only [List.nil_append, List.cons_append, List.cons.injEq] at h
    exact absurd (by simp [h.1]) h2
  | x :: a, [], b, b', h, h1, _ => by
    simp only [List.nil_append, List.cons_append, List.cons.injEq] at h
    exact absurd (by simp [h.1]) h1
  | x :: a, y :: a', b, b', h, h1, h2 => by
    simp only [List.cons_append, List.cons.injEq] at h
    obtain ⟨e1, e2⟩ := cut_uniq h.2 (fun hm => h1 (by simp [hm])) (fun hm => h2 (by simp [hm]))
    exact ⟨by rw [h.1, e1], e2⟩
theorem cut_hit {n : Nat} (a b : List UInt8) (ha : (46 : UInt8) ∉ a) (hr : (a ++ 46 :: b).length ≤ 100000) (w : World) : CallsIn Fence.wide n Try.prog 53 #[.string (bstr (a ++ 46 :: b)), .string ⟨#[46]⟩] w fun e w' => e = .returned (.tuple #[.string (bstr a), .string (bstr b), .bool true]) ∧ Below w.heap.size w w' := by
  refine callsIn_wide.2 ((cut_any _ 46 hr w).mono ?_)
  rintro e w' ⟨⟨a', b', h1, h2, rfl⟩ | ⟨h1, rfl⟩, hb⟩
  · obtain ⟨rfl, rfl⟩ := cut_uniq h1 ha h2
    exact ⟨rfl, hb⟩
  · exact absurd (by simp) h1
theorem cut_miss {n : Nat} (r : List UInt8) (ha : (46 : UInt8) ∉ r) (hr : r.length ≤ 100000) (w : World) : CallsIn Fence.wide n Try.prog 53 #[.string (bstr r), .string ⟨#[46]⟩] w fun e w' => e = .returned (.tuple #[.string (bstr r), .string ⟨#[]⟩, .bool false]) ∧ Below w.heap.size w w' := by
  refine callsIn_wide.2 ((cut_any _ 46 hr w).mono ?_)
  rintro e w' ⟨⟨a', b', rfl, h2, rfl⟩ | ⟨h1, rfl⟩, hb⟩
  · exact absurd (by simp) ha
  · exact ⟨rfl, hb⟩
/-- Where the closure's loop stands. -/
def BtwR (s : List UInt8) (J : List (List UInt8) → World → Prop) (re mo : Value) (wr : World) : Prop :=
  (∃ pre r, re = .string (bstr r) ∧ mo = .bool true ∧ pre ++ splitD r = splitD s ∧ r.length ≤ s.length ∧ J pre wr) ∨ (∃ r, re = .string (bstr r) ∧ mo = .bool false ∧ J (splitD s) wr)
def btwM (re mo : Value) : Nat := match re, mo with
  | .string b, .bool true => b.size + 1
  | _, _ => 0
theorem btw_stops (n : Nat) (hn : 2 ≤ n) (s : List UInt8) (hs : s.length ≤ 100000) (Bs : Nat) (w : World) (hBs : Bs < w.heap.size) (hc : w.cell? ⟨Bs, 0, none⟩ = some (.string (bstr s))) :
    SeqStops Fence.wide n Try.prog 52 #[.pointer (some ⟨Bs, 0, none⟩)] encT (fun xs => xs = splitD s) (fun pre => pre <+: splitD s) (splitD s).length w := fun l J Jx W hW hJ hJx hY h0 => by
  have hcW := (hW.cell (p := ⟨Bs, 0, none⟩) hBs).trans hc
  have R0 : Hid (BtwR s J (.string (bstr s)) (.bool true) W) := Lib.hid (.inl ⟨[], s, rfl, rfl, rfl, Nat.le_refl _, h0⟩)
  have HY := Lib.hid hY
  have HJ := Lib.hid hJ
  have HJX := Lib.hid hJx
  have HS := Lib.hid hs
  clear hY hJ hJx hs h0
  refine callsIn_of_wp Try.func52 rfl trivial ?_ rfl
  simp only [Try.ntmps52, List.size_toArray, List.length_cons, List.length_nil, Nat.reduceAdd, Nat.reduceSub, Array.replicate_succ, Array.replicate_zero, List.push_toArray, List.append_toArray, List.nil_append, List.cons_append]
  gi_wp2
  gi_loopw [3, 4] (BtwR s J) (fun re mo _ => btwM re mo)
  case atStart => exact R0.out
  case round =>
    rcases hrel with ⟨pre, r, rfl, rfl, hp, hr, hJw⟩ | ⟨r, rfl, rfl, hJw⟩
    · have hsr := HS.out
      have hlen : pre.length < (splitD s).length := by rw [← hp, List.length_append]; have := splitD_pos r; omega
      have HP := Lib.hid hp
      have HR := Lib.hid hr
      have hn1 : 1 ≤ n := by omega
      clear R0
      rcases index_facts r 46 with ⟨_, hno⟩ | ⟨k, _, _, hk, hno⟩
      · have HC := Lib.hid (cut_miss (n := n - 1) r hno (by omega) wr)
        have HJ2 : Hid (∀ w1, Below wr.heap.size wr w1 → J pre w1) := Lib.hid (fun w1 hb => HJ.out _ _ _ _ hJw (below_grown hb) (fun r e => by cases e))
        have HE : Hid (pre ++ [r] = splitD s) := Lib.hid (by rw [← hp, splitD_none r (fun c hc e => hno (e ▸ hc))])
        clear hno hp hr hJw HP HR
        gi_wp2_with (refine ⟨trivial, ?_⟩; gi_at_call 53; (with_reducible refine HC.out.mono ?_); rintro e w1 ⟨rfl, hb1⟩; have hj1 := HJ2.out _ hb1; obtain ⟨fn, tmps, assign, body, hy, hR⟩ := HY.out pre r w1 hj1 hlen; dsimp only [encT] at hy)
        refine hR.mono ?_
        rintro e W3 (⟨rfl, hJ3, hk3⟩ | ⟨rfl, hJx3⟩)
        · gi_wp2
          go_roundw
          case rel => exact .inr ⟨[], rfl, rfl, HE.out ▸ hJ3⟩
          case measure => simp [btwM]
        · gi_wp2
          refine bodyPost_ret (results_none rfl _ _ _) rfl ?_
          exact ⟨⟨_, rfl⟩, .inr ⟨pre ++ [r], by rw [HE.out]; exact List.prefix_refl _, hJx3⟩⟩
      · obtain ⟨a, ha⟩ : ∃ a, r.take k = a := ⟨_, rfl⟩
        obtain ⟨b, hb⟩ : ∃ b, r.drop (k + 1) = b := ⟨_, rfl⟩
        rw [ha, hb] at hk
        rw [ha] at hno
        subst hk
        have HC := Lib.hid (cut_hit (n := n - 1) a b hno (by omega) wr)
        have HJ2 : Hid (∀ w1, Below wr.heap.size wr w1 → J pre w1) := Lib.hid (fun w1 hb => HJ.out _ _ _ _ hJw (below_grown hb) (fun r e => by cases e))
        have HE : Hid ((pre ++ [a]) ++ splitD b = splitD s) := Lib.hid (by rw [← hp, splitD_dot a b (fun c hc e => hno (e ▸ hc))]; simp)
        have HL : Hid (b.length ≤ s.length ∧ b.length < (a ++ 46 :: b).length) := Lib.hid (by simp at hr ⊢; omega)
        clear hno hp hr hJw HP HR ha hb
        generalize a ++ 46 :: b = r at HC HL ⊢
        gi_wp2_with (refine ⟨trivial, ?_⟩; gi_at_call 53; (with_reducible refine HC.out.mono ?_); rintro e w1 ⟨rfl, hb1⟩; have hj1 := HJ2.out _ hb1; obtain ⟨fn, tmps, assign, body, hy, hR⟩ := HY.out pre a w1 hj1 hlen; dsimp only [encT] at hy)
        refine hR.mono ?_
        rintro e W3 (⟨rfl, hJ3, hk3⟩ | ⟨rfl, hJx3⟩)
        · gi_wp2
          go_roundw
          case rel => exact .inl ⟨pre ++ [a], b, rfl, rfl, HE.out, HL.out.1, hJ3⟩
          case measure => simp only [btwM, bstr_size]; have := HL.out.2; omega
        · gi_wp2
          refine bodyPost_ret (results_none rfl _ _ _) rfl ?_
          exact ⟨⟨_, rfl⟩, .inr ⟨pre ++ [a], ⟨splitD b, HE.out⟩, hJx3⟩⟩
    · clear R0
      gi_wp2
      go_end0
      exact ⟨⟨_, rfl⟩, .inl ⟨splitD s, rfl, hJw⟩⟩
end Go.Proofs.Ytjiiignbejbiiaa
