/- told of the package timers: what it yields, keys are texts. No condition. -/
import Derived.Test.YtkebgcalphajhaaUai
namespace Go.Proofs.Ytkebgcalphajhaa.Str
open Go.RowKit Go.Lib Go.Shelf Go.Proofs.Ytkebgcalphajhaa
set_option maxRecDepth 100000
set_option maxHeartbeats 400000
def encY (t : ByteArray × Nat) : Array Value := #[Value.string t.1, .int .u64 (t.2 : Int)]
/-- The address leads to the timers L, in a block that S names. -/
def TmsAt (w : World) (S : Nat → Prop) (A : Option Addr) (L : List (ByteArray × Nat)) : Prop := L = [] ∨ ∃ b off, A = some ⟨b, off, none⟩ ∧ S b ∧ b < w.heap.size ∧ ∀ j u, (flatT L)[j]? = some u → w.cell? ⟨b, off + j, none⟩ = some u
theorem und75 : Try.prog.underlying 97 = some (.slice 103) := by kernel_rfl
theorem RowAt.tms {w : World} {v : Value} {L : List (ByteArray × Nat)} {A : Option Addr} {n c : Nat} (h : RowAt w 103 2 v L.length (flatT L)) (hv : v = .slice A n c) : TmsAt w (fun b => v.ownBlock = some b) A L := by
  rcases id h.2 with ⟨rfl, h0⟩ | ⟨g, off, cap, cur, rfl, hg, hn, _⟩
  · exact .inl (List.eq_nil_of_length_eq_zero h0)
  · injection hv with e1 e2 e3
    subst e1
    exact .inr ⟨g, off, rfl, rfl, (Array.getElem?_eq_some_iff.1 hg).1, fun j u hu => h.cell j u hu⟩
theorem told_any (A : Option Addr) (n c : Nat) (w : World) : Calls Try.prog 58 #[.slice A n c] w fun e w' => e = .returned (.func (.func 74) #[] #[.pointer (some ⟨w.heap.size, 0, none⟩)]) ∧ w' = w.alloc (.cells #[.slice A n c] 97) := by
  go_enter Try.func58, Try.ntmps58
  go_wp2
  go_ret
  exact ⟨rfl, rfl⟩
theorem told_stops (m : Nat) (hm : 2 ≤ m) (A : Option Addr) (c : Nat) (L : List (ByteArray × Nat)) (B : Nat) (S : Nat → Prop) (w : World) (hL : L.length ≤ 9223372036854775807) (hS : S B)
    (hSw : ∀ b, S b → b < w.heap.size)
    (hc : w.cell? ⟨B, 0, none⟩ = some (.slice A L.length c)) (hA : TmsAt w S A L) :
    SeqTo Fence.wide m Try.prog 74 #[.pointer (some ⟨B, 0, none⟩)] encY (KpS S) L w := fun l J Jx W hW hJ hJx hY h0 => by
  have hW0 : KpS S W W := KpS.refl S W
  have hcell : W.cell? ⟨B, 0, none⟩ = some (.slice A L.length c) := (hW.cell (p := ⟨B, 0, none⟩) (World.block_lt_of_cell? w _ hc)).trans hc
  have HSW : Hid (∀ b, S b → b < W.heap.size) := Lib.hid (fun b hb => Nat.lt_of_lt_of_le (hSw b hb) hW.size)
  have HLD : Hid (∀ k, k < L.length → ∃ b off, A = some ⟨b, off, none⟩ ∧ ∀ W', KpS S W W' → W'.cell? ⟨b, off + k * 2, none⟩ = some (Value.string L[k]!.1) ∧ W'.cell? ⟨b, off + k * 2 + 1, none⟩ = some (.int .u64 (L[k]!.2 : Int))) := Lib.hid (fun k hk => by
    rcases hA with rfl | ⟨b, off, rfl, hp, hb, hcl⟩
    · simp at hk
    · obtain ⟨f1, f2⟩ := flatT_at L k hk
      exact ⟨b, off, rfl, fun W' hW' => ⟨((World.cell?_of_block (a := ⟨b, off + k * 2, none⟩) (hW'.2 b hp)).trans ((hW.cell (p := ⟨b, off + k * 2, none⟩) hb).trans (hcl _ _ f1))), ((World.cell?_of_block (a := ⟨b, off + k * 2 + 1, none⟩) (hW'.2 b hp)).trans ((hW.cell (p := ⟨b, off + k * 2 + 1, none⟩) hb).trans (hcl _ _ f2)))⟩⟩)
  have HY := Lib.hid hY
  have HJ : Hid (∀ s A X, J s A → J s (A.alloc X)) := Lib.hid (fun s A X h => hJ s A _ none h ⟨rfl, rfl, rfl, by simp, fun k hk _ => heap_alloc_old A X hk⟩ (fun r e => by cases e))
  obtain ⟨n, hn⟩ : ∃ n, n = L.length := ⟨_, rfl⟩
  have R0 : Hid (∃ k : Nat, Value.int .i64 0 = .int .i64 (k : Int) ∧ k ≤ n ∧ J (L.take k) W ∧ KpS S W W) := Lib.hid ⟨0, rfl, by omega, by simpa using h0, hW0⟩
  have HEND : Hid (∀ W', J (L.take n) W' → J L W') := Lib.hid (fun W' h => by rw [hn, List.take_length] at h; exact h)
  have HNX : Hid (∀ k, k < n → L.take (k + 1) = L.take k ++ [(L[k]!.1, L[k]!.2)]) := Lib.hid (fun k hk => by
    rw [List.take_add_one, List.getElem?_eq_getElem (by omega), getElem!_pos L k (by omega)]
    rfl)
  have HPX : Hid (∀ k, L.take k <+: L) := Lib.hid (fun k => List.take_prefix _ _)
  rw [← hn] at HLD hcell hL
  clear hY hJ hJx h0 hc hA hW0 hW hS hSw
  clear hn
  refine callsIn_of_wp Try.func74 rfl trivial ?_ rfl
  simp only [Try.ntmps74, List.size_toArray, List.length_cons, List.length_nil, Nat.reduceAdd, Nat.reduceSub, Array.replicate_succ, Array.replicate_zero, List.push_toArray, List.append_toArray, List.nil_append, List.cons_append]
  gi_wp2
  gi_loopw [7] (fun i wr => ∃ k : Nat, i = .int .i64 (k : Int) ∧ k ≤ n ∧ J (L.take k) wr ∧ KpS S W wr) (fun i _ => n - (RowKit.intOf i).toNat)
  case atStart => exact R0.out
  case round =>
    obtain ⟨k, rfl, hk, hJw, hbr⟩ := hrel
    clear R0
    by_cases hlt : k < n
    · have hlt' : (k : Int) < (n : Int) := by omega
      obtain ⟨b, off, rfl, hld⟩ := HLD.out k hlt
      obtain ⟨q1, q2⟩ := hld wr hbr
      have HR : Hid (∀ w1, J (L.take k ++ [(L[k]!.1, L[k]!.2)]) w1 → KpS S W w1 → ∃ k' : Nat, Value.int .i64 ((k : Int) + 1) = .int .i64 (k' : Int) ∧ k' ≤ n ∧ J (L.take k') w1 ∧ KpS S W w1) := Lib.hid (fun w1 h h2 => ⟨k + 1, by simp, by omega, by rw [HNX.out k hlt]; exact h, h2⟩)
      have HP : Hid (L.take k ++ [(L[k]!.1, L[k]!.2)] <+: L) := Lib.hid (by rw [← HNX.out k hlt]; exact HPX.out _)
      have hbr2 : KpS S W (wr.alloc (.cells #[Value.string L[k]!.1, .int .u64 (L[k]!.2 : Int)] 103)) := hbr.trans ⟨by simp, fun i hi => heap_alloc_old _ _ (Nat.lt_of_lt_of_le (HSW.out i hi) hbr.1)⟩
      obtain ⟨fn, tmps, assign, body, hy, hR⟩ := HY.out (L.take k) (L[k]!.1, L[k]!.2) (wr.alloc (.cells #[Value.string L[k]!.1, .int .u64 (L[k]!.2 : Int)] 103)) (HJ.out _ _ _ hJw) HP.out
      have HRD := Lib.hid hR
      have HBR := Lib.hid hbr2
      clear HLD HEND HNX HPX hR hbr hbr2 hld HY HJ
      unfold encY at *
      simp only at *
      generalize L[k]!.1 = x at *
      generalize L[k]!.2 = y at *
      gi_wp2
      refine ⟨fun _ => by omega, HRD.out.mono ?_⟩
      rintro e W3 (⟨rfl, hJ3, hk3⟩ | ⟨rfl, hJx3⟩)
      · gi_wp2
        go_roundw
        case rel => exact HR.out _ hJ3 (HBR.out.trans hk3)
        case measure => simp [RowKit.intOf]; omega
      · gi_wp2
        refine bodyPost_ret (results_none rfl _ _ _) rfl ?_
        exact ⟨⟨_, rfl⟩, .inr ⟨_, HP.out, hJx3⟩⟩
    · obtain rfl : k = n := by omega
      have hlt' : ¬ (k : Int) < (k : Int) := by omega
      have hj := Lib.hid (HEND.out _ hJw)
      clear HLD HEND HY HJ hbr hJw HNX HPX
      gi_wp2
      go_end0
      exact ⟨⟨_, rfl⟩, .inl hj.out⟩
end Go.Proofs.Ytkebgcalphajhaa.Str
