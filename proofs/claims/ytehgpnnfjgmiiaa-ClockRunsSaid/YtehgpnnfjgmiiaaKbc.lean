/- The walk of ClockRuns. No condition. -/
import Derived.Test.YtehgpnnfjgmiiaaKae
namespace Go.Proofs.Ytehgpnnfjgmiiaa
open Go.RowKit Go.Lib Go.Great
set_option maxRecDepth 100000
set_option maxHeartbeats 2000000
def runK (a : Nat) (L : List Nat) : Nat := L.foldl addK a
theorem runK_lt (L : List Nat) : ∀ a, a < 18446744073709551616 → runK a L < 18446744073709551616 := by
  induction L with
  | nil => intro a h; exact h
  | cons x r ih => intro a _; exact ih _ (addK_lt a x)
theorem runK_take {a : Nat} {L : List Nat} {k : Nat} (h : k < L.length) : runK a (L.take (k + 1)) = addK (runK a (L.take k)) L[k]! := by
  unfold runK
  rw [List.take_add_one, List.foldl_append, List.getElem?_eq_getElem h]
  simp [h]
def RunRel (w : World) (t n : Nat) (L : List Nat) (s i : Value) (wr : World) : Prop := ∃ k : Nat, i = .int .i64 (k : Int) ∧ s = .int .u64 (runK t (L.take k) : Int) ∧ k ≤ n ∧ ClkAt wr w.heap.size (runK t (L.take k)) ∧ Below w.heap.size w wr
theorem cruns_long (t : Nat) (A : Option Addr) (c : Nat) (L : List Nat) (w : World) (hL : 200 < L.length) : Calls Try.prog 4 #[.int .u64 (t : Int), .slice A L.length c] w fun e w' => e = .returned (.bool true) ∧ Below w.heap.size w w' := by
  have HL := Lib.hid (fun W => lives_any W)
  have h1 : (200 : Int) < (L.length : Int) := by omega
  go_enter Try.func4, Try.ntmps4
  go_wp2_with (go_at_call 6; (with_reducible refine (HL.out _).mono ?_); rintro e w2 ⟨rfl, hb2⟩)
  go_ret
  exact ⟨rfl, hb2⟩
theorem run_build37 (W : World) : (Instr.build 37 #[]).run Try.prog W = .ok (.agg #[.bool false, .int .u64 0]) W := by kernel_rfl
theorem cruns_short (t : Nat) (ht : t < 18446744073709551616) (A : Option Addr) (c : Nat) (L : List Nat) (w : World) (hL : L.length ≤ 200) (hA : UAt w w.heap.size A L) (hw : ∀ j, j < L.length → L[j]! < 18446744073709551616) : Calls Try.prog 4 #[.int .u64 (t : Int), .slice A L.length c] w fun e w' => e = .returned (.bool true) ∧ Below w.heap.size w w' := by
  have HA := Lib.hid hA
  have HW := Lib.hid hw
  have HT : Hid (∀ k, k < L.length → runK t (L.take (k + 1)) = addK (runK t (L.take k)) L[k]!) := Lib.hid (fun k h => runK_take h)
  have HLT : Hid (∀ k, runK t (L.take k) < 18446744073709551616) := Lib.hid (fun k => runK_lt _ _ ht)
  have HL : Hid (∀ W, Below w.heap.size w W → Calls Try.prog 6 #[] W fun e w' => e = .returned (.bool true) ∧ Below w.heap.size w w') := Lib.hid (fun W hW => (lives_any W).mono (by
    rintro e w' ⟨rfl, hb⟩
    exact ⟨rfl, hW.trans (hb.mono hW.size)⟩))
  have HN0 := Lib.hid (new_any t w)
  have h1 : ¬ (200 : Int) < (L.length : Int) := by omega
  have R0 : Hid (RunRel w t L.length L (.int .u64 (t : Int)) (.int .i64 0) (w.alloc (.cells #[.bool true, .int .u64 (t : Int)] 37))) := Lib.hid ⟨0, rfl, rfl, by omega, heap_alloc_new w _, (Below.refl _ w).alloc (Nat.le_refl _) _⟩
  generalize hn : L.length = n at *
  clear hA hw
  go_enter Try.func4, Try.ntmps4
  go_wp2_with (go_at_call 17; (with_reducible refine HN0.out.mono ?_); rintro e w1 ⟨rfl, rfl⟩)
  go_loopw [6, 23] (RunRel w t n L) (fun _ i _ => n - (RowKit.intOf i).toNat)
  case atStart => exact R0.out
  case round =>
    obtain ⟨k, rfl, rfl, hk, hc, hb⟩ := hrel
    clear R0 HN0
    have HB := Lib.hid hb
    by_cases hlt : k < n
    · have hlt' : (k : Int) < (n : Int) := by omega
      rcases HA.out.below hb with h0 | ⟨g, o, rfl, hg, hcl⟩
      · rw [h0] at hn; simp at hn; omega
      have q := hcl k (by omega)
      have hx := HW.out k hlt
      have hz := HT.out k hlt
      have hr := HLT.out k
      have hge : runK t (L.take k) ≤ runK t (L.take (k + 1)) := by rw [hz]; exact addK_le _ _ hr
      have HREL : Hid (∀ wx, ClkAt wx w.heap.size (runK t (L.take (k + 1))) → Below w.heap.size w wx → RunRel w t n L (.int .u64 (runK t (L.take (k + 1)) : Int)) (.int .i64 ((k : Int) + 1)) wx) := Lib.hid (fun wx h1 h2 => ⟨k + 1, by go_num, rfl, by omega, h1, h2⟩)
      have HRA := Lib.hid (radd_any (runK t (L.take k)) L[k]! hr hx)
      rw [← hz] at HRA
      have HT2 : Hid (∀ W, ClkAt W w.heap.size (runK t (L.take k)) → Below w.heap.size w W → Calls Try.prog 19 #[.pointer (some ⟨w.heap.size, 0, none⟩), .int .u64 (L[k]! : Int)] W fun e w' => e = .returned (.int .u64 (runK t (L.take (k + 1)) : Int)) ∧ ClkAt w' w.heap.size (runK t (L.take (k + 1))) ∧ Below w.heap.size w w') := Lib.hid (fun W h1 h2 => (tick_yes _ _ _ hr hx W h1).mono (by
        rintro e w' ⟨rfl, h3, _, h4⟩
        rw [← hz] at h3
        exact ⟨by rw [hz], h3, h2.trans (h4 _ (Nat.le_refl _))⟩))
      have HCL := Lib.hid (clone_yes w.heap.size _ wr hc)
      have hcn : ClkAt (wr.alloc (.cells #[.bool true, .int .u64 (runK t (L.take k) : Int)] 37)) wr.heap.size (runK t (L.take k)) := heap_alloc_new wr _
      have hc1 : ClkAt (wr.alloc (.cells #[.bool true, .int .u64 (runK t (L.take k) : Int)] 37)) w.heap.size (runK t (L.take k)) := hc.below ((Below.refl _ wr).alloc (Nat.le_refl _) _) hc.lt
      have hb1 : Below w.heap.size w (wr.alloc (.cells #[.bool true, .int .u64 (runK t (L.take k) : Int)] 37)) := hb.alloc hb.size _
      have HTD : Hid (Calls Try.prog 19 #[.pointer (some ⟨wr.heap.size, 0, none⟩), .int .u64 7] (wr.alloc (.cells #[.bool true, .int .u64 (runK t (L.take k) : Int)] 37)) fun e w' => ∃ v, e = .returned v ∧ ClkAt w' w.heap.size (runK t (L.take k)) ∧ Below w.heap.size w w') := Lib.hid ((tick_yes wr.heap.size _ 7 hr (by omega) _ hcn).mono (by
        rintro e w' ⟨rfl, _, _, h4⟩
        exact ⟨_, rfl, hc1.below (h4 _ (Nat.le_refl _)) hc.lt, hb1.trans (h4 _ hb.size)⟩))
      have HNW : Hid (∀ W n, ClkAt W w.heap.size n → Calls Try.prog 20 #[.pointer (some ⟨w.heap.size, 0, none⟩)] W fun e w' => e = .returned (.int .u64 (n : Int)) ∧ w' = W) := Lib.hid (fun W n h => now_yes _ _ W h)
      have hge' : ¬ (runK t (L.take (k + 1)) : Int) < (runK t (L.take k) : Int) := by omega
      clear hcn hc1 hb1 hc hb hg hcl hx hz hr hge HT HLT HA HW
      generalize runK t (L.take (k + 1)) = v at *
      generalize runK t (L.take k) = u at *
      generalize L[k]! = x at *
      generalize w.heap.size = p at *
      go_wp2_with (first
        | (go_at_call 18; (with_reducible refine HCL.out.mono ?_); rintro e w2 ⟨rfl, rfl⟩)
        | (go_at_call 19; (with_reducible refine HTD.out.mono ?_); rintro e w3 ⟨v3, rfl, hc3, hb3⟩)
        | (go_at_call 20; (with_reducible refine (HNW.out _ _ hc3).mono ?_); rintro e w4 ⟨rfl, rfl⟩)
        | (go_at_call 8; (with_reducible refine (HRA.out _).mono ?_); rintro e w5 ⟨rfl, rfl⟩)
        | (go_at_call 19; (with_reducible refine (HT2.out _ hc3 hb3).mono ?_); rintro e w6 ⟨rfl, hc6, hb6⟩)
        | (go_at_call 20; (with_reducible refine (HNW.out _ _ hc6).mono ?_); rintro e w7 ⟨rfl, rfl⟩))
      go_roundw
      case rel => exact HREL.out _ hc6 hb6
      case measure => simp [RowKit.intOf]; omega
    · obtain rfl : k = n := by omega
      have hlt' : ¬ (k : Int) < (k : Int) := by omega
      have C20 := Lib.hid (fun W => now_nil W)
      have C19 : Hid (∀ W, Calls Try.prog 19 #[.pointer none, .int .u64 3] W fun e w' => e = .returned (.int .u64 0) ∧ w' = W) := Lib.hid (fun W => tick_nil 3 W)
      have C18 := Lib.hid (fun W => clone_nil W)
      have q1 : ∀ W : World, (W.alloc (.cells #[.bool false, .int .u64 0] 37)).cell? ⟨W.heap.size, 0, none⟩ = some (.bool false) := fun W => by
        unfold World.cell?
        rw [heap_alloc_new]
        rfl
      have D20 : Hid (∀ W : World, Calls Try.prog 20 #[.pointer (some ⟨W.heap.size, 0, none⟩)] (W.alloc (.cells #[.bool false, .int .u64 0] 37)) fun e w' => e = .returned (.int .u64 0) ∧ w' = W.alloc (.cells #[.bool false, .int .u64 0] 37)) := Lib.hid (fun W => now_no _ _ (q1 W))
      have D19 : Hid (∀ W : World, Calls Try.prog 19 #[.pointer (some ⟨W.heap.size + 1, 0, none⟩), .int .u64 3] ((W.alloc (.cells #[.bool false, .int .u64 0] 37)).alloc (.cells #[.bool false, .int .u64 0] 37)) fun e w' => e = .returned (.int .u64 0) ∧ w' = (W.alloc (.cells #[.bool false, .int .u64 0] 37)).alloc (.cells #[.bool false, .int .u64 0] 37)) := Lib.hid (fun W => by
        have h := tick_no _ 3 _ (q1 (W.alloc (.cells #[.bool false, .int .u64 0] 37)))
        have e : (W.alloc (.cells #[.bool false, .int .u64 0] 37)).heap.size = W.heap.size + 1 := by simp
        rw [e] at h
        exact h)
      have HBB : Hid (Below w.heap.size w ((wr.alloc (.cells #[.bool false, .int .u64 0] 37)).alloc (.cells #[.bool false, .int .u64 0] 37))) := Lib.hid ((hb.alloc hb.size _).alloc (by have := hb.size; simp; omega) _)
      clear hb hc HB q1 HT HLT HA HW
      generalize runK t (L.take k) = u at *
      go_wp2_with (first
        | (go_at_call 20; (with_reducible refine (C20.out _).mono ?_); rintro e w2 ⟨rfl, rfl⟩)
        | (go_at_call 19; (with_reducible refine (C19.out _).mono ?_); rintro e w3 ⟨rfl, rfl⟩)
        | (go_at_call 18; (with_reducible refine (C18.out _).mono ?_); rintro e w4 ⟨rfl, rfl⟩)
        | (go_at_call 20; (with_reducible refine (D20.out _).mono ?_); rintro e w5 ⟨rfl, rfl⟩)
        | (go_at_call 19; (with_reducible refine (D19.out _).mono ?_); rintro e w6 ⟨rfl, rfl⟩)
        | (go_at_call 6; (with_reducible refine (HL.out _ HBB.out).mono ?_); rintro e w7 ⟨rfl, hb7⟩))
      go_ret
      exact ⟨rfl, hb7⟩
theorem cruns_walk (t : Nat) (ht : t < 18446744073709551616) (A : Option Addr) (c : Nat) (L : List Nat) (w : World) (hA : UAt w w.heap.size A L) (hw : ∀ j, j < L.length → L[j]! < 18446744073709551616) : Calls Try.prog 4 #[.int .u64 (t : Int), .slice A L.length c] w fun e w' => e = .returned (.bool true) ∧ Below w.heap.size w w' := by
  by_cases h : L.length ≤ 200
  · exact cruns_short t ht A c L w h hA hw
  · exact cruns_long t A c L w (by omega)
end Go.Proofs.Ytehgpnnfjgmiiaa
