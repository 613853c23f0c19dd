/- Contract of same of the statements on metric: two rows of the same ids are the same. Conditions: fewer than 100000 ids. -/
import Derived.Test.YtcoiaddjfeaciaaMrc
namespace Go.Proofs.Ytcoiaddjfeaciaa
set_option maxRecDepth 100000
set_option maxHeartbeats 1000000
open Go.RowKit Go.Lib Go.Great

def LoopRel2 (W : World) (n : Nat) (i : Value) (wr : World) : Prop := ∃ j : Nat, j ≤ n ∧ i = .int .i64 (j : Int) ∧ Below W.heap.size W wr
theorem same_at (A1 A3 : Option Addr) (c1 c3 : Nat) (L : List IDv) (w : World) (hL : L.length ≤ 100000) (hA1 : IAt w w.heap.size A1 L) (hA3 : IAt w w.heap.size A3 L) :
    Calls Try.prog 46 #[.slice A1 L.length c1, .slice A3 L.length c3] w fun e w' => e = .returned (.bool true) ∧ Below w.heap.size w w' := by
  have HA1 := Lib.hid hA1
  have HA3 := Lib.hid hA3
  have hz1 := fun W => zero26 W
  obtain ⟨Z, hZ⟩ : ∃ Z, Z = (bcells (List.replicate 20 0)).toArray := ⟨_, rfl⟩
  have hZs : Z.size = 20 := by rw [hZ, List.size_toArray, bcells_length, List.length_replicate]
  rw [← hZ] at hz1
  obtain ⟨m, hm⟩ : ∃ m, m = L.length := ⟨_, rfl⟩
  have HM := Lib.hid hm
  rw [← hm] at hL ⊢
  have R0 : Hid (LoopRel2 w m (.int .i64 0) w) := Lib.hid ⟨0, by omega, rfl, Below.refl _ _⟩
  clear hA1 hA3 hZ hm
  go_enter Try.func46, Try.ntmps46
  go_upto_region 4 with fail
  go_loopw [14] (LoopRel2 w m) (fun i _ => m - (intOf i).toNat)
  case atStart => exact R0.out
  case round =>
    obtain ⟨j, hj, rfl, hb⟩ := hrel
    clear R0
    have HBR := Lib.hid hb
    by_cases hlt : j < m
    · obtain ⟨x, hx⟩ : ∃ x, L[j]? = some x := ⟨L[j]'(by have := HM.out; omega), List.getElem?_eq_getElem _⟩
      obtain ⟨g, off, rfl, hg, hr⟩ := (HA1.out.below hb).some_ (by have := HM.out; omega)
      obtain ⟨g3, off3, rfl, hg3, hr3⟩ := (HA3.out.below hb).some_ (by have := HM.out; omega)
      have HL := Lib.hid (range_load26 (range_part hr hx))
      have S1 : Hid ((Try.prog.info? 26).map (·.size) = some (encID x).toArray.size) := Lib.hid (by rw [enc_size]; exact size26)
      have S2 : Hid (Z.size = (encID x).toArray.size) := Lib.hid (by rw [enc_size]; exact hZs)
      have S3 : Hid ((encID x).toArray.all (·.oneCell') = true) := Lib.hid (enc_all x)
      have S4 := Lib.hid (heap_alloc_new wr (.cells Z 26))
      have HB3 := Lib.hid hb
      have HR3 := Lib.hid (range_part hr3 hx)
      have HG3 : Hid (g3 < wr.heap.size) := Lib.hid (Nat.lt_of_lt_of_le hg3 hb.size)
      have hE : ∀ W, (Op.equalIn 10000 42 (.agg (encID x).toArray) (.agg (encID x).toArray)).run Try.prog W = .ok true W := fun W => by
        have := eq42 x.val x.val x.property x.property W
        rw [beq_self_eq_true] at this
        exact this
      clear hr hr3 hx hb hg hg3
      go_upto_region 6 with (first
        | ((with_reducible refine wpList_loadV (op := ⟨some 18, _, _, _, _, _⟩) rfl 26 (.tmp 17) rfl _ ?_ _ HL.out ?_); rfl)
        | ((with_reducible refine wpList_store_row rfl 26 (.tmp 6) (.tmp 18) rfl wr.heap.size (encID x).toArray ?_ ?_ 26 Z S4.out S1.out S2.out S3.out ?_); rfl; rfl))
      have K5 := alloc_setP wr Z (encID x).toArray 26 _ rfl
      generalize (wr.alloc (.cells Z 26)).setRow wr.heap.size (encID x).toArray = W5 at K5 ⊢
      obtain ⟨q1, q2⟩ := K5
      have HL5 := Lib.hid (kept_range26 (Array.getElem?_eq_some_iff.1 q1).1 (row_range q1))
      have HL6 := Lib.hid (kept_range (Nat.lt_of_lt_of_le HG3.out q2.size) (range_keep HR3.out (q2.block g3 HG3.out)))
      have HB5 := Lib.hid (HB3.out.trans (q2.mono HB3.out.size))
      clear q1 q2 S1 S2 S3 S4 HL HB3 HR3 HG3
      simp only [Act.put]
      refine wp_region_kept W5.heap.size W5 (Below.refl _ _) (by kernel_rfl) (by kernel_rfl) ?_
      repeat (first
        | (go_big_quiet_want; (with_reducible refine quiet_loadV 26 (.tmp 6) rfl _ ?_ _ HL5.out ?_); rfl; simp only [Act.put, List.setIfInBounds_toArray, List.set_cons_zero, List.set_cons_succ]; go_big_quiet_on)
        | (go_big_quiet_want; (with_reducible refine quiet_loadV 42 (.tmp 22) rfl _ ?_ _ HL6.out ?_); rfl; simp only [Act.put, List.setIfInBounds_toArray, List.set_cons_zero, List.set_cons_succ]; go_big_quiet_on)
        | go_big_quiet_step (fail))
      refine wpQuiet_nil ?_
      rintro wk ⟨⟨_, hwk⟩, rfl⟩
      have HREL : Hid (LoopRel2 w m (.int .i64 ((j : Int) + 1)) wk) := Lib.hid ⟨j + 1, by omega, by go_num, HB5.out.trans (hwk.mono HB5.out.size)⟩
      clear hwk HL5 HL6 HB5 HBR
      go_wp2
      go_roundw
      case rel => exact HREL.out
      case measure => simp [intOf]; omega
    · clear hb
      go_wp2
      go_ret
      exact ⟨rfl, HBR.out⟩
theorem same_any {L : List IDv} {v1 v3 : Value} {w : World} (hL : L.length ≤ 100000) (h1 : SlIs L v1 w) (h3 : SlIs L v3 w) :
    Calls Try.prog 46 #[v1, v3] w fun e w' => e = .returned (.bool true) ∧ Below w.heap.size w w' := by
  obtain ⟨A1, c1, rfl, _, k1⟩ := h1
  obtain ⟨A3, c3, rfl, _, k3⟩ := h3
  exact same_at A1 A3 c1 c3 L w hL k1 k3
end Go.Proofs.Ytcoiaddjfeaciaa
