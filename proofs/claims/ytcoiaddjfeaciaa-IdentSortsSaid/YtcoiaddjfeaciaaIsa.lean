/- The walk of the statement IdentSorts of this seat: it answers true for any ids. No condition. -/
import Derived.Test.YtcoiaddjfeaciaaGm
import Derived.Test.YtcoiaddjfeaciaaRsa
import Derived.Test.YtcoiaddjfeaciaaGi
namespace Go.Proofs.Ytcoiaddjfeaciaa
set_option maxRecDepth 100000
set_option maxHeartbeats 1000000
open Go.RowKit Go.Lib Go.Great

theorem isorts_far (A : Option Addr) (n c : Nat) (h : 60 < n) (w : World) : Calls Try.prog 7 #[.slice A n c] w fun e w' => e = .returned (.bool true) ∧ Below w.heap.size w w' := by
  have h1' : (60 : Int) < (n : Int) := by omega
  go_enter Try.func7, Try.ntmps7
  go_wp2_with (go_at_call 34; refine (ilives_any _).mono ?_; rintro e w2 ⟨rfl, hb2⟩)
  go_ret
  exact ⟨rfl, hb2⟩

def LoopRel (W : World) (n : Nat) (i : Value) (wr : World) : Prop := ∃ j : Nat, j ≤ n ∧ i = .int .i64 (j : Int) ∧ Below W.heap.size W wr

theorem isorts_near (A : Option Addr) (c : Nat) (L : List IDv) (w : World) (hL : L.length ≤ 60) (hA : IAt w w.heap.size A L) :
    Calls Try.prog 7 #[.slice A L.length c] w fun e w' => e = .returned (.bool true) ∧ Below w.heap.size w w' := by
  have HS := Lib.hid (isort_any A c L w (by omega) hA)
  have HA := Lib.hid hA
  have hz1 := fun W => zero26 W
  obtain ⟨Z, hZ⟩ : ∃ Z, Z = (bcells (List.replicate 20 0)).toArray := ⟨_, rfl⟩
  have hZs : Z.size = 20 := by rw [hZ, List.size_toArray, bcells_length, List.length_replicate]
  rw [← hZ] at hz1
  obtain ⟨n, hn⟩ : ∃ n, n = L.length := ⟨_, rfl⟩
  have HN := Lib.hid hn
  rw [← hn] at hL HS ⊢
  have hL' : ¬ (60 : Int) < (n : Int) := by omega
  clear hA hZ hn
  go_enter Try.func7, Try.ntmps7
  go_upto_region 4 with (first
    | (go_at_call 40; refine HS.out.mono ?_; rintro e w1 ⟨A1, c1, out, rfl, hset, hlen, hA1, hb1⟩)
    | (go_at_call 42; refine (show Calls Try.prog 42 #[.slice A n c] w1 _ from (by rw [HN.out]; exact plain_any A c L w1 (by have := HN.out; omega) ((HA.out.below hb1).more hb1.size))).mono ?_; rintro e w2 ⟨v2, rfl, ho2, hb2⟩; obtain ⟨A2, c2, rfl, hn2, hc2, hf2⟩ := own_form ho2)
    | (go_at_call 41; refine (rsort_any A2 c2 L w2 (by have := HN.out; omega) (IAt.of_own ho2)).mono ?_; rintro e w3 ⟨v3, out3, rfl, hset3, hlen3, ho3, hb3⟩; obtain ⟨A3, c3, rfl, hn3, hc3, hf3⟩ := own_form ho3))
  have heq := hset.unique hset3
  subst heq
  have HA1 := Lib.hid (((hA1.below hb2).more hb2.size).below hb3 |>.more hb3.size)
  have HA3 := Lib.hid (IAt.of_own ho3)
  have HB := Lib.hid ((hb1.trans (hb2.mono hb1.size)).trans (hb3.mono (Nat.le_trans hb1.size hb2.size)))
  obtain ⟨m, hm⟩ : ∃ m, m = out.length := ⟨_, rfl⟩
  have hlen' : out.length ≤ n := hlen
  rw [← hm]
  have HM := Lib.hid hm
  have hm60 : m ≤ 60 := by omega
  have R0 : Hid (LoopRel w3 m (.int .i64 0) w3) := Lib.hid ⟨0, by omega, rfl, Below.refl _ _⟩
  clear hlen' HS HA HN hset hset3 hlen hlen3 hA1 hb1 hb2 hb3 ho2 ho3 hn3 hc3 hf3 hf2 hc2 hn2 hL hL' hm
  go_upto_region 7 with fail
  go_loopw [23] (LoopRel w3 m) (fun i _ => m - (intOf i).toNat)
  case atStart => exact R0.out
  case round =>
    obtain ⟨j, hj, rfl, hb⟩ := hrel
    clear R0
    have HBR := Lib.hid (HB.out.trans (hb.mono HB.out.size))
    by_cases hlt : j < m
    · obtain ⟨x, hx⟩ : ∃ x, out[j]? = some x := ⟨out[j]'(by have := HM.out; omega), List.getElem?_eq_getElem _⟩
      obtain ⟨g, off, rfl, hg, hr⟩ := (HA1.out.below hb).some_ (by have := HM.out; omega)
      obtain ⟨g3, off3, rfl, hg3, hr3⟩ := (HA3.out.below hb).some_ (by have := HM.out; omega)
      have HL := Lib.hid (range_load26 (range_part hr hx))
      have S1 : Hid ((Try.prog.info? 26).map (·.size) = some (encID x).toArray.size) := Lib.hid (by rw [enc_size]; exact size26)
      have S2 : Hid (Z.size = (encID x).toArray.size) := Lib.hid (by rw [enc_size]; exact hZs)
      have S3 : Hid ((encID x).toArray.all (·.oneCell') = true) := Lib.hid (enc_all x)
      have S4 := Lib.hid (heap_alloc_new wr (.cells Z 26))
      have HB3 := Lib.hid hb
      have HR3 := Lib.hid (range_part hr3 hx)
      have HG3 : Hid (g3 < wr.heap.size) := Lib.hid (Nat.lt_of_lt_of_le hg3 hb.size)
      have hE : ∀ W, (Op.equalIn 10000 42 (.agg (encID x).toArray) (.agg (encID x).toArray)).run Try.prog W = .ok true W := fun W => by
        have := eq42 x.val x.val x.property x.property W
        rw [beq_self_eq_true] at this
        exact this
      clear hr hr3 hx hb hg hg3
      go_upto_region 9 with (first
        | ((with_reducible refine wpList_loadV (op := ⟨some 27, _, _, _, _, _⟩) rfl 26 (.tmp 26) rfl _ ?_ _ HL.out ?_); rfl)
        | ((with_reducible refine wpList_store_row rfl 26 (.tmp 6) (.tmp 27) rfl wr.heap.size (encID x).toArray ?_ ?_ 26 Z S4.out S1.out S2.out S3.out ?_); rfl; rfl))
      have K5 := alloc_setP wr Z (encID x).toArray 26 _ rfl
      generalize (wr.alloc (.cells Z 26)).setRow wr.heap.size (encID x).toArray = W5 at K5 ⊢
      obtain ⟨q1, q2⟩ := K5
      have HL5 := Lib.hid (kept_range26 (Array.getElem?_eq_some_iff.1 q1).1 (row_range q1))
      have HL6 := Lib.hid (kept_range (Nat.lt_of_lt_of_le HG3.out q2.size) (range_keep HR3.out (q2.block g3 HG3.out)))
      have HB5 := Lib.hid (HB3.out.trans (q2.mono HB3.out.size))
      clear q1 q2 S1 S2 S3 S4 HL HB3 HR3 HG3
      simp only [Act.put]
      refine wp_region_kept W5.heap.size W5 (Below.refl _ _) (by kernel_rfl) (by kernel_rfl) ?_
      repeat (first
        | (go_big_quiet_want; (with_reducible refine quiet_loadV 26 (.tmp 6) rfl _ ?_ _ HL5.out ?_); rfl; simp only [Act.put, List.setIfInBounds_toArray, List.set_cons_zero, List.set_cons_succ]; go_big_quiet_on)
        | (go_big_quiet_want; (with_reducible refine quiet_loadV 42 (.tmp 31) rfl _ ?_ _ HL6.out ?_); rfl; simp only [Act.put, List.setIfInBounds_toArray, List.set_cons_zero, List.set_cons_succ]; go_big_quiet_on)
        | go_big_quiet_step (fail))
      refine wpQuiet_nil ?_
      rintro wk ⟨⟨_, hwk⟩, rfl⟩
      have HREL : Hid (LoopRel w3 m (.int .i64 ((j : Int) + 1)) wk) := Lib.hid ⟨j + 1, by omega, by go_num, HB5.out.trans (hwk.mono HB5.out.size)⟩
      clear hwk HL5 HL6 HB5 HBR
      go_wp2
      go_roundw
      case rel => exact HREL.out
      case measure => simp [intOf]; omega
    · clear hb
      go_wp2_with (go_at_call 34; refine (ilives_any _).mono ?_; rintro e w2 ⟨rfl, hb2⟩)
      go_ret
      exact ⟨rfl, HBR.out.trans (hb2.mono HBR.out.size)⟩
theorem isorts_walk (A : Option Addr) (c : Nat) (L : List IDv) (w : World) (hA : IAt w w.heap.size A L) : Calls Try.prog 7 #[.slice A L.length c] w fun e w' => e = .returned (.bool true) ∧ Below w.heap.size w w' := by
  by_cases h : 60 < L.length
  · exact isorts_far A L.length c h w
  · exact isorts_near A c L w (by omega) hA
end Go.Proofs.Ytcoiaddjfeaciaa
