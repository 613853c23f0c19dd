/- The walk of TimersOnce. No condition. -/
import Derived.Test.YtkebgcalphajhaaTcb
import Derived.Test.YtkebgcalphajhaaUlv
namespace Go.Proofs.Ytkebgcalphajhaa
open Go.RowKit Go.Lib Go.Maps
set_option maxRecDepth 100000
set_option maxHeartbeats 2000000
structure TopR where
  k : Int
  n : Int
  a : Nat
/-- The address leads to the calls l. -/
def TopsAt (w : World) (A : Option Addr) (l : List TopR) : Prop := l = [] ∨ ∃ b off, A = some ⟨b, off, none⟩ ∧ b < w.heap.size ∧ ∀ j (hj : j < l.length), w.cell? ⟨b, off + j * 3, none⟩ = some (.int .i64 l[j].k) ∧ w.cell? ⟨b, off + j * 3 + 1, none⟩ = some (.int .i64 l[j].n) ∧ w.cell? ⟨b, off + j * 3 + 2, none⟩ = some (.int .u64 (l[j].a : Int)) ∧ (Lit.int .i64 l[j].n).wf = true ∧ (Lit.int .u64 (l[j].a : Int)).wf = true ∧ l[j].a ≤ lastT
/-- The address leads to the ticks T. -/
def TksAt (w : World) (A : Option Addr) (T : List Nat) : Prop := T = [] ∨ ∃ b off, A = some ⟨b, off, none⟩ ∧ b < w.heap.size ∧ ∀ j, j < T.length → w.cell? ⟨b, off + j, none⟩ = some (.int .u64 (T[j]! : Int))
theorem tlives_at (w : World) : Hid (∀ W, Below w.heap.size w W → Calls Try.prog 7 #[] W fun e w' => e = .returned (.bool true) ∧ Below w.heap.size w w') := Lib.hid (fun W hW => (Str.tlives W).mono (by
  rintro e w' ⟨rfl, hb⟩
  exact ⟨rfl, hW.trans (hb.mono hW.size)⟩))
theorem once_long (A B : Option Addr) (n c m d : Nat) (w : World) (h : 60 < n ∨ 60 < m) : Calls Try.prog 4 #[.slice A n c, .slice B m d] w fun e w' => e = .returned (.bool true) ∧ Below w.heap.size w w' := by
  have HL := tlives_at w
  by_cases h1 : 60 < n
  · have h4 : (n : Int) > 60 := by omega
    go_enter Try.func4, Try.ntmps4
    go_wp2_with (first | (go_at_call 7; (with_reducible refine (HL.out _ (Below.refl _ _)).mono ?_); rintro e w2 ⟨rfl, hb2⟩))
    go_ret
    exact ⟨rfl, hb2⟩
  · have h4 : ¬ (n : Int) > 60 := by omega
    have h5 : (m : Int) > 60 := by omega
    go_enter Try.func4, Try.ntmps4
    go_wp2_with (first | (go_at_call 7; (with_reducible refine (HL.out _ (Below.refl _ _)).mono ?_); rintro e w2 ⟨rfl, hb2⟩))
    go_ret
    exact ⟨rfl, hb2⟩
def O1Rel (w : World) (g mb n : Nat) (s : Value) (wr : World) : Prop := ∃ j : Nat, ∃ v D O, s = .int .i64 (j : Int) ∧ j ≤ n ∧ O.length ≤ j ∧ OP w g mb v D O O wr
def O2Rel (w : World) (g mb n : Nat) (s : Value) (wr : World) : Prop := ∃ j : Nat, ∃ v D O, s = .int .i64 (j : Int) ∧ j ≤ n ∧ O.length ≤ 60 ∧ OP w g mb v D O O wr
def O3Rel (w : World) (g mb : Nat) (v : Value) (K R : List (Int × Nat)) (vk : Value) (s : Value) (wr : World) : Prop := ∃ i : Nat, ∃ D, s = .int .i64 (i : Int) ∧ i ≤ K.length ∧ OP w g mb v D R (K.drop i ++ R) wr ∧ RowAt wr 3 1 vk K.length (keysV K)
theorem cut_le {O : List (Int × Nat)} (k : Int) : (cutT O k).length ≤ O.length := List.length_filter_le _ _
theorem ins_len {O : List (Int × Nat)} (hs : SrtT O) (t : Int × Nat) : (insT O t).length = O.length + 1 := (insT_perm hs t).length_eq
theorem keysV_at (K : List (Int × Nat)) (i : Nat) (h : i < K.length) : (keysV K)[i]? = some (.int .i64 K[i].1) := by
  unfold keysV
  rw [List.getElem?_map, List.getElem?_eq_getElem h]
  rfl
theorem due_parts (O : List (Int × Nat)) (now : Nat) : ∃ K R, K = O.takeWhile (dueT now) ∧ R = O.dropWhile (dueT now) ∧ K ++ R = O ∧ (∀ t ∈ K, t.2 ≤ now) ∧ ∀ x R', R = x :: R' → ¬ (x.2 ≠ lastT ∧ x.2 ≤ now) := by
  refine ⟨_, _, rfl, rfl, List.takeWhile_append_dropWhile, fun t ht => ?_, fun x R' e => ?_⟩
  · have := List.all_eq_true.1 (List.all_takeWhile (p := dueT now) (l := O)) t ht
    unfold dueT at this
    simp only [Bool.and_eq_true, decide_eq_true_eq] at this
    exact this.2
  · have h1 : dueT now x = false := by
      have := List.head?_dropWhile_not (dueT now) O
      rw [e] at this
      exact this
    unfold dueT at h1
    simp only [Bool.and_eq_false_iff, decide_eq_false_iff_not] at h1
    omega
theorem once_in (A : Option Addr) (c : Nat) (l : List TopR) (B : Option Addr) (d : Nat) (T : List Nat) (w : World) (hn : l.length ≤ 60) (hm : T.length ≤ 60) (hA : TopsAt w A l) (hB : TksAt w B T) : Calls Try.prog 4 #[.slice A l.length c, .slice B T.length d] w fun e w' => e = .returned (.bool true) ∧ Below w.heap.size w w' := by
  have HL := tlives_at w
  have hmm := @run_makeMap Try.prog
  have HN : Hid (Calls Try.prog 8 #[.int .i64 65536] w fun e w' => e = .returned (.pointer (some ⟨w.heap.size, 0, none⟩)) ∧ w' = w.alloc (.cells #[.int .i64 65536, .slice none 0 0] 77)) := Lib.hid (tnew_yes 65536 (by omega) (by omega) w)
  obtain ⟨w1, hw1⟩ : ∃ w1, w1 = w.alloc (.cells #[.int .i64 65536, .slice none 0 0] 77) := ⟨_, rfl⟩
  obtain ⟨g, hg⟩ : ∃ g, g = w.heap.size := ⟨_, rfl⟩
  obtain ⟨mb, hmb⟩ : ∃ mb, mb = w1.heap.size := ⟨_, rfl⟩
  have h0 : OP w g mb (.slice none 0 0) (.map []) [] [] (w1.alloc (.map #[] 0)) := by
    have := op_new w
    have e : w.heap.size + 1 = mb := by rw [hmb, hw1]; simp
    rw [e, ← hg, ← hw1] at this
    exact this
  rw [← hg, ← hw1] at HN
  have R0 : Hid (O1Rel w g mb l.length (.int .i64 0) (w1.alloc (.map #[] 0))) := Lib.hid ⟨0, .slice none 0 0, .map [], [], rfl, by omega, by simp, h0⟩
  have HA := Lib.hid hA
  have HB := Lib.hid hB
  have HMB := Lib.hid hmb
  have h4 : ¬ (l.length : Int) > 60 := by omega
  have h5 : ¬ (T.length : Int) > 60 := by omega
  obtain ⟨n, hnn⟩ : ∃ n, n = l.length := ⟨_, rfl⟩
  obtain ⟨m, hmn⟩ : ∃ m, m = T.length := ⟨_, rfl⟩
  have HNN := Lib.hid hnn
  have HMN := Lib.hid hmn
  rw [← hnn] at R0 h4 hn ⊢
  rw [← hmn] at h5 hm ⊢
  clear h0 hw1 hA hB hnn hmn hmb hg
  go_enter Try.func4, Try.ntmps4
  go_wp2_with (first | (go_at_call 8; (with_reducible refine HN.out.mono ?_); rintro e w2 ⟨rfl, hw2⟩; rw [hw2]; clear hw2 w2))
  rw [← HMB.out]
  go_loopw [32] (O1Rel w g mb n) (fun i _ => n - (RowKit.intOf i).toNat)
  case atStart => exact R0.out
  case round =>
    obtain ⟨j, v, D, O, rfl, hj, hOj, hp⟩ := hrel
    clear R0 HN HMB
    by_cases hlt : j < n
    · have hlt' : (j : Int) < (n : Int) := by omega
      obtain ⟨b, off, rfl, hbB, hcell⟩ : ∃ b off, A = some ⟨b, off, none⟩ ∧ b < w.heap.size ∧ ∀ j (hj : j < l.length), w.cell? ⟨b, off + j * 3, none⟩ = some (.int .i64 l[j].k) ∧ w.cell? ⟨b, off + j * 3 + 1, none⟩ = some (.int .i64 l[j].n) ∧ w.cell? ⟨b, off + j * 3 + 2, none⟩ = some (.int .u64 (l[j].a : Int)) ∧ (Lit.int .i64 l[j].n).wf = true ∧ (Lit.int .u64 (l[j].a : Int)).wf = true ∧ l[j].a ≤ lastT := by
        rcases HA.out with h0 | h0
        · have := HNN.out; rw [h0] at this; simp at this; omega
        · exact h0
      obtain ⟨hcK, hcN, hcB, hwf⟩ := hcell j (by rw [← HNN.out]; exact hlt)
      have hcK' := (hp.b.cell (p := ⟨b, off + j * 3, none⟩) hbB).trans hcK
      have hcN' := (hp.b.cell (p := ⟨b, off + j * 3 + 1, none⟩) hbB).trans hcN
      have hcB' := (hp.b.cell (p := ⟨b, off + j * 3 + 2, none⟩) hbB).trans hcB
      generalize l[j]'(by rw [← HNN.out]; exact hlt) = o at *
      obtain ⟨kd, N, a⟩ := o
      simp only at hcK' hcN' hcB' hwf
      clear hcK hcN hcB hcell HA HNN HB HMN
      have HWF := Lib.hid hwf
      have HREL : Hid (∀ v D O wr', O.length ≤ j + 1 → OP w g mb v D O O wr' → O1Rel w g mb n (.int .i64 ((j : Int) + 1)) wr') := Lib.hid (fun v D O wr' hl p => ⟨j + 1, v, D, O, by go_num, by omega, hl, p⟩)
      have hpA := hp.below ((Below.refl _ wr).alloc (Nat.le_refl _) (.cells #[.int .i64 kd, .int .i64 N, .int .u64 (a : Int)] 29))
      have HPA := Lib.hid hpA
      have HQ : Hid (∀ W' v', Mov (wr.alloc (.cells #[.int .i64 kd, .int .i64 N, .int .u64 (a : Int)] 29)) W' g v v' → W'.cell? ⟨wr.heap.size, 1, none⟩ = some (.int .i64 N) ∧ W'.cell? ⟨wr.heap.size, 2, none⟩ = some (.int .u64 (a : Int))) := Lib.hid (fun W' v' h => by
        have hh := heap_alloc_new wr (.cells #[.int .i64 kd, .int .i64 N, .int .u64 (a : Int)] 29)
        have hl := (Array.getElem?_eq_some_iff.1 hh).1
        have hb := h.block wr.heap.size hl (by have := Obj.lt hp.t; omega) (fun e => by have := (Obj.row hp.t).lt _ e.symm; omega)
        refine ⟨(World.cell?_of_block (a := ⟨wr.heap.size, 1, none⟩) hb).trans ?_, (World.cell?_of_block (a := ⟨wr.heap.size, 2, none⟩) hb).trans ?_⟩
        all_goals
          unfold World.cell?
          rw [hh]
          rfl)
      by_cases hk1 : kd = 1
      · subst hk1
        have HC := Lib.hid (hpA.cancel N (by omega))
        have HLE : Hid ((cutT O N).length ≤ j + 1) := Lib.hid (Nat.le_trans (cut_le N) (by omega))
        clear hp hpA hwf HPA HL hbB
        go_wp2_with (first
          | (go_at_call 13; (with_reducible refine HC.out.mono ?_); rintro e2 w2 ⟨v2, rfl, ho2, hm2⟩; obtain ⟨c1, c2⟩ := HQ.out _ _ hm2)
          | (at_delete; refine ho2.delT N HWF.out.1 rfl _ _ rfl rfl rfl ?_; intro w3 ho3 ht3))
        go_roundw
        case rel => exact HREL.out _ _ _ _ HLE.out ho3
        case measure => simp [RowKit.intOf]; omega
      · have hk1' : ¬ kd = 1 := hk1
        have HC := Lib.hid (hpA.set N a (by omega) hwf)
        have HLE : Hid ((insT (cutT O N) (N, a)).length ≤ j + 1) := Lib.hid (by rw [ins_len (cut_srt hp.srt N)]; have := cut_le (O := O) N; omega)
        have HSR := Lib.hid hp.srt
        have HO : Hid (O.length ≤ 100) := Lib.hid (by omega)
        clear hp hpA hwf HPA HL hbB
        go_wp2_with (first
          | (go_at_call 9; (with_reducible refine HC.out.mono ?_); rintro e2 w2 ⟨v2, rfl, ho2, hm2⟩; obtain ⟨c1, c2⟩ := HQ.out _ _ hm2)
          | (at_mapUpdate; refine ho2.putT HSR.out HO.out N a HWF.out rfl _ _ _ rfl rfl rfl rfl ?_; intro w3 ho3 ht3))
        go_roundw
        case rel => exact HREL.out _ _ _ _ HLE.out ho3
        case measure => simp [RowKit.intOf]; omega
    · obtain rfl : j = n := by omega
      have hlt' : ¬ (j : Int) < (j : Int) := by omega
      have R1 : Hid (O2Rel w g mb m (.int .i64 0) wr) := Lib.hid ⟨0, v, D, O, rfl, by omega, by omega, hp⟩
      clear hp HA HNN
      go_wp2_with (first | fail)
      go_loopw [60] (O2Rel w g mb m) (fun i _ => m - (RowKit.intOf i).toNat)
      case atStart => exact R1.out
      case round =>
        obtain ⟨j, v, D, O, rfl, hj, hOj, hp⟩ := hrel
        clear R1
        by_cases hlt : j < m
        · have hlt' : (j : Int) < (m : Int) := by omega
          obtain ⟨b, off, rfl, hbB, hcell⟩ : ∃ b off, B = some ⟨b, off, none⟩ ∧ b < w.heap.size ∧ ∀ j, j < T.length → w.cell? ⟨b, off + j, none⟩ = some (.int .u64 (T[j]! : Int)) := by
            rcases HB.out with h0 | h0
            · have := HMN.out; rw [h0] at this; simp at this; omega
            · exact h0
          have hcT := (hp.b.cell (p := ⟨b, off + j, none⟩) hbB).trans (hcell j (by rw [← HMN.out]; exact hlt))
          generalize T[j]! = now at *
          obtain ⟨K, R, hK, hR, hKR, hKd, hRd⟩ := due_parts O now
          have hlu := hp.lu
          have HD := hp.due now (by omega)
          rw [← hK, ← hR] at HD
          have HD := Lib.hid HD
          have hKl : K.length ≤ 60 := by rw [← hKR, List.length_append] at hOj; omega
          have HRL : Hid (R.length ≤ 60) := Lib.hid (by rw [← hKR, List.length_append] at hOj; omega)
          have HREL : Hid (∀ v D wr', OP w g mb v D R R wr' → O2Rel w g mb m (.int .i64 ((j : Int) + 1)) wr') := Lib.hid (fun v D wr' p => ⟨j + 1, v, D, R, by go_num, by omega, HRL.out, p⟩)
          have HKD := Lib.hid hKd
          have HRD := Lib.hid hRd
          have HST : Hid (∀ W v2 vk, OP w g mb v2 D R O W → RowAt W 3 1 vk K.length (keysV K) → O3Rel w g mb v2 K R vk (.int .i64 0) W) := Lib.hid (fun W v2 vk h hr => ⟨0, D, rfl, Nat.zero_le _, by rw [List.drop_zero, hKR]; exact h, hr⟩)
          clear hcell hbB hp hlu hK hR hKR hKd hRd hOj
          go_wp2_with (first
            | (go_at_call 16; (with_reducible refine HD.out.mono ?_); rintro e2 w2 ⟨v2, vk, rfl, hk2, ho2⟩; have h3 := HST.out _ _ _ ho2 hk2; obtain ⟨Ak, ck, rfl, _⟩ := hk2.form))
          go_loopw [68] (O3Rel w g mb v2 K R (.slice Ak K.length ck)) (fun i _ => K.length - (RowKit.intOf i).toNat)
          case atStart => exact h3
          case round =>
            obtain ⟨i, D3, rfl, hi, ho3, hk3⟩ := hrel
            clear h3 ho2 hk2 HST HD
            by_cases hi2 : i < K.length
            · have hi3 : (i : Int) < (K.length : Int) := by omega
              obtain ⟨bk, ok, cc, e0, hnn⟩ := hk3.filled (by omega)
              injection e0 with e1 _ e2
              subst e1 e2
              have q1 := hk3.cell _ _ (keysV_at K i hi2)
              have hle := HKD.out K[i] (List.getElem_mem _)
              have e3 : K.drop i ++ R = K[i] :: (K.drop (i + 1) ++ R) := by rw [List.drop_eq_getElem_cons hi2]; rfl
              rw [e3] at ho3
              have HREL3 : Hid (∀ D' wr', OP w g mb v2 D' R (K.drop (i + 1) ++ R) wr' → RowAt wr' 3 1 (.slice (some ⟨bk, ok, none⟩) K.length ck) K.length (keysV K) → O3Rel w g mb v2 K R (.slice (some ⟨bk, ok, none⟩) K.length ck) (.int .i64 ((i : Int) + 1)) wr') := Lib.hid (fun D' wr' a b => ⟨i + 1, D', by go_num, by omega, a, b⟩)
              generalize K[i] = x at *
              obtain ⟨k, t⟩ := x
              have hle' : ¬ (t : Int) > (now : Int) := by simp only at hle; omega
              have hwk := (ho3.lg (k, t) (by simp)).1
              have hlu := ho3.lu
              have HK3 := Lib.hid hk3
              simp only at q1
              clear hle e3 hk3
              generalize K.drop (i + 1) ++ R = L3 at *
              go_wp2_with (first
                | (at_lookup; refine ho3.lookT rfl _ _ rfl rfl rfl ?_)
                | (at_delete; refine ho3.delT k hwk rfl _ _ rfl rfl rfl ?_; intro w4 ho4 ht4))
              go_roundw
              case rel => exact HREL3.out _ _ (ho4.pop hlu) (ho3.keep ht4 HK3.out)
              case measure => simp [RowKit.intOf]; omega
            · obtain rfl : i = K.length := by omega
              have hi3 : ¬ (K.length : Int) < (K.length : Int) := by omega
              rw [List.drop_length, List.nil_append] at ho3
              have HRL2 := HREL.out _ _ _ ho3
              have HLN := Lib.hid (tlen_any g 65536 (by omega) v2 R wr ho3.t)
              have hlm := fun ty => ho3.lenM ty
              clear hk3 HRL
              cases R with
              | nil =>
                have HNX := Lib.hid (next_nil g 65536 (by omega) v2 wr ho3.t)
                clear ho3 HRD
                go_wp2_with (first
                  | (go_at_call 19; (with_reducible refine HNX.out.mono ?_); rintro e4 w4 ⟨rfl, hw4⟩; rw [hw4]; clear hw4 w4)
                  | (go_at_call 20; (with_reducible refine HLN.out.mono ?_); rintro e5 w5 ⟨rfl, hw5⟩; rw [hw5]; clear hw5 w5))
                go_roundw
                case rel => exact HRL2
                case measure => simp [RowKit.intOf]; omega
              | cons x R' =>
                have HNX := Lib.hid (next_cons g 65536 (by omega) v2 x R' wr ho3.t)
                have hnd := HRD.out x R' rfl
                unfold lastT at hnd
                clear ho3 HRD
                generalize (x :: R').length = n3 at *
                obtain ⟨xk, xt⟩ := x
                simp only at hnd HNX
                by_cases hx : xt ≤ now
                · have hx1 : (xt : Int) ≤ (now : Int) := by omega
                  obtain rfl : xt = 18446744073709551615 := by omega
                  go_wp2_with (first
                    | (go_at_call 19; (with_reducible refine HNX.out.mono ?_); rintro e4 w4 ⟨rfl, hw4⟩; rw [hw4]; clear hw4 w4)
                    | (go_at_call 20; (with_reducible refine HLN.out.mono ?_); rintro e5 w5 ⟨rfl, hw5⟩; rw [hw5]; clear hw5 w5))
                  go_roundw
                  case rel => exact HRL2
                  case measure => simp [RowKit.intOf]; omega
                · have hx1 : ¬ (xt : Int) ≤ (now : Int) := by omega
                  go_wp2_with (first
                    | (go_at_call 19; (with_reducible refine HNX.out.mono ?_); rintro e4 w4 ⟨rfl, hw4⟩; rw [hw4]; clear hw4 w4)
                    | (go_at_call 20; (with_reducible refine HLN.out.mono ?_); rintro e5 w5 ⟨rfl, hw5⟩; rw [hw5]; clear hw5 w5))
                  go_roundw
                  case rel => exact HRL2
                  case measure => simp [RowKit.intOf]; omega
        · obtain rfl : j = m := by omega
          have hlt' : ¬ (j : Int) < (j : Int) := by omega
          have HBL := Lib.hid hp.b
          clear hp
          go_wp2_with (go_at_call 7; (with_reducible refine (HL.out _ HBL.out).mono ?_); rintro e w3 ⟨rfl, hb3⟩)
          go_ret
          exact ⟨rfl, hb3⟩
theorem once_walk (A : Option Addr) (c : Nat) (l : List TopR) (B : Option Addr) (d : Nat) (T : List Nat) (w : World) (hA : TopsAt w A l) (hB : TksAt w B T) : Calls Try.prog 4 #[.slice A l.length c, .slice B T.length d] w fun e w' => e = .returned (.bool true) ∧ Below w.heap.size w w' := by
  by_cases h : 60 < l.length ∨ 60 < T.length
  · exact once_long A B l.length c T.length d w h
  · exact once_in A c l B d T w (by omega) (by omega) hA hB
end Go.Proofs.Ytkebgcalphajhaa
