/- The walk of the statement ShaPieces of this seat, for at most 20 pieces and at most 500 other bytes. -/
import Derived.Test.YtcoiaddjfeaciaaPca
namespace Go.Proofs.Ytcoiaddjfeaciaa
set_option maxRecDepth 100000
set_option maxHeartbeats 1000000
open Go.RowKit Go.Great
set_option linter.unusedVariables false

def PRel (w : World) (b1 g : Nat) (xs : Nat → List UInt8) (n : Nat) (v i : Value) (wr : World) : Prop :=
  ∃ j : Nat, j ≤ n ∧ i = .int .i64 (j : Int) ∧ (cat xs j).length ≤ 500 * j ∧ PS w b1 g (cat xs j) v (cat xs j) wr

theorem sum_own {W : World} {b c n : Nat} {A : Option Addr} {k : List UInt8} {S : Array Value} (hn : k.length = n) (h : W.ownsRow b 5 1 (.slice A n c) k.length (bcells k)) (hl : k.length ≤ 900000) (hS : S = (bcells (shaI k)).toArray) :
    Calls Try.prog 13 #[.slice A n c] W fun e w' => e = .returned (.agg S) ∧ Below W.heap.size W w' := by
  subst hn
  rw [hS]
  exact sum_any A c k (BAt.of_own h (Nat.le_refl _)) (own_cap h) hl
theorem hsum_own {W : World} {g : Nat} {k : List UInt8} {S : Array Value} (h : HashOf W g k) (hl : k.length ≤ 900000) (hS : S = (bcells (shaI k)).toArray) :
    Calls Try.prog 20 #[.pointer (some ⟨g, 0, none⟩)] W fun e w' => e = .returned (.agg S) ∧ Below W.heap.size W w' := by
  rw [hS]
  exact hsum_of h hl

theorem eq_sha (k : List UInt8) (W : World) : (Op.equalIn 10000 26 (.agg (bcells (shaI k)).toArray) (.agg (bcells (shaI k)).toArray)).run Try.prog W = .ok true W := by
  have hl : (shaI k).length = 20 := idI_length _
  rw [eq61 (shaI k) (shaI k) hl hl]
  simp

theorem pieces_near (A0 : Option Addr) (c0 n : Nat) (hn : n ≤ 20) (S : Nat → Option Addr) (C : Nat → Nat) (xs : Nat → List UInt8) (A1 : Option Addr) (c1 : Nat) (ys : List UInt8) (hy5 : ys.length ≤ 500) (w : World)
    (hv : ValsAt w w.heap.size A0 n (fun i => .slice (S i) (xs i).length (C i))) (hx : ∀ i, i < n → BAt w w.heap.size (S i) (xs i) ∧ (xs i).length ≤ C i) (hy : BAt w w.heap.size A1 ys) (hyc : ys.length ≤ c1) :
    Calls Try.prog 4 #[.slice A0 n c0, .slice A1 ys.length c1] w fun e w' => e = .returned (.bool true) ∧ Below w.heap.size w w' := by
  have hn' : ¬ (20 : Int) < (n : Int) := by omega
  have hy' : ¬ (500 : Int) < (ys.length : Int) := by omega
  have HV := Lib.hid hv
  have HX := Lib.hid hx
  have HY := Lib.hid hy
  have HYC := Lib.hid hyc
  have HN := Lib.hid hn
  have HY5 := Lib.hid hy5
  clear hv hx hy hyc hn hy5
  go_enter Try.func4, Try.ntmps4
  go_wp2_with (go_at_call 17; refine (new_any _).mono ?_; rintro e w1 ⟨g, rfl, hg, hh, hb⟩; have R0 : Hid (PRel w w1.heap.size g xs n (.slice none 0 0) (.int .i64 0) w1) := Lib.hid ⟨0, Nat.zero_le _, rfl, by simp [cat], ⟨hh, World.ownsRow_nil _ _ _ _, hb, hg, hh.lt, Nat.le_refl _⟩⟩; clear hg hh hb)
  go_loopw [6, 25] (PRel w w1.heap.size g xs n) (fun _ i _ => n - (intOf i).toNat)
  case atStart => exact R0.out
  case round =>
    obtain ⟨j, hj, rfl, hlen, ps⟩ := hrel
    clear R0
    by_cases hlt : j < n
    · obtain ⟨bb, off, hA, hBb, hc⟩ := HV.out.resolve_left (by omega)
      subst hA
      have hcj : wr.cell? ⟨bb, off + j, none⟩ = some (.slice (S j) (xs j).length (C j)) := (ps.bel.cell (p := ⟨bb, off + j, none⟩) hBb).trans (hc j hlt)
      have HPS := Lib.hid ps
      by_cases h5 : 500 < (xs j).length
      · have h5' : (500 : Int) < ((xs j).length : Int) := by omega
        generalize (xs j).length = l at hcj h5'
        clear ps hc hlen h5
        go_wp2_with (go_at_call 12; refine (slives_any _).mono ?_; rintro e w2 ⟨rfl, hb2⟩)
        go_ret
        exact ⟨rfl, HPS.out.bel.trans (hb2.mono HPS.out.wle)⟩
      · have h5' : ¬ (500 : Int) < ((xs j).length : Int) := by omega
        obtain ⟨hbx, hbc⟩ := HX.out j hlt
        have hn20 := HN.out
        have hlm : (cat xs j).length ≤ 10000 := by
          have : 500 * j ≤ 500 * 20 := Nat.mul_le_mul_left _ (by omega)
          omega
        obtain ⟨A6, c6, hv6⟩ := slice_of_own ps.all
        subst hv6
        have HCAT := Lib.hid (cat_succ xs j)
        have hlen' : (xs j).length ≤ 500 := by omega
        have HLL : Hid ((cat xs j ++ xs j).length ≤ 500 * (j + 1)) := Lib.hid (by rw [List.length_append]; omega)
        generalize cat xs j = m at ps HPS hlm HCAT HLL
        generalize xs j = b at hcj h5' hbx hbc HCAT hlen' HLL
        generalize S j = SA at hcj hbx
        generalize C j = CA at hcj hbc
        obtain ⟨S1, hS1⟩ : ∃ S1, S1 = (bcells (shaI (m ++ b))).toArray := ⟨_, rfl⟩
        obtain ⟨S2, hS2⟩ : ∃ S2, S2 = (bcells (shaI (m ++ ys))).toArray := ⟨_, rfl⟩
        have he1 : ∀ W, (Op.equalIn 10000 26 (.agg S1) (.agg S1)).run Try.prog W = .ok true W := fun W => by rw [hS1]; exact eq_sha _ W
        have he2 : ∀ W, (Op.equalIn 10000 26 (.agg S2) (.agg S2)).run Try.prog W = .ok true W := fun W => by rw [hS2]; exact eq_sha _ W
        have HS1 := Lib.hid hS1
        have HS2 := Lib.hid hS2
        have HBX := Lib.hid hbx
        have HBC := Lib.hid hbc
        have HCL := Lib.hid (clone_of ps.hash)
        obtain ⟨i0, hi, hz0, hz1, hz2⟩ := info_parts info5
        have HLM := Lib.hid hlm
        have HLB := Lib.hid hlen'
        clear ps hc hlen hn20 h5 hbx hbc hlen' hlm hS1 hS2
        go_upto_region 15 with (first
          | (go_at_call 18; refine (HCL.out).mono ?_; rintro e w2 ⟨g2, rfl, hg2, hc2, hb2⟩; have P2 := Lib.hid (HPS.out.below hb2); have HC2 := Lib.hid hc2; have HG2 := Lib.hid hg2; have HWA := Lib.hid (write_of P2.out.hash SA CA b ((HBX.out.below P2.out.bel).more P2.out.wle) HBC.out (by have := HLB.out; omega) (by have := HLM.out; omega) (bat_ne (HBX.out.below P2.out.bel) P2.out.lo)); clear hg2 hc2 hb2 HCL)
          | (go_at_call 19; refine (HWA.out).mono ?_; rintro e w3 ⟨rfl, h3, hg3⟩; have P3 := Lib.hid (P2.out.write hg3 h3); have HC3 := Lib.hid (HC2.out.grown hg3 (by have := HG2.out; have := HPS.out.le; have := HPS.out.lt; simp; omega)); have HWB := Lib.hid (write_of HC3.out A1 c1 ys ((HY.out.below P3.out.bel).more P3.out.wle) HYC.out (by have := HY5.out; omega) (by have := HLM.out; omega) (bat_ne (HY.out.below P3.out.bel) (by have := HG2.out; have := HPS.out.wle; omega))); clear h3 hg3 HWA)
          | (go_at_call 19; refine (HWB.out).mono ?_; rintro e w4 ⟨rfl, h4, hg4⟩; have P4 := Lib.hid (P3.out.grow hg4 (by have := HG2.out; have := HPS.out.le; have := HPS.out.lt; simp; omega) (HPS.out.allNe g2 (.inr HG2.out)) (fun x e => by injection e with e; have := HG2.out; have := HPS.out.wle; omega)); have HC4 := Lib.hid h4; clear h4 hg4 HWB))
        go_upto_region 17 with (first
          | (at_builtin; refine wpList_append_src _ rfl (.tmp 49) (.tmp 50) _ _ rfl w4.heap.size 5 i0 _ 1 Try.underlying22 hi hz0 hz1 hz2 rfl (.slice (some ⟨w4.heap.size, 0, none⟩) 0 0) 0 [] rfl (World.ownsRow_made (e := 5) (size := 1) w4 #[] 0 (Nat.le_refl _) (Nat.zero_le _) rfl) _ m.length (bcells m) rfl (src_own (P4.out.all.alloc _)) (by have := HLM.out; simp only [maxLen]; omega) (by have := HLM.out; omega) (by simp) ?_; intro v5 w5 hown5 hg5 hat5; have P5 := Lib.hid ((P4.out.below ((Below.refl _ w4).alloc (Nat.le_refl _) _)).grow hg5 (by have := P4.out.lt; have := P4.out.le; simp [Value.ownBlock]; omega) (P4.out.allNe w4.heap.size (.inr (Nat.le_refl _))) (fun x e => by simp [Value.ownBlock] at e; have := P4.out.wle; omega)); have HC5 := Lib.hid ((HC4.out.below ((Below.refl w4.heap.size w4).alloc (Nat.le_refl _) _) HC4.out.lt).grown hg5 (by have := HC4.out.lt; simp [Value.ownBlock]; omega)); have O5 : Hid (w5.ownsRow w4.heap.size 5 1 v5 m.length (bcells m)) := Lib.hid (by simpa using hown5); have SZ5 : Hid (w4.heap.size ≤ w5.heap.size) := Lib.hid (by have := hg5.size; simp at this; omega); clear hown5 hg5 hat5)
          | (at_builtin; refine wpList_append_src _ rfl (.tmp 52) (.tmp 53) _ _ rfl w1.heap.size 5 i0 _ 1 Try.underlying22 hi hz0 hz1 hz2 rfl (.slice A6 m.length c6) m.length (bcells m) rfl P5.out.all (.slice SA b.length CA) b.length (bcells b) rfl ((HBX.out.below P5.out.bel).src Try.underlying22 CA) (by have := HLM.out; have := HLB.out; simp only [maxLen]; omega) (by have := HLM.out; have := HLB.out; omega) P5.out.le ?_; intro v6 w6 hown6 hg6 hat6; obtain ⟨A7, c7, hv7⟩ := slice_of_own hown6; subst hv7; have P6 : Hid (PS w w1.heap.size g (m ++ b) (.slice A7 (m.length + b.length) c7) (m ++ b) w6) := Lib.hid (P5.out.all' hg6 (by rw [List.length_append, bcells_append]; exact hown6)); have O6 := Lib.hid (own_grown O5.out hg6 (fun x e => (P4.out.all.lt x e).2)); have HC6 := Lib.hid (HC5.out.grown hg6 (fun e => by have := (HPS.out.all.lt g2 e.symm).2; have := HG2.out; omega)); have NE : Hid ((Value.slice A7 (m.length + b.length) c7).ownBlock = none ∨ (Value.slice A7 (m.length + b.length) c7).ownBlock ≠ v5.ownBlock) := Lib.hid (by
              cases e7 : (Value.slice A7 (m.length + b.length) c7).ownBlock with
              | none => exact .inl rfl
              | some x =>
                right
                intro e5
                have l5 := O5.out.lt x e5.symm
                rcases hat6 with h | h
                · rw [e7] at h
                  have := (P4.out.all.lt x h.symm).2
                  omega
                · rw [e7] at h
                  injection h with h
                  omega); have SZ6 : Hid (w4.heap.size ≤ w6.heap.size) := Lib.hid (Nat.le_trans SZ5.out hg6.size); clear hown6 hg6 hat6))
        have hLL : (m ++ b).length = m.length + b.length := List.length_append
        have hL5 : m.length + b.length ≤ 10500 := by have := HLM.out; have := HLB.out; omega
        generalize m.length + b.length = L at P6 NE hLL hL5 ⊢
        have HLAB := Lib.hid hLL
        have HL5 := Lib.hid hL5
        have hwL : IntKind.u64.wrap (L : Int) = (L : Int) := by rw [IntKind.wrap_u64]; omega
        have HSH := Lib.hid (hsum_own P6.out.hash (by rw [hLL]; omega) HS1.out)
        clear hLL hL5
        go_wp2_with (first
          | (go_at_call 20; refine (HSH.out).mono ?_; rintro e w7 ⟨rfl, hb7⟩; have P7 := Lib.hid (P6.out.below hb7); have O7 := Lib.hid (own_below O6.out hb7 (Nat.le_refl _)); have HC7 := Lib.hid (HC6.out.below hb7 HC6.out.lt); have HSA := Lib.hid (sum_own HLAB.out P7.out.all (by rw [HLAB.out]; have := HL5.out; omega) HS1.out); have SZ7 : Hid (w4.heap.size ≤ w7.heap.size) := Lib.hid (Nat.le_trans SZ6.out hb7.size); clear hb7 HSH)
          | (go_at_call 13; refine (HSA.out).mono ?_; rintro e w8 ⟨rfl, hb8⟩; have P8 := Lib.hid (P7.out.below hb8); have O8 := Lib.hid (own_below O7.out hb8 (Nat.le_refl _)); have HC8 := Lib.hid (HC7.out.below hb8 HC7.out.lt); have HSC := Lib.hid (hsum_own HC8.out (by rw [List.length_append]; have := HLM.out; have := HY5.out; omega) HS2.out); have hlen8 := len_of P8.out.hash; rw [HLAB.out] at hlen8; have HLN := Lib.hid hlen8; have SZ8 : Hid (w4.heap.size ≤ w8.heap.size) := Lib.hid (Nat.le_trans SZ7.out hb8.size); clear hb8 HSA hlen8)
          | (go_at_call 21; refine (HLN.out).mono ?_; rintro e w9 ⟨rfl, rfl⟩)
          | (go_at_call 20; refine (HSC.out).mono ?_; rintro e w9 ⟨rfl, hb9⟩; have P9 := Lib.hid (P8.out.below hb9); have O9 := Lib.hid (own_below O8.out hb9 (Nat.le_refl _)); have SZ9 : Hid (w4.heap.size ≤ w9.heap.size) := Lib.hid (Nat.le_trans SZ8.out hb9.size); clear hb9 HSC)
          | (at_builtin; refine wpList_append_srcG _ (by rfl) (.tmp 71) (.tmp 72) _ _ rfl w4.heap.size 5 i0 _ 1 Try.underlying22 hi hz0 hz1 hz2 rfl v5 m.length (bcells m) rfl O9.out (.slice A1 ys.length c1) ys.length (bcells ys) rfl ((HY.out.below P9.out.bel).src Try.underlying22 c1) (by have := HLM.out; have := HY5.out; simp only [maxLen]; omega) (by have := HLM.out; have := HY5.out; omega) SZ9.out ?_; intro v10 w10 hown10 hg10 hat10; obtain ⟨A10, c10, hv10⟩ := slice_of_own hown10; subst hv10; have P10 := Lib.hid (P9.out.grow hg10 (fun e => by have := (O9.out.lt g e.symm).1; have := P4.out.lt; have := P4.out.le; omega) NE.out (fun x e => by have := (O9.out.lt x e).1; have := P4.out.wle; omega)); have HSD := Lib.hid (sum_own (k := m ++ ys) List.length_append (by rw [List.length_append, bcells_append]; exact hown10) (by rw [List.length_append]; have := HLM.out; have := HY5.out; omega) HS2.out); clear hown10 hg10 hat10)
          | (go_at_call 13; refine (HSD.out).mono ?_; rintro e w11 ⟨rfl, hb11⟩; have P11 := Lib.hid (P10.out.below hb11); clear hb11 HSD))
        go_roundw
        case rel => exact ⟨j + 1, by omega, by go_num, by rw [HCAT.out]; exact HLL.out, by rw [HCAT.out]; exact P11.out⟩
        case measure => simp [intOf]; omega
    · obtain rfl : j = n := by omega
      have HPS := Lib.hid ps
      clear ps hlen
      go_wp2_with (go_at_call 12; refine (slives_any _).mono ?_; rintro e w2 ⟨rfl, hb2⟩)
      go_ret
      exact ⟨rfl, HPS.out.bel.trans (hb2.mono HPS.out.wle)⟩
end Go.Proofs.Ytcoiaddjfeaciaa
