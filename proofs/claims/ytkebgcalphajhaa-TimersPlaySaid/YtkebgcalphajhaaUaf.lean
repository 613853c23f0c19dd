/- slices.Delete of one timer, keys are texts. Conditions: at most 100,000 timers. -/
import Derived.Test.YtkebgcalphajhaaUae
import Derived.Test.YtkebgcalphajhaaRad
namespace Go.Proofs.Ytkebgcalphajhaa.Str
open Go.RowKit Go.Lib Go.Proofs.Ytkebgcalphajhaa
set_option maxRecDepth 100000
set_option maxHeartbeats 400000
theorem del_some (g off p d k c : Nat) (cur : List Value) (P D : List (ByteArray × Nat)) (x : ByteArray × Nat) (w : World) (hp : P.length = p) (hd : D.length = d) (hk : p + d = k) (hk16 : k ≤ 100000) (hc : k + 1 ≤ c) (hcm : c ≤ maxLen)
    (hg : w.heap[g]? = some (.cells cur.toArray 103 (0, 0))) (hcur : (cur.drop off).take ((k + 1) * 2) = flatT (P ++ x :: D)) (hsz : off + c * 2 ≤ cur.length) :
    Calls Try.prog 70 #[.slice (some ⟨g, off, none⟩) (k + 1) c, .int .i64 (p : Int), .int .i64 ((p : Int) + 1)] w fun e w' => ∃ v, e = .returned v ∧ RowAt w' 103 2 v k (flatT (P ++ D)) ∧ v.ownBlock = some g ∧ w.grownBy w' (some g) := by
  have hfl : (flatT P).length = p * 2 := by rw [flatT_length, hp]
  have hdl : (flatT D).length = d * 2 := by rw [flatT_length, hd]
  have hpre : flatT (P ++ x :: D) = flatT P ++ (encT x ++ flatT D) := by rw [flatT_append, flatT_cons]
  have htp : (cur.drop off).take (p * 2) = flatT P := by
    have h1 : ((cur.drop off).take ((k + 1) * 2)).take (p * 2) = flatT P := by rw [hcur, hpre, ← hfl]; exact List.take_left
    rwa [List.take_take, Nat.min_eq_left (by omega)] at h1
  obtain ⟨W1, hW1⟩ : ∃ W1, W1 = { w with drawn := w.drawn + 1 } := ⟨_, rfl⟩
  have h1h : W1.heap = w.heap := by rw [hW1]
  have hgr1 : w.grownBy W1 (some g) := by rw [hW1]; exact ⟨rfl, rfl, rfl, Nat.le_refl _, fun _ _ _ => rfl⟩
  have hg1 : W1.heap[g]? = some (.cells cur.toArray 103 (0, 0)) := by rw [h1h]; exact hg
  have HC1 : Hid ((flatT D).length = (k - p) * 2) := Lib.hid (by rw [hdl]; omega)
  have HS1 : Hid (∀ j v, (flatT D)[j]? = some v → W1.cell? ((⟨g, off + (p + 1) * 2, none⟩ : Addr).add j) = some v) := Lib.hid (fun j v hj => by
    rw [Addr.add_lit, cell_of_row W1 g _ _ 103 (0, 0) hg1]
    have := row_get hcur ((p + 1) * 2 + j) v (by
      rw [hpre, List.getElem?_append_right (by rw [hfl]; omega), List.getElem?_append_right (by rw [hfl, encT_length]; omega), hfl, encT_length, show (p + 1) * 2 + j - p * 2 - 2 = j by omega]
      exact hj)
    rw [Nat.add_assoc]
    simpa using this)
  have HF1 : Hid (off + p * 2 + (flatT D).length ≤ cur.length) := Lib.hid (by rw [hdl]; omega)
  obtain ⟨X, hX⟩ : ∃ X, X = splice cur (off + p * 2) (flatT D) := ⟨_, rfl⟩
  have hXl : X.length = cur.length := by rw [hX, length_splice _ _ _ HF1.out]
  have hl2 : (flatT P ++ flatT D).length = k * 2 := by rw [List.length_append, hfl, hdl]; omega
  have hXt : X.take (off + k * 2) = cur.take off ++ flatT (P ++ D) := by
    rw [hX]
    unfold splice
    rw [List.take_add (l := cur), htp, List.append_assoc, ← List.append_assoc (flatT P), ← List.append_assoc, flatT_append]
    have hl3 : (cur.take off ++ (flatT P ++ flatT D)).length = off + k * 2 := by rw [List.length_append, hl2, List.length_take]; omega
    rw [← hl3, List.take_left]
  obtain ⟨W2, hW2⟩ : ∃ W2, W2 = W1.setRow g X.toArray := ⟨_, rfl⟩
  have hg2 : W2.heap[g]? = some (.cells X.toArray 103 (0, 0)) := by rw [hW2]; exact setRow_heap W1 g _ _ 103 _ hg1
  have hgr2 : w.grownBy W2 (some g) := by
    rw [hW2]
    exact grownBy_trans hgr1 ⟨rfl, rfl, rfl, by simp [World.setRow], fun k _ hk => setRow_other W1 g k _ (fun e => hk (by simp [e]))⟩
  have HF2 : Hid (off + k * 2 + 1 * 2 ≤ X.length) := Lib.hid (by rw [hXl]; omega)
  have HFIN : Hid (∀ (cs : List Value), cs.length = 1 * 2 → ∀ W4, W4 = W2.setRow g (splice X (off + k * 2) cs).toArray → RowAt W4 103 2 (.slice (some ⟨g, off, none⟩) k c) k (flatT (P ++ D)) ∧ w.grownBy W4 (some g)) := Lib.hid (by
    rintro cs hcl W4 rfl
    have hh := setRow_heap W2 g _ (splice X (off + k * 2) cs).toArray 103 _ hg2
    have hlen : (flatT (P ++ D)).length = k * 2 := by rw [flatT_length, List.length_append, hp, hd, hk]
    refine ⟨⟨hlen, .inr ⟨g, off, c, _, rfl, hh, by omega, hcm, ?_, ?_⟩⟩, grownBy_trans hgr2 ⟨rfl, rfl, rfl, by simp [World.setRow], fun k _ hk => setRow_other W2 g k _ (fun e => hk (by simp [e]))⟩⟩
    · rw [length_splice _ _ _ (by rw [hcl]; exact HF2.out), hXl]; exact hsz
    · have htl : (X.take (off + k * 2)).length = off + k * 2 := by rw [List.length_take, Nat.min_eq_left (by rw [hXl]; omega)]
      unfold splice
      rw [hXt, List.append_assoc]
      have hof : (cur.take off).length = off := by rw [List.length_take]; omega
      rw [List.drop_left' hof, ← hlen]
      exact List.take_left)
  rw [hX] at hW2
  have HW1 := Lib.hid hW1
  have HW2 := Lib.hid hW2
  have HG1 := Lib.hid hg1
  have HG2 := Lib.hid hg2
  have HDO := flatT_one D
  have hwp : IntKind.i64.wrap ((p : Int) + 1) = (p : Int) + 1 := by rw [IntKind.wrap_i64]; omega
  have hq0 : 0 ≤ (p : Int) + 1 := by omega
  have hq1 : (p : Int) + 1 ≤ (k : Int) + 1 := by omega
  have hq4 : (p : Int) ≤ (p : Int) + 1 := by omega
  have hq5 : (p : Int) ≤ (c : Int) := by omega
  have hq6 : (p : Int) ≤ (k : Int) := by omega
  have hq7 : (k : Int) ≤ (k : Int) + 1 := by omega
  have hq8 : (k : Int) + 1 ≤ (c : Int) := by omega
  have hq9 : p + (k - p) = k := by omega
  have hqa : p + (k - p) ≤ c := by omega
  have hqb : ¬ c = k := by omega
  clear hW1 hW2 h1h hg1 hg2 hgr1 hgr2 hg hcur hsz hXt hX hpre htp hl2 hXl
  by_cases hcp : c = p + 1
  · have hD0 : D = [] := List.eq_nil_of_length_eq_zero (by omega)
    have HE : Hid (flatT D = []) := Lib.hid (by rw [hD0]; rfl)
    have HC0 : Hid ((flatT D).length = 0 * 2) := Lib.hid (by rw [HE.out]; rfl)
    have HS0 : Hid (∀ j v, (flatT D)[j]? = some v → W1.cell? ((⟨g, off, none⟩ : Addr).add j) = some v) := Lib.hid (fun j v hj => by rw [HE.out] at hj; cases hj)
    obtain rfl : k = p := by omega
    have HK0 : Hid (k + 0 = k) := Lib.hid rfl
    have HKC : Hid (k + 0 ≤ c) := Lib.hid (by omega)
    subst hcp
    clear hq9 hqa HC1 HS1 hqb hq8 hc hcm hq5 hdl hd hD0 hk hfl hp
    have hqc : (k : Int) ≤ (k : Int) + 1 := by omega
    go_enter Try.func70, Try.ntmps70
    go_upto_region 5 with fail
    refine region_tail 6 W1 HW1.out (by kernel_rfl) (by kernel_rfl) ?_
    simp only [List.take_succ_cons, List.take_zero, List.drop_succ_cons, List.drop_zero]
    repeat still_step
    refine wpStill_nil ?_
    go_wp2_with (first
      | ((with_reducible refine wpList_append_room rowTm (o := ⟨some 26, _, _, _, _, _⟩) rfl (.tmp 22) (.tmp 25) rfl g off k (k + 1) ⟨g, off, none⟩ 0 0 k HK0.out ?_ ?_ cur (flatT D) HG1.out HC0.out HKC.out HS0.out HF1.out HDO ?_); rfl; rfl; rw [← HW2.out])
      | ((with_reducible refine wpList_clear rowTm (o := ⟨none, _, _, _, _, _⟩) rfl (.tmp 31) rfl g (off + k * 2) 1 1 ?_ (by omega) X HG2.out HF2.out ?_); rfl; intro cs hcl))
    go_ret
    obtain ⟨f1, f2⟩ := HFIN.out _ hcl _ rfl
    exact ⟨_, rfl, f1, rfl, f2⟩
  · go_enter Try.func70, Try.ntmps70
    go_upto_region 5 with fail
    refine region_tail 6 W1 HW1.out (by kernel_rfl) (by kernel_rfl) ?_
    simp only [List.take_succ_cons, List.take_zero, List.drop_succ_cons, List.drop_zero]
    repeat still_step
    refine wpStill_nil ?_
    go_wp2_with (first
      | ((with_reducible refine wpList_append_room rowTm (o := ⟨some 26, _, _, _, _, _⟩) rfl (.tmp 22) (.tmp 25) rfl g off p c ⟨g, off + (p + 1) * 2, none⟩ (k - p) (c - (p + 1)) k hq9 ?_ ?_ cur (flatT D) HG1.out HC1.out hqa HS1.out HF1.out HDO ?_); rfl; rfl; rw [← HW2.out])
      | ((with_reducible refine wpList_clear rowTm (o := ⟨none, _, _, _, _, _⟩) rfl (.tmp 31) rfl g (off + k * 2) 1 (c - k) ?_ (by omega) X HG2.out HF2.out ?_); rfl; intro cs hcl))
    go_ret
    obtain ⟨f1, f2⟩ := HFIN.out _ hcl _ rfl
    exact ⟨_, rfl, f1, rfl, f2⟩
end Go.Proofs.Ytkebgcalphajhaa.Str
