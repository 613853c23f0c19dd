/- Contracts of name, and of parts and its closure, of package service. Conditions: at most 100,000 bytes. -/
import Derived.Test.YtjiiignbejbiiaaXLcm
import Derived.Test.YtjiiignbejbiiaaXLrd
import Derived.Test.YtjiiignbejbiiaaXVpa
namespace Go.Proofs.Ytjiiignbejbiiaa
open Go.Shelf Go.RowKit Go.Lib Go.Great
set_option maxRecDepth 100000
set_option maxHeartbeats 1000000
theorem name_any (A : Option Addr) (c : Nat) (L : List (List UInt8)) (w : World) (hA : SAt w w.heap.size A L) (hc : L.length ≤ c) (hl : sizeD L ≤ 1000000) : Calls Try.prog 47 #[.slice A L.length c] w fun e w' => e = .returned (.string (bstr (joinD L))) ∧ Below w.heap.size w w' := by
  have HJ := Lib.hid (join_any A c L w hA hc hl)
  generalize L.length = n at *
  generalize bstr (joinD L) = J at *
  go_enter Try.func47, Try.ntmps47
  go_wp2_with (go_at_call 45; (with_reducible refine HJ.out.mono ?_); rintro e w1 ⟨rfl, hb1⟩)
  go_ret
  exact ⟨rfl, hb1⟩
/-- The closure that asks whether a part is a text. -/
theorem is_any (g : Nat) (A : Option Addr) (c : Nat) (L : List (List UInt8)) (k : Nat) (t : List UInt8) (w : World) (hg : w.heap[g]? = some (.cells #[.slice A L.length c] 25 (0, 0))) (hA : SAt w w.heap.size A L) (hk : k < L.length) (hL : L[k]!.length ≤ 100000) (ht : t.length ≤ 100000) :
    Calls Try.prog 58 #[.int .i64 (k : Int), .string (bstr t), .pointer (some ⟨g, 0, none⟩)] w fun e w' => e = .returned (.bool (foldL L[k]! == foldL t)) ∧ Below w.heap.size w w' := by
  have hcell : w.cell? ⟨g, 0, none⟩ = some (.slice A L.length c) := by simp [World.cell?, hg]
  rcases hA with h0 | ⟨g1, o1, rfl, hg1, hr⟩
  · subst h0
    simp at hk
  have hc1 := hr k hk
  have hgl := getElem!_pos L k hk
  rw [hgl] at hL ⊢
  have HS := Lib.hid (same_any L[k] t hL ht w)
  have hk' : (k : Int) < (L.length : Int) := by omega
  clear hr hg hgl
  unfold encT at hc1
  generalize L[k] = p at *
  generalize L.length = n at *
  generalize (foldL p == foldL t) = r at *
  generalize bstr p = P at *
  generalize bstr t = T at *
  go_enter Try.func58, Try.ntmps58
  go_wp2_with (go_at_call 20; (with_reducible refine HS.out.mono ?_); rintro e w1 ⟨rfl, hb1⟩)
  go_ret
  exact ⟨rfl, hb1⟩
theorem hpfx (p : List UInt8) : Lib.hasPrefix p [95] = decide (1 ≤ p.length ∧ p[0]! = 95) := by
  cases p with
  | nil => rfl
  | cons c r =>
    have : [95].isPrefixOf (c :: r) = ((95 : UInt8) == c) := by simp [List.isPrefixOf]
    rw [Lib.hasPrefix, this, Bool.eq_iff_iff]
    simp only [beq_iff_eq, decide_eq_true_iff]
    exact ⟨fun h => ⟨by simp, h.symm⟩, fun h => h.2.symm⟩
theorem fold_one (p : List UInt8) (h : 1 ≤ p.length) (h0 : p[0]! = 95) : (foldL p == foldL [95]) = decide (p.length = 1) := by
  match p, h with
  | [c], _ =>
    obtain rfl : c = 95 := h0
    rfl
  | c :: d :: r, _ => simp [foldL]
/-- What parts tells. -/
def PartsP (s : List UInt8) (w : World) (e : Ending) (w' : World) : Prop := Below w.heap.size w w' ∧
  ((svcL s = true ∧ ∃ A c, e = .returned (.tuple #[.slice A (splitD s).length c, .bool true]) ∧ (splitD s).length ≤ c ∧ SAt w' w'.heap.size A (splitD s)) ∨ (svcL s = false ∧ e = .returned (.tuple #[.slice none 0 0, .bool false])))
theorem sparts_bad (s : List UInt8) (hs : goodL s = false) (w : World) : Calls Try.prog 46 #[.string (bstr s)] w fun e w' => PartsP s w e w' := by
  have HG := Lib.hid (goodp_any s w)
  rw [hs] at HG
  have hv : svcL s = false := by rw [svcL, hs]; rfl
  have HV := Lib.hid hv
  unfold PartsP
  generalize bstr s = S at *
  clear hs hv
  go_enter Try.func46, Try.ntmps46
  go_wp2_with (go_at_call 13; (with_reducible refine HG.out.mono ?_); rintro e w1 ⟨rfl, hb1⟩)
  refine bodyPost_ret (v := .tuple #[.slice none 0 0, .bool false]) (results_2b (p := 2) (q := 3) rfl _ _ _ _ rfl rfl) rfl ?_
  exact ⟨hb1, .inr ⟨HV.out, rfl⟩⟩
theorem sparts_good (s : List UInt8) (hs : goodL s = true) (w : World) : Calls Try.prog 46 #[.string (bstr s)] w fun e w' => PartsP s w e w' := by
  have ls : s.length ≤ 253 := ((goodL_iff s).1 hs).2
  have HG : Hid (Calls Try.prog 13 #[.string (bstr s)] w fun e w' => e = .returned (.bool true) ∧ Below w.heap.size w w') := Lib.hid (hs ▸ goodp_any s w)
  have HP : Hid (∀ W, Below w.heap.size w W → Calls Try.prog 16 #[.string (bstr s)] W fun e w' => ∃ A c, e = .returned (.slice A (splitD s).length c) ∧ (splitD s).length ≤ c ∧ SAt w' w'.heap.size A (splitD s) ∧ Below w.heap.size w w') := Lib.hid (fun W hW => (parts_any s (by omega) W).mono (by
    rintro e w' ⟨v, rfl, h1, h2⟩
    obtain ⟨A, c, rfl, h3, h4⟩ := h1.at_
    exact ⟨A, c, rfl, h3, h4, hW.trans (h2.mono hW.size)⟩))
  have HSV : Hid (svcL s = (decide (3 ≤ (splitD s).length) && (decide (2 ≤ (splitD s)[0]!.length ∧ (splitD s)[0]![0]! = 95) && (foldL (splitD s)[1]! == tcpL || foldL (splitD s)[1]! == udpL)))) := Lib.hid (by rw [svcL, hs, Bool.true_and])
  have HLN : Hid (∀ k, k < (splitD s).length → (splitD s)[k]!.length ≤ 100000) := Lib.hid (fun k hk => by
    rw [getElem!_pos (splitD s) k hk]
    have := partL_len (((goodL_iff s).1 hs).1 _ (List.getElem_mem hk))
    omega)
  unfold PartsP
  generalize svcL s = sv at *
  have hpos := splitD_pos s
  generalize splitD s = L at *
  generalize bstr s = S at *
  clear hs ls
  obtain ⟨n, hn⟩ : ∃ n, n = L.length := ⟨_, rfl⟩
  rw [← hn] at HP HSV hpos HLN ⊢
  have HN := Lib.hid hn
  clear hn
  go_enter Try.func46, Try.ntmps46
  go_upto_region 5 with (first
    | (go_at_call 13; (with_reducible refine HG.out.mono ?_); rintro e w1 ⟨rfl, hb1⟩)
    | (go_at_call 16; (with_reducible refine (HP.out _ hb1).mono ?_); rintro e w2 ⟨A, c, rfl, hc2, hA2, hb2⟩))
  obtain ⟨gb, hgb⟩ : ∃ gb, gb = w2.heap.size := ⟨_, rfl⟩
  obtain ⟨W3, hW3⟩ : ∃ W3, W3 = w2.alloc (.cells #[.slice A n c] 25) := ⟨_, rfl⟩
  have hbox : W3.heap[gb]? = some (.cells #[.slice A n c] 25 (0, 0)) := by rw [hW3, hgb]; exact World.alloc_heap_new w2 _
  have hb3 : Below w.heap.size w W3 := by rw [hW3]; exact hb2.alloc hb2.size _
  have hA3 : SAt W3 W3.heap.size A L := by
    have h1 : Below w2.heap.size w2 W3 := by rw [hW3]; exact (Below.refl _ w2).alloc (Nat.le_refl _) _
    exact (hA2.below h1).more h1.size
  rw [← hW3, ← hgb]
  have hgb3 : gb < W3.heap.size := (Array.getElem?_eq_some_iff.1 hbox).1
  have HBX : Hid (∀ W, Below W3.heap.size W3 W → W.heap[gb]? = some (.cells #[.slice A n c] 25 (0, 0))) := Lib.hid (fun W hW => (hW.block gb hgb3).trans hbox)
  have HCB : Hid (∀ W, Below W3.heap.size W3 W → W.cell? ⟨gb, 0, none⟩ = some (.slice A n c)) := Lib.hid (fun W hW => by simp [World.cell?, HBX.out W hW])
  have hcb := HCB.out W3 (Below.refl _ _)
  have HB3 := Lib.hid hb3
  have HA3 := Lib.hid hA3
  have HIS : Hid (∀ (k : Nat) (t : List UInt8), k < n → t.length ≤ 100000 → ∀ W, Below W3.heap.size W3 W → Calls Try.prog 58 #[.int .i64 (k : Int), .string (bstr t), .pointer (some ⟨gb, 0, none⟩)] W fun e w' => e = .returned (.bool (foldL L[k]! == foldL t)) ∧ Below W3.heap.size W3 w') := Lib.hid (fun k t hk ht W hW => by
    have h := is_any gb A c L k t W (by rw [← HN.out]; exact HBX.out W hW) ((HA3.out.below hW).more hW.size) (by rw [← HN.out]; exact hk) (HLN.out k hk) ht
    exact h.mono (by rintro e w' ⟨rfl, hb⟩; exact ⟨rfl, hW.trans (hb.mono hW.size)⟩))
  clear hW3 hgb hb1 hb2 hA2 hb3 hA3 hbox hgb3 HG HP
  by_cases h3 : 3 ≤ n
  · have h3' : ¬ (n : Int) < 3 := by omega
    have hn0 : (0 : Int) < (n : Int) := by omega
    rcases HA3.out with h0 | ⟨g1, o1, rfl, hg1, hr⟩
    · have := HN.out
      rw [h0] at this
      simp at this
      omega
    have hc1 := hr 0 (by rw [← HN.out]; omega)
    have hg0 : L[0]! = L[0]'(by rw [← HN.out]; omega) := getElem!_pos L 0 (by rw [← HN.out]; omega)
    rw [← hg0, Nat.add_zero] at hc1
    unfold encT at hc1
    have HPX : Hid (∀ W, Calls Try.prog 59 #[.string (bstr L[0]!), .string ⟨#[95]⟩] W fun e w' => e = .returned (.bool (decide (1 ≤ L[0]!.length ∧ L[0]![0]! = 95))) ∧ w' = W) := Lib.hid (fun W => by
      have h := Try.strings_HasPrefix (bstr L[0]!) ⟨#[95]⟩ W
      have e1 : (bstr L[0]!).data.toList = L[0]! := by simp [bstr]
      rw [e1, show (⟨#[95]⟩ : ByteArray).data.toList = [95] from rfl, hpfx] at h
      exact h)
    have I0 : Hid (∀ W, Below W3.heap.size W3 W → Calls Try.prog 58 #[.int .i64 0, .string ⟨#[95]⟩, .pointer (some ⟨gb, 0, none⟩)] W fun e w' => e = .returned (.bool (foldL L[0]! == foldL [95])) ∧ Below W3.heap.size W3 w') := Lib.hid (fun W hW => HIS.out 0 [95] (by omega) (by simp) W hW)
    have I1 : Hid (∀ W, Below W3.heap.size W3 W → Calls Try.prog 58 #[.int .i64 1, .string ⟨#[95, 116, 99, 112]⟩, .pointer (some ⟨gb, 0, none⟩)] W fun e w' => e = .returned (.bool (foldL L[1]! == tcpL)) ∧ Below W3.heap.size W3 w') := Lib.hid (fun W hW => HIS.out 1 tcpL (by omega) (by simp [tcpL]) W hW)
    have I2 : Hid (∀ W, Below W3.heap.size W3 W → Calls Try.prog 58 #[.int .i64 1, .string ⟨#[95, 117, 100, 112]⟩, .pointer (some ⟨gb, 0, none⟩)] W fun e w' => e = .returned (.bool (foldL L[1]! == udpL)) ∧ Below W3.heap.size W3 w') := Lib.hid (fun W hW => HIS.out 1 udpL (by omega) (by simp [udpL]) W hW)
    have hsv := HSV.out
    rw [decide_eq_true h3, Bool.true_and] at hsv
    have HF1 := Lib.hid (fold_one L[0]!)
    have HW0 := Below.refl W3.heap.size W3
    have HA4 := Lib.hid (show SAt W3 W3.heap.size (some ⟨g1, o1, none⟩) L from .inr ⟨g1, o1, rfl, hg1, hr⟩)
    clear HIS HSV hr hg0 HA3
    generalize (foldL L[1]! == tcpL) = t1 at *
    generalize (foldL L[1]! == udpL) = u1 at *
    generalize (foldL L[0]! == foldL [95]) = q0 at *
    by_cases hp : 1 ≤ L[0]!.length ∧ L[0]![0]! = 95
    · rw [decide_eq_true hp] at HPX
      obtain rfl := HF1.out hp.1 hp.2
      by_cases hl1 : L[0]!.length = 1
      · rw [decide_eq_true hl1] at I0
        have hsf : sv = false := by rw [hsv, decide_eq_false (by omega)]; rfl
        have HSF := Lib.hid hsf
        clear hsf hsv hl1 hp I1 I2 HF1
        generalize bstr L[0]! = P0 at *
        go_wp2_with (first
          | (go_at_call 59; (with_reducible refine (HPX.out _).mono ?_); rintro e w4 ⟨rfl, rfl⟩)
          | (go_at_call 58; (with_reducible refine (I0.out _ HW0).mono ?_); rintro e w5 ⟨rfl, hb5⟩))
        refine bodyPost_ret (v := .tuple #[.slice none 0 0, .bool false]) (results_2b (p := 2) (q := 3) rfl _ _ _ _ rfl rfl) rfl ?_
        exact ⟨HB3.out.trans (hb5.mono HB3.out.size), .inr ⟨HSF.out, rfl⟩⟩
      · rw [decide_eq_false hl1] at I0
        have hsv2 : sv = (t1 || u1) := by rw [hsv, decide_eq_true ⟨by omega, hp.2⟩, Bool.true_and]
        clear hsv hl1 hp HF1
        generalize bstr L[0]! = P0 at *
        cases t1
        · cases u1
          · have HSF := Lib.hid hsv2
            clear hsv2
            go_wp2_with (first
              | (go_at_call 59; (with_reducible refine (HPX.out _).mono ?_); rintro e w4 ⟨rfl, rfl⟩)
              | (go_at_call 58; (with_reducible refine (I0.out _ HW0).mono ?_); rintro e w5 ⟨rfl, hb5⟩)
              | (go_at_call 58; (with_reducible refine (I1.out _ hb5).mono ?_); rintro e w6 ⟨rfl, hb6⟩; have hcb6 := HCB.out _ hb6)
              | (go_at_call 58; (with_reducible refine (I2.out _ hb6).mono ?_); rintro e w7 ⟨rfl, hb7⟩; have hcb7 := HCB.out _ hb7))
            refine bodyPost_ret (v := .tuple #[.slice none 0 0, .bool false]) (results_2b (p := 2) (q := 3) rfl _ _ _ _ rfl rfl) rfl ?_
            exact ⟨HB3.out.trans (hb7.mono HB3.out.size), .inr ⟨HSF.out, rfl⟩⟩
          · have HST := Lib.hid hsv2
            clear hsv2
            go_wp2_with (first
              | (go_at_call 59; (with_reducible refine (HPX.out _).mono ?_); rintro e w4 ⟨rfl, rfl⟩)
              | (go_at_call 58; (with_reducible refine (I0.out _ HW0).mono ?_); rintro e w5 ⟨rfl, hb5⟩)
              | (go_at_call 58; (with_reducible refine (I1.out _ hb5).mono ?_); rintro e w6 ⟨rfl, hb6⟩; have hcb6 := HCB.out _ hb6)
              | (go_at_call 58; (with_reducible refine (I2.out _ hb6).mono ?_); rintro e w7 ⟨rfl, hb7⟩; have hcb7 := HCB.out _ hb7))
            refine bodyPost_ret (v := .tuple #[.slice (some ⟨g1, o1, none⟩) n c, .bool true]) (results_2b (p := 2) (q := 3) rfl _ _ _ _ rfl rfl) rfl ?_
            exact ⟨HB3.out.trans (hb7.mono HB3.out.size), .inl ⟨HST.out, _, _, rfl, hc2, (HA4.out.below hb7).more hb7.size⟩⟩
        · have HST : Hid (sv = true) := Lib.hid (by rw [hsv2, Bool.true_or])
          clear hsv2
          go_wp2_with (first
            | (go_at_call 59; (with_reducible refine (HPX.out _).mono ?_); rintro e w4 ⟨rfl, rfl⟩)
            | (go_at_call 58; (with_reducible refine (I0.out _ HW0).mono ?_); rintro e w5 ⟨rfl, hb5⟩)
            | (go_at_call 58; (with_reducible refine (I1.out _ hb5).mono ?_); rintro e w6 ⟨rfl, hb6⟩; have hcb6 := HCB.out _ hb6))
          refine bodyPost_ret (v := .tuple #[.slice (some ⟨g1, o1, none⟩) n c, .bool true]) (results_2b (p := 2) (q := 3) rfl _ _ _ _ rfl rfl) rfl ?_
          exact ⟨HB3.out.trans (hb6.mono HB3.out.size), .inl ⟨HST.out, _, _, rfl, hc2, (HA4.out.below hb6).more hb6.size⟩⟩
    · rw [decide_eq_false hp] at HPX
      have hsf : sv = false := by rw [hsv, decide_eq_false (fun h => hp ⟨by omega, h.2⟩)]; rfl
      have HSF := Lib.hid hsf
      clear hsf hsv hp I0 I1 I2 HF1
      generalize bstr L[0]! = P0 at *
      go_wp2_with (go_at_call 59; (with_reducible refine (HPX.out _).mono ?_); rintro e w4 ⟨rfl, rfl⟩)
      refine bodyPost_ret (v := .tuple #[.slice none 0 0, .bool false]) (results_2b (p := 2) (q := 3) rfl _ _ _ _ rfl rfl) rfl ?_
      exact ⟨HB3.out, .inr ⟨HSF.out, rfl⟩⟩
  · have h3' : (n : Int) < 3 := by omega
    have hsf : sv = false := by rw [HSV.out, decide_eq_false h3]; rfl
    have HSF := Lib.hid hsf
    clear hsf HIS HSV HA3
    go_wp2
    refine bodyPost_ret (v := .tuple #[.slice none 0 0, .bool false]) (results_2b (p := 2) (q := 3) rfl _ _ _ _ rfl rfl) rfl ?_
    exact ⟨HB3.out, .inr ⟨HSF.out, rfl⟩⟩
theorem sparts_any (s : List UInt8) (w : World) : Calls Try.prog 46 #[.string (bstr s)] w fun e w' => PartsP s w e w' := by
  cases h : goodL s with
  | true => exact sparts_good s h w
  | false => exact sparts_bad s h w
end Go.Proofs.Ytjiiignbejbiiaa
