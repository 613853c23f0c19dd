/- Contracts of Same and Under of package label. Conditions: at most 100,000 bytes. -/
import Derived.Test.YtjiiignbejbiiaaXLch
namespace Go.Proofs.Ytjiiignbejbiiaa
open Go.Shelf Go.RowKit Go.Lib Go.Great
set_option maxRecDepth 100000
set_option maxHeartbeats 1000000
theorem bstr_list (a : List UInt8) : (bstr a).toList = a := by rw [ByteArray.toList_eq]; simp [bstr]
theorem bstr_inj {a b : List UInt8} (h : bstr a = bstr b) : a = b := by rw [← bstr_list a, h, bstr_list]
theorem same_any (a b : List UInt8) (ha : a.length ≤ 100000) (hb : b.length ≤ 100000) (w : World) : Calls Try.prog 20 #[.string (bstr a), .string (bstr b)] w fun e w' => e = .returned (.bool (foldL a == foldL b)) ∧ Below w.heap.size w w' := by
  have H1 := Lib.hid (fold_any a ha w)
  have H2 : Hid (∀ W, Below w.heap.size w W → Calls Try.prog 18 #[.string (bstr b)] W fun e w' => e = .returned (.string (bstr (foldL b))) ∧ Below w.heap.size w w') := Lib.hid (fun W hW => (fold_any b hb W).mono (by rintro e w' ⟨rfl, h⟩; exact ⟨rfl, hW.trans (h.mono hW.size)⟩))
  generalize bstr a = A at *
  generalize bstr b = B at *
  generalize foldL a = fa at *
  generalize foldL b = fb at *
  go_enter Try.func20, Try.ntmps20
  go_wp2_with (first
    | (go_at_call 18; (with_reducible refine H1.out.mono ?_); rintro e w1 ⟨rfl, h1⟩)
    | (go_at_call 18; (with_reducible refine (H2.out _ h1).mono ?_); rintro e w2 ⟨rfl, h2⟩))
  rw [bstr_list, bstr_list]
  go_ret
  exact ⟨rfl, h2⟩
/-- The address leads to the texts L, in a block below B. -/
def SAt (w : World) (B : Nat) (A : Option Addr) (L : List (List UInt8)) : Prop := L = [] ∨ ∃ g off, A = some ⟨g, off, none⟩ ∧ g < B ∧ ∀ j (h : j < L.length), w.cell? ⟨g, off + j, none⟩ = some (encT L[j])
theorem SAt.below {w w' : World} {B : Nat} {A : Option Addr} {L : List (List UInt8)} (h : SAt w B A L) (hb : Below B w w') : SAt w' B A L := by
  rcases h with h | ⟨g, off, e, hg, hr⟩
  · exact .inl h
  · exact .inr ⟨g, off, e, hg, fun j hj => by rw [hb.cell (p := ⟨g, off + j, none⟩) hg]; exact hr j hj⟩
theorem SAt.more {w : World} {B B' : Nat} {A : Option Addr} {L : List (List UInt8)} (h : SAt w B A L) (hB : B ≤ B') : SAt w B' A L := by
  rcases h with h | ⟨g, off, e, hg, hr⟩
  · exact .inl h
  · exact .inr ⟨g, off, e, by omega, hr⟩
theorem OwnT.at_ {w : World} {base : Nat} {v : Value} {L : List (List UInt8)} (h : OwnT base v L w) : ∃ A c, v = .slice A L.length c ∧ L.length ≤ c ∧ SAt w w.heap.size A L := by
  unfold OwnT at h
  rcases h.2 with ⟨hv, hn⟩ | ⟨g, cap, cur, hv, hb, hg, hn, _⟩
  · exact ⟨none, 0, by rw [hv, hn], by omega, .inl (List.eq_nil_of_length_eq_zero hn)⟩
  · exact ⟨some ⟨g, 0, none⟩, cap, hv, hn, .inr ⟨g, 0, rfl, (Array.getElem?_eq_some_iff.1 hg).1, fun j hj => by
      subst hv
      rw [Nat.zero_add, h.cellAt j (by omega)]
      simp [hj]⟩⟩
theorem size25 (W : World) : (sizeOf (Try.prog.elem 25)).run Try.prog W = .ok 1 W := by
  have : Try.prog.elem 25 = 9 := by kernel_rfl
  rw [this]
  exact Try.sizeOf9 W
theorem under25 : Try.prog.underlying 25 = some (.slice (Try.prog.elem 25)) := by kernel_rfl
theorem run_cut25 (A : Option Addr) (n c k : Nat) (hk : k ≤ n) (W : World) :
    (Instr.slice 25 (.slice A n c) (some (.int .i64 (k : Int))) none none).run Try.prog W = .ok (.slice (cutA A c k) (n - k) (c - k)) W := by
  rw [run_slice_l W 25 A n c under25 .i64 k (by omega) (by omega), size25]
  simp [Result.andThen, sliced, cutA]
theorem eqs_any (A1 A2 : Option Addr) (c d : Nat) (L M : List (List UInt8)) (w : World) (h1 : SAt w w.heap.size A1 L) (h2 : SAt w w.heap.size A2 M) (l1 : L ≠ []) (l2 : M ≠ []) (hb1 : L.length ≤ 1000000) (hb2 : M.length ≤ 1000000) :
    Calls Try.prog 43 #[.slice A1 L.length c, .slice A2 M.length d] w fun e w' => e = .returned (.bool (decide (L = M))) ∧ Below w.heap.size w w' := by
  rcases h1 with h1 | ⟨g1, o1, rfl, hg1, hr1⟩
  · exact absurd h1 l1
  rcases h2 with h2 | ⟨g2, o2, rfl, hg2, hr2⟩
  · exact absurd h2 l2
  have h := Try.slices_Equal_string g1 o1 L.length c g2 o2 M.length d (L.map bstr) (M.map bstr) w (by simp) (by simp) (by omega) (by omega) (fun j hj => by
    rw [List.length_map] at hj
    rw [hr1 j hj]
    simp [encT, hj]) (fun j hj => by
    rw [List.length_map] at hj
    rw [hr2 j hj]
    simp [encT, hj])
  refine h.mono ?_
  rintro e w' ⟨rfl, q, rfl⟩
  refine ⟨?_, below_drewN (Below.refl _ _) q⟩
  rw [List.take_of_length_le (by simp), List.take_of_length_le (by simp)]
  have : (L.map bstr = M.map bstr) ↔ (L = M) := List.map_inj_right (fun _ _ e => bstr_inj e)
  simp only [this]
theorem goodp_any (s : List UInt8) (w : World) : Calls Try.prog 13 #[.string (bstr s)] w fun e w' => e = .returned (.bool (goodL s)) ∧ Below w.heap.size w w' := by
  unfold goodL
  by_cases h : s.length ≤ 253
  · rw [decide_eq_true h, Bool.and_true]
    exact good_short s h w
  · rw [decide_eq_false h, Bool.and_false]
    exact good_long s (by omega) w
theorem under_yes (s z : List UInt8) (hs : goodL s = true) (hz : goodL z = true) (w : World) : Calls Try.prog 21 #[.string (bstr s), .string (bstr z)] w fun e w' => e = .returned (.bool (decide (splitD (foldL z) <:+ splitD (foldL s)))) ∧ Below w.heap.size w w' := by
  have ls : s.length ≤ 253 := ((goodL_iff s).1 hs).2
  have lz : z.length ≤ 253 := ((goodL_iff z).1 hz).2
  have G1 : Hid (Calls Try.prog 13 #[.string (bstr s)] w fun e w' => e = .returned (.bool true) ∧ Below w.heap.size w w') := Lib.hid (hs ▸ goodp_any s w)
  have G2 : Hid (∀ W, Below w.heap.size w W → Calls Try.prog 13 #[.string (bstr z)] W fun e w' => e = .returned (.bool true) ∧ Below w.heap.size w w') := Lib.hid (fun W hW => (hz ▸ goodp_any z W).mono (by rintro e w' ⟨rfl, h⟩; exact ⟨rfl, hW.trans (h.mono hW.size)⟩))
  have F1 : Hid (∀ W, Below w.heap.size w W → Calls Try.prog 18 #[.string (bstr s)] W fun e w' => e = .returned (.string (bstr (foldL s))) ∧ Below w.heap.size w w') := Lib.hid (fun W hW => (fold_any s (by omega) W).mono (by rintro e w' ⟨rfl, h⟩; exact ⟨rfl, hW.trans (h.mono hW.size)⟩))
  have F2 : Hid (∀ W0 W A L, SAt W0 W0.heap.size A L → Below w.heap.size w W0 → W = W0 → Calls Try.prog 18 #[.string (bstr z)] W fun e w' => e = .returned (.string (bstr (foldL z))) ∧ Below w.heap.size w w' ∧ SAt w' w'.heap.size A L) := Lib.hid (fun W0 W A L h hb e => by
    subst e
    refine (fold_any z (by omega) W).mono ?_
    rintro e w' ⟨rfl, h2⟩
    exact ⟨rfl, hb.trans (h2.mono hb.size), (h.below h2).more h2.size⟩)
  have P1 : Hid (∀ W, Below w.heap.size w W → Calls Try.prog 16 #[.string (bstr (foldL s))] W fun e w' => ∃ A c, e = .returned (.slice A (splitD (foldL s)).length c) ∧ (splitD (foldL s)).length ≤ c ∧ SAt w' w'.heap.size A (splitD (foldL s)) ∧ Below w.heap.size w w') := Lib.hid (fun W hW => by
    refine (parts_any (foldL s) (by rw [foldL_length]; omega) W).mono ?_
    rintro e w' ⟨v, rfl, h1, h2⟩
    obtain ⟨A, c, rfl, h3, h4⟩ := h1.at_
    exact ⟨A, c, rfl, h3, h4, hW.trans (h2.mono hW.size)⟩)
  have P2 : Hid (∀ W A L, SAt W W.heap.size A L → Below w.heap.size w W → Calls Try.prog 16 #[.string (bstr (foldL z))] W fun e w' => ∃ A2 c2, e = .returned (.slice A2 (splitD (foldL z)).length c2) ∧ (splitD (foldL z)).length ≤ c2 ∧ SAt w' w'.heap.size A2 (splitD (foldL z)) ∧ SAt w' w'.heap.size A L ∧ Below w.heap.size w w') := Lib.hid (fun W A L h hW => by
    refine (parts_any (foldL z) (by rw [foldL_length]; omega) W).mono ?_
    rintro e w' ⟨v, rfl, h1, h2⟩
    obtain ⟨A2, c, rfl, h3, h4⟩ := h1.at_
    exact ⟨A2, c, rfl, h3, h4, (h.below h2).more h2.size, hW.trans (h2.mono hW.size)⟩)
  have b1 := splitD_length_le (foldL s)
  have b2 := splitD_length_le (foldL z)
  rw [foldL_length] at b1 b2
  have n1 := splitD_ne (foldL s)
  have n2 := splitD_ne (foldL z)
  have HB := Lib.hid (Below.refl w.heap.size w)
  generalize splitD (foldL s) = L at *
  generalize splitD (foldL z) = M at *
  generalize bstr (foldL s) = FS at *
  generalize bstr (foldL z) = FZ at *
  generalize bstr s = S at *
  generalize bstr z = Z at *
  have pM := List.length_pos_iff.2 n2
  have pL := List.length_pos_iff.2 n1
  clear hs hz
  by_cases hk : M.length ≤ L.length
  · obtain ⟨k, hkk⟩ : ∃ k : Nat, L.length = M.length + k := ⟨L.length - M.length, by omega⟩
    have HR : Hid (decide (M <:+ L) = decide (L.drop k = M)) := Lib.hid (by
      have : (M <:+ L) ↔ (L.drop k = M) := by
        rw [List.suffix_iff_eq_drop, show L.length - M.length = k by omega]
        exact eq_comm
      simp only [this])
    have HE : Hid (∀ W A c A2 c2, SAt W W.heap.size A2 M → SAt W W.heap.size A L → L.length ≤ c → Below w.heap.size w W → Calls Try.prog 43 #[.slice (cutA A c k) (L.length - k) (c - k), .slice A2 M.length c2] W fun e w' => e = .returned (.bool (decide (L.drop k = M))) ∧ Below w.heap.size w w') := Lib.hid (fun W A c A2 c2 h2 h1 hc hb => by
      have hd : SAt W W.heap.size (cutA A c k) (L.drop k) := by
        rcases h1 with h1 | ⟨g, off, rfl, hg, hcell⟩
        · exact absurd h1 n1
        · refine .inr ⟨g, off + k, by unfold cutA; rw [if_neg (by omega), Option.map_some, addr_add], hg, fun j hj => ?_⟩
          rw [List.length_drop] at hj
          rw [Nat.add_assoc, hcell (k + j) (by omega), List.getElem_drop]
      have hne : L.drop k ≠ [] := fun e => by
        have := congrArg List.length e
        rw [List.length_drop] at this
        simp at this
        omega
      have := eqs_any (cutA A c k) A2 (c - k) c2 (L.drop k) M W hd h2 hne n2 (by rw [List.length_drop]; omega) (by omega)
      rw [List.length_drop] at this
      exact this.mono (by rintro e w' ⟨rfl, h⟩; exact ⟨rfl, hb.trans (h.mono hb.size)⟩))
    rw [HR.out]
    generalize decide (L.drop k = M) = q at HE ⊢
    have hw : RowKit.wrap64 (k : Int) = (k : Int) := by rw [RowKit.wrap64]; omega
    unfold cutA at HE
    have hsub : (L.length : Int) - (M.length : Int) = (k : Int) := by omega
    clear HR n1 n2 ls lz pM pL hkk hk
    generalize L.length = ln at *
    generalize M.length = mn at *
    go_enter Try.func21, Try.ntmps21
    go_wp2_with (first
      | (go_at_call 13; (with_reducible refine G1.out.mono ?_); rintro e w1 ⟨rfl, hb1⟩)
      | (go_at_call 13; (with_reducible refine (G2.out _ hb1).mono ?_); rintro e w2 ⟨rfl, hb2⟩)
      | (go_at_call 18; (with_reducible refine (F1.out _ hb2).mono ?_); rintro e w3 ⟨rfl, hb3⟩)
      | (go_at_call 16; (with_reducible refine (P1.out _ hb3).mono ?_); rintro e w4 ⟨A, c, rfl, hc4, hA4, hb4⟩)
      | (go_at_call 18; (with_reducible refine (F2.out _ _ A L hA4 hb4 rfl).mono ?_); rintro e w5 ⟨rfl, hb5, hA5⟩)
      | (go_at_call 16; (with_reducible refine (P2.out _ A L hA5 hb5).mono ?_); rintro e w6 ⟨A2, c2, rfl, hc6, hA6, hB6, hb6⟩)
      | (go_at_call 43; (with_reducible refine (HE.out _ A c A2 c2 hA6 hB6 hc4 hb6).mono ?_); rintro e w7 ⟨rfl, hb7⟩))
    all_goals (go_ret; exact ⟨rfl, hb7⟩)
  · have HR : Hid (decide (M <:+ L) = false) := Lib.hid (decide_eq_false (fun h => hk h.length_le))
    rw [HR.out]
    have hw : RowKit.wrap64 ((L.length : Int) - (M.length : Int)) = (L.length : Int) - (M.length : Int) := by rw [RowKit.wrap64]; omega
    have hneg : ¬ (0 : Int) ≤ (L.length : Int) - (M.length : Int) := by omega
    clear HR n1 n2 ls lz pM pL hk
    generalize L.length = ln at *
    generalize M.length = mn at *
    go_enter Try.func21, Try.ntmps21
    go_wp2_with (first
      | (go_at_call 13; (with_reducible refine G1.out.mono ?_); rintro e w1 ⟨rfl, hb1⟩)
      | (go_at_call 13; (with_reducible refine (G2.out _ hb1).mono ?_); rintro e w2 ⟨rfl, hb2⟩)
      | (go_at_call 18; (with_reducible refine (F1.out _ hb2).mono ?_); rintro e w3 ⟨rfl, hb3⟩)
      | (go_at_call 16; (with_reducible refine (P1.out _ hb3).mono ?_); rintro e w4 ⟨A, c, rfl, hc4, hA4, hb4⟩)
      | (go_at_call 18; (with_reducible refine (F2.out _ _ A L hA4 hb4 rfl).mono ?_); rintro e w5 ⟨rfl, hb5, hA5⟩)
      | (go_at_call 16; (with_reducible refine (P2.out _ A L hA5 hb5).mono ?_); rintro e w6 ⟨A2, c2, rfl, hc6, hA6, hB6, hb6⟩))
    go_ret
    exact ⟨rfl, hb6⟩
theorem under_any (s z : List UInt8) (w : World) : Calls Try.prog 21 #[.string (bstr s), .string (bstr z)] w fun e w' => e = .returned (.bool (underL s z)) ∧ Below w.heap.size w w' := by
  have hu : underL s z = (goodL s && goodL z && decide (splitD (foldL z) <:+ splitD (foldL s))) := by
    rw [Bool.eq_iff_iff, underL_iff]
    simp [and_assoc]
  rw [hu]
  have HG := Lib.hid (goodp_any s w)
  cases hs : goodL s
  · rw [hs] at HG
    generalize bstr s = S at *
    generalize bstr z = Z at *
    clear hu hs
    go_enter Try.func21, Try.ntmps21
    go_wp2_with (go_at_call 13; (with_reducible refine HG.out.mono ?_); rintro e w1 ⟨rfl, hb1⟩)
    go_ret
    exact ⟨rfl, hb1⟩
  · cases hz : goodL z
    · rw [hs] at HG
      have HG2 : Hid (∀ W, Below w.heap.size w W → Calls Try.prog 13 #[.string (bstr z)] W fun e w' => e = .returned (.bool false) ∧ Below w.heap.size w w') := Lib.hid (fun W hW => (hz ▸ goodp_any z W).mono (by rintro e w' ⟨rfl, h⟩; exact ⟨rfl, hW.trans (h.mono hW.size)⟩))
      generalize bstr s = S at *
      generalize bstr z = Z at *
      clear hu hs hz
      go_enter Try.func21, Try.ntmps21
      go_wp2_with (first
        | (go_at_call 13; (with_reducible refine HG.out.mono ?_); rintro e w1 ⟨rfl, hb1⟩)
        | (go_at_call 13; (with_reducible refine (HG2.out _ hb1).mono ?_); rintro e w2 ⟨rfl, hb2⟩))
      go_ret
      exact ⟨rfl, hb2⟩
    · exact under_yes s z hs hz w
end Go.Proofs.Ytjiiignbejbiiaa
