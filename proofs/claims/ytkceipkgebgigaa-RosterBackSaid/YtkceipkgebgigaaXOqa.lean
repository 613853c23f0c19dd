/- Walk of RosterBack. Condition: a length that an int holds. -/
import Derived.Test.YtkceipkgebgigaaXInq
import Derived.Test.YtkceipkgebgigaaXOja
namespace Go.Proofs.Ytkceipkgebgigaa
open Go.Shelf Go.RowKit Go.Lib Go.Great
set_option maxRecDepth 100000
set_option maxHeartbeats 400000
theorem rback_dark (A : Option Addr) (c : Nat) (L : List Ins) (Ax : Option Addr) (n cx : Nat) (w : World) (hL : L.length ≤ 9223372036854775807) (hA : IAt w w.heap.size A L) (hd : lightR L = false) :
    Calls Try.prog 10 #[.slice A L.length c, .slice Ax n cx] w fun e w' => e = .returned (.bool true) ∧ Below w.heap.size w w' := by
  have H38 := Lib.hid (light_any A c L w hL hA)
  rw [hd] at H38
  have HLI := Lib.hid rlives_any
  generalize L.length = m at *
  clear hA hd hL
  go_enter Try.func10, Try.ntmps10
  go_wp2_with (first
    | (go_at_call 38; (with_reducible refine H38.out.mono ?_); rintro e w1 ⟨rfl, hb1⟩)
    | (go_at_call 34; (with_reducible refine (HLI.out _).mono ?_); rintro e w2 ⟨rfl, hb2⟩))
  go_ret
  exact ⟨rfl, hb1.trans (hb2.mono hb1.size)⟩
theorem rback_big (A : Option Addr) (c : Nat) (L : List Ins) (Ax : Option Addr) (n cx : Nat) (w : World) (hL : L.length ≤ 9223372036854775807) (hA : IAt w w.heap.size A L) (hd : lightR L = true) (h6 : 6000 < n) :
    Calls Try.prog 10 #[.slice A L.length c, .slice Ax n cx] w fun e w' => e = .returned (.bool true) ∧ Below w.heap.size w w' := by
  have H38 := Lib.hid (light_any A c L w hL hA)
  rw [hd] at H38
  have HLI := Lib.hid rlives_any
  have h6' : (6000 : Int) < (n : Int) := by omega
  generalize L.length = m at *
  clear hA hd hL
  go_enter Try.func10, Try.ntmps10
  go_wp2_with (first
    | (go_at_call 38; (with_reducible refine H38.out.mono ?_); rintro e w1 ⟨rfl, hb1⟩)
    | (go_at_call 34; (with_reducible refine (HLI.out _).mono ?_); rintro e w2 ⟨rfl, hb2⟩))
  go_ret
  exact ⟨rfl, hb1.trans (hb2.mono hb1.size)⟩
theorem rback_small (A : Option Addr) (c : Nat) (L : List Ins) (Ax : Option Addr) (cx : Nat) (xs : List UInt8) (w : World) (hL : L.length ≤ 9223372036854775807) (hA : IAt w w.heap.size A L) (hX : BAt w w.heap.size Ax xs) (hc : xs.length ≤ cx) (hd : lightR L = true) (h6 : xs.length ≤ 6000) :
    Calls Try.prog 10 #[.slice A L.length c, .slice Ax xs.length cx] w fun e w' => e = .returned (.bool true) ∧ Below w.heap.size w w' := by
  have h6' : ¬ (6000 : Int) < (xs.length : Int) := by omega
  have up : ∀ {W W' : World}, Below w.heap.size w W → Below W.heap.size W W' → Below w.heap.size w W' := fun hW hb => hW.trans (hb.mono hW.size)
  have H38 := Lib.hid (light_any A c L w hL hA)
  rw [hd] at H38
  obtain ⟨hlt, hl40⟩ := light_iff hd
  have HLI : Hid (∀ W, Calls Try.prog 34 #[] W fun e w' => e = .returned (.bool true) ∧ Below W.heap.size W w') := Lib.hid rlives_any
  have H45 : Hid (∀ W, Below w.heap.size w W → Calls Try.prog 45 #[.slice A L.length c] W fun e w' => ∃ A1 k1, e = .returned (.tuple #[.slice A1 (byR L).length k1, .int .i64 (errR L)]) ∧ IsB (.slice A1 (byR L).length k1) (byR L) w' ∧ Below w.heap.size w w') := Lib.hid (fun W hW => (rosbytes_any A c L W (fun y hy => by have := hlt y hy; omega) ((hA.below hW).more hW.size)).mono (by
    rintro e w' ⟨v, rfl, ⟨A1, k1, rfl, h1, h2⟩, hb⟩
    exact ⟨A1, k1, rfl, ⟨A1, k1, rfl, h1, h2⟩, up hW hb⟩))
  have HOP : Hid (∀ W, Below w.heap.size w W → Calls Try.prog 28 #[.slice Ax xs.length cx] W fun e w' => ∃ g, e = .returned (.pointer (some ⟨g, 0, none⟩)) ∧ RdrS w' g ⟨xs, false⟩ ∧ Below w.heap.size w w' ∧ w.heap.size ≤ g) := Lib.hid (fun W hW => (open_any Ax cx xs W ((hX.below hW).more hW.size) (by omega)).mono (by
    rintro e w' ⟨g, rfl, hg, hr, hb⟩
    exact ⟨g, rfl, hr, up hW hb, Nat.le_trans hW.size hg⟩))
  obtain ⟨s0, hs0⟩ : ∃ s, s = (⟨xs, false⟩ : St) := ⟨_, rfl⟩
  obtain ⟨K, hK⟩ : ∃ K, K = rosL s0 := ⟨_, rfl⟩
  obtain ⟨s', hs'⟩ : ∃ s, s = rosS s0 := ⟨_, rfl⟩
  have hK16 : K.length ≤ 16 := by rw [hK]; exact rosL_len s0
  have HRD : Hid (∀ W g, Below w.heap.size w W → w.heap.size ≤ g → RdrS W g ⟨xs, false⟩ → Calls Try.prog 36 #[.pointer (some ⟨g, 0, none⟩)] W fun e w' => ∃ A7 c7, e = .returned (.slice A7 K.length c7) ∧ IAt w' w'.heap.size A7 K ∧ RdrS w' g s' ∧ Below w.heap.size w w') := Lib.hid (fun W g hW hg hr => by
    rw [← hs0] at hr
    refine (rosread_any hr.rb (Nat.le_refl _)).mono ?_
    rintro e w' ⟨A7, c7, rfl, hi, hn, hr, hgr⟩
    rw [← hK] at hi ⊢
    rw [← hs'] at hr
    exact ⟨A7, c7, rfl, hi, hr.rs, below_ownB hW hW.size hgr (fun k hk => by injection hk with hk; omega)⟩)
  have HKN : Hid (s'.bad = true → K = []) := Lib.hid (fun h => by rw [hs', hs0] at h; rw [hK, hs0]; exact ros_none h)
  have HKH : s'.bad = false → goodR K = true ∧ xs = byR K ++ s'.ys := fun h => by rw [hs', hs0] at h; rw [hK, hs', hs0]; exact ros_had h
  have HBY : Hid (s'.bad = false → (byR K).length + s'.ys.length = xs.length ∧ xs.take (byR K).length = byR K ∧ errR K = 0 ∧ (byR K).length ≤ cx) := Lib.hid (fun h => by
    obtain ⟨h1, h2⟩ := HKH h
    have h3 := congrArg List.length h2
    rw [List.length_append] at h3
    refine ⟨by omega, ?_, by unfold errR; rw [if_pos h1], by omega⟩
    generalize byR K = B at *
    rw [h2, List.take_left])
  have HKT : ∀ y ∈ K, y.tgt.length ≤ 100000 := by
    rw [hK]
    unfold rosL
    split
    · intro y hy
      have := rosN_tgt _ _ y hy
      omega
    · intro y hy; cases hy
  have H45k : Hid (∀ W A7 c7, Below w.heap.size w W → IAt W W.heap.size A7 K → Calls Try.prog 45 #[.slice A7 K.length c7] W fun e w' => ∃ A1 k1, e = .returned (.tuple #[.slice A1 (byR K).length k1, .int .i64 (errR K)]) ∧ IsB (.slice A1 (byR K).length k1) (byR K) w' ∧ Below w.heap.size w w' ∧ Below W.heap.size W w') := Lib.hid (fun W A7 c7 hW h7 => (rosbytes_any A7 c7 K W HKT h7).mono (by
    rintro e w' ⟨v, rfl, ⟨A1, k1, rfl, h1, h2⟩, hb⟩
    exact ⟨A1, k1, rfl, ⟨A1, k1, rfl, h1, h2⟩, up hW hb, hb⟩))
  have HLF : Hid (∀ W g s, RdrS W g s → Calls Try.prog 31 #[.pointer (some ⟨g, 0, none⟩)] W fun e w' => e = .returned (.int .i64 (s.ys.length : Int)) ∧ w' = W) := Lib.hid (fun W g s hr => (left_any hr).mono (by rintro e w' ⟨rfl, rfl⟩; exact ⟨rfl, rfl⟩))
  have HBD : Hid (∀ W g s, RdrS W g s → Calls Try.prog 33 #[.pointer (some ⟨g, 0, none⟩)] W fun e w' => e = .returned (.bool s.bad) ∧ w' = W) := Lib.hid (fun W g s hr => (bad_any hr).mono (by rintro e w' ⟨rfl, rfl⟩; exact ⟨rfl, rfl⟩))
  obtain ⟨R1, hR1⟩ : ∃ R, R = byR L := ⟨_, rfl⟩
  obtain ⟨N, hN⟩ : ∃ N, N = R1 ++ xs := ⟨_, rfl⟩
  have hRl : R1.length ≤ 20000 := by
    rw [hR1]
    unfold byR
    split
    · have := upR_len L L.length; omega
    · simp
  have hNl : N.length ≤ 900000 := by rw [hN, List.length_append]; omega
  have HN := Lib.hid hN.symm
  have H63 : Hid (([] : List UInt8).length + R1.length ≤ 10000000 ∧ R1.length + xs.length ≤ 10000000) := Lib.hid ⟨by simp; omega, by omega⟩
  have HON : Hid (∀ W A' c', Below w.heap.size w W → W.ownsRow w.heap.size 5 1 (.slice A' N.length c') N.length (bcells N) → Calls Try.prog 28 #[.slice A' N.length c'] W fun e w' => ∃ g, e = .returned (.pointer (some ⟨g, 0, none⟩)) ∧ RdrS w' g ⟨N, false⟩ ∧ Below w.heap.size w w' ∧ w.heap.size ≤ g) := Lib.hid (fun W A' c' hW ho => by
    obtain ⟨A2, c2, e2, hA2, _⟩ := own_bat ho
    injection e2 with e2 _ e3
    subst e2 e3
    refine (open_any A' c' N W hA2 hNl).mono ?_
    rintro e w' ⟨g, rfl, hg, hr, hb⟩
    exact ⟨g, rfl, hr, up hW hb, Nat.le_trans hW.size hg⟩)
  have HRN : Hid (goodR L = true → ∀ W g, Below w.heap.size w W → w.heap.size ≤ g → RdrS W g ⟨N, false⟩ → Calls Try.prog 36 #[.pointer (some ⟨g, 0, none⟩)] W fun e w' => ∃ A7 c7, e = .returned (.slice A7 L.length c7) ∧ IAt w' w'.heap.size A7 L ∧ RdrS w' g ⟨xs, false⟩ ∧ Below w.heap.size w w') := Lib.hid (fun ha W g hW hg hr => by
    obtain ⟨b1, b2⟩ := roster_back ha xs
    rw [hN, hR1] at hr
    refine (rosread_any hr.rb (Nat.le_refl _)).mono ?_
    rintro e w' ⟨A7, c7, rfl, hi, hn, hr, hgr⟩
    rw [b1] at hi ⊢
    rw [b2] at hr
    exact ⟨A7, c7, rfl, hi, hr.rs, below_ownB hW hW.size hgr (fun k hk => by injection hk with hk; omega)⟩)
  have HSM : Hid (∀ W A7 c7 g s, Below w.heap.size w W → IAt W W.heap.size A7 L → RdrS W g s → Calls Try.prog 35 #[.slice A7 L.length c7, .slice A L.length c] W fun e w' => e = .returned (.bool true) ∧ RdrS w' g s ∧ Below w.heap.size w w') := Lib.hid (fun W A7 c7 g s hW h7 hr => by
    have := rsame_any A7 A c7 c L L W (by omega) h7 ((hA.below hW).more hW.size)
    rw [(sameR_iff L L).2 rfl] at this
    refine this.mono ?_
    rintro e w' ⟨rfl, hb⟩
    exact ⟨rfl, hr.below hb (Nat.le_refl _), up hW hb⟩)
  have HSRC : Hid (∀ W v, IsB v R1 W → Src Try.prog 1 30 v R1.length (bcells R1) W) := Lib.hid (fun W v hi => by
    obtain ⟨A', c', rfl, _, hA'⟩ := hi
    exact hA'.src Try.underlying30 c')
  have HSRX : Hid (∀ W, Below w.heap.size w W → Src Try.prog 1 30 (.slice Ax xs.length cx) xs.length (bcells xs) W) := Lib.hid (fun W hW => ((hX.below hW).more hW.size).src Try.underlying30 cx)
  have HNB : Hid (∀ W : World, Below w.heap.size w W → Below w.heap.size w (W.alloc (.cells #[] 5)) ∧ (W.alloc (.cells #[] 5)).ownsRow w.heap.size 5 1 (.slice (some ⟨W.heap.size, 0, none⟩) 0 0) ([] : List UInt8).length (bcells []) ∧ w.heap.size ≤ (W.alloc (.cells #[] 5)).heap.size ∧ ∀ v, IsB v R1 W → IsB v R1 (W.alloc (.cells #[] 5))) := Lib.hid (fun W hW => by
    have hba : Below W.heap.size W (W.alloc (.cells #[] 5)) := (Below.refl _ W).alloc (Nat.le_refl _) _
    have hz := hW.size
    exact ⟨up hW hba, ownNone 5 1 (by omega), by simp; omega, fun v hi => hi.below hba⟩)
  have HGR : Hid (∀ (W W' : World) (v : Value) (L : List UInt8), Below w.heap.size w W → W.ownsRow w.heap.size 5 1 v L.length (bcells L) → W.grownBy W' v.ownBlock → Below w.heap.size w W' ∧ w.heap.size ≤ W'.heap.size) := Lib.hid (fun W W' v L hW ho hg => by
    have hb2 := below_ownB hW hW.size hg (own_block ho)
    exact ⟨hb2, hb2.size⟩)
  have HHD : Hid (∀ W, Below w.heap.size w W → xs.take (byR K).length = byR K → (convert 30 9 (.slice (headA Ax cx) (byR K).length cx)).run Try.prog W = .ok (.string (bstr (byR K))) W) := Lib.hid (fun W hW ht => by
    have hh := ((hX.below hW).more hW.size).head (k := (byR K).length) hc
    rw [ht] at hh
    exact run_convert_bat (P := Try.prog) 30 9 5 cx Try.underlying30 Try.underlying5 Try.underlying9 hh)
  have HEA : Hid (errR L = if goodR L = true then 0 else 2) := Lib.hid rfl
  rw [← hR1] at H45
  obtain ⟨R3, hR3⟩ : ∃ R, R = byR K := ⟨_, rfl⟩
  rw [← hR3] at H45k HBY HHD
  have HXL : Hid (xs.length ≤ 6000) := Lib.hid h6
  clear hd hlt hl40 hs0 hs' hK HKH HKT hR1 hR3 hN hRl hNl hA hX hc h6 hL up
  generalize errR L = ea at *
  generalize errR K = ek at *
  generalize goodR L = ga at *
  obtain ⟨n, hn⟩ : ∃ n, n = xs.length := ⟨_, rfl⟩
  obtain ⟨m, hm⟩ : ∃ n, n = L.length := ⟨_, rfl⟩
  obtain ⟨nl, hnl⟩ : ∃ n, n = K.length := ⟨_, rfl⟩
  obtain ⟨m1, hm1⟩ : ∃ n, n = R1.length := ⟨_, rfl⟩
  obtain ⟨m3, hm3⟩ : ∃ n, n = R3.length := ⟨_, rfl⟩
  obtain ⟨mN, hmN⟩ : ∃ n, n = N.length := ⟨_, rfl⟩
  obtain ⟨ml, hml⟩ : ∃ n, n = s'.ys.length := ⟨_, rfl⟩
  obtain ⟨bb, hbb⟩ : ∃ b, b = s'.bad := ⟨_, rfl⟩
  have HM1 := Lib.hid hm1
  have HMN := Lib.hid hmN.symm
  have HNX := Lib.hid hn
  have HML := Lib.hid hml
  have HM3 := Lib.hid hm3
  have HNL := Lib.hid hnl
  have HBB := Lib.hid hbb
  rw [← hn] at HOP h6' ⊢
  rw [← hm] at H38 H45 HRN HSM ⊢
  rw [← hm1] at H45
  rw [← hmN] at HON
  rw [← hm3] at H45k HHD HBY
  rw [← hnl] at HRD H45k
  rw [← hbb] at HKN HBY
  have HXI : Hid ((xs.length : Int) = (n : Int)) := Lib.hid (by rw [hn])
  clear hm1 hmN hm3 hml hn hm hnl hbb hK16
  go_enter Try.func10, Try.ntmps10
  go_upto_region 3 with (first
    | (go_at_call 38; (with_reducible refine H38.out.mono ?_); rintro e w1 ⟨rfl, hb1⟩))
  clear H38
  cases ga
  · have e1 : ea = 2 := by rw [HEA.out]; rfl
    subst e1
    clear HRN HON HSM HSRC HSRX HNB HGR HEA
    go_upto_region 8 with (first
      | (go_at_call 45; (with_reducible refine (H45.out _ hb1).mono ?_); rintro e w2 ⟨A1, k1, rfl, hi1, hb2⟩))
    clear hi1 H45
    cases bb
    · obtain ⟨hy1, hy2, hy3, hy4⟩ := HBY.out rfl
      subst hy3
      have hy1' : (m3 : Int) + (ml : Int) = (n : Int) := by have := HM3.out; have := HML.out; have := HNX.out; omega
      have hyw : IntKind.i64.wrap ((m3 : Int) + (ml : Int)) = (n : Int) := by rw [hy1', IntKind.wrap]; simp [IntKind.signed, IntKind.bits]; have := HNX.out; have := HXL.out; omega
      have HHD2 : Hid (∀ W, Below w.heap.size w W → (convert 30 9 (.slice (headA Ax cx) m3 cx)).run Try.prog W = .ok (.string (bstr R3)) W) := Lib.hid (fun W hW => HHD.out W hW hy2)
      have HKC2 := Lib.hid hy4
      clear HBY HHD hy1 hy2 hy1' hy4
      go_upto_region 13 with (first
        | (go_at_call 28; (with_reducible refine (HOP.out _ hb2).mono ?_); rintro e w13 ⟨g13, rfl, hr13, hb13, hg13⟩)
        | (go_at_call 36; (with_reducible refine (HRD.out _ _ hb13 hg13 hr13).mono ?_); rintro e w14 ⟨A14, c14, rfl, hi14, hr14, hb14⟩; have hbd := Lib.hid (HBD.out _ _ _ hr14); rw [← HBB.out] at hbd)
        | (go_at_call 33; (with_reducible refine hbd.out.mono ?_); rintro e w15 ⟨rfl, rfl⟩)
        | (go_at_call 45; (with_reducible refine (H45k.out _ _ _ hb14 hi14).mono ?_); rintro e w16 ⟨A16, k16, rfl, hi16, hb16, hb1416⟩))
      (try simp only [Act.put, List.setIfInBounds_toArray, List.set_cons_zero, List.set_cons_succ])
      have hr16 := hr14.below hb1416 (Nat.le_refl _)
      have HZ1 : Hid (∀ m : Kept w16.heap.size w16, (convert 30 9 (.slice A16 m3 k16)).run Try.prog m.val = .ok (.string (bstr R3)) m.val) := Lib.hid (fun m => (hi16.below m.property).conv)
      have HZ2 : Hid (∀ m : Kept w16.heap.size w16, (convert 30 9 (.slice (headA Ax cx) m3 cx)).run Try.prog m.val = .ok (.string (bstr R3)) m.val) := Lib.hid (fun m => HHD2.out _ (hb16.trans (m.property.mono hb16.size)))
      have HQL : Hid (∀ m : Kept w16.heap.size w16, Calls Try.prog 31 #[.pointer (some ⟨g13, 0, none⟩)] m.val fun e w' => e = .returned (.int .i64 (ml : Int)) ∧ Below m.val.heap.size m.val w') := Lib.hid (fun m => (HLF.out _ _ _ (hr16.below m.property (Nat.le_refl _))).mono (by rintro e w' ⟨rfl, rfl⟩; exact ⟨by rw [← HML.out], Below.refl _ _⟩))
      have HB16 := Lib.hid hb16
      clear hr16 hb16 hb1416 hi16 hr13 hr14 hb13 hb14 hg13 hi14 HOP HRD H45k HHD2 HLF hbd HBD
      generalize bstr R3 = BR3 at *
      refine wp_region_kept w16.heap.size w16 (Below.refl _ _) (by kernel_rfl) (by kernel_rfl) ?_
      repeat (first
        | (go_big_quiet_want; (with_reducible refine quiet_convV (o := ⟨some 89, _, _, _, _, _⟩) 30 9 (.tmp 88) rfl _ _ ?_ HZ1.out ?_); rfl; simp only [Act.put, List.setIfInBounds_toArray, List.set_cons_zero, List.set_cons_succ]; go_big_quiet_on)
        | (go_big_quiet_want; (with_reducible refine quiet_convV (o := ⟨some 94, _, _, _, _, _⟩) 30 9 (.tmp 93) rfl _ _ ?_ HZ2.out ?_); rfl; simp only [Act.put, List.setIfInBounds_toArray, List.set_cons_zero, List.set_cons_succ]; go_big_quiet_on)
        | (go_big_quiet_want; (with_reducible refine quiet_headV (o := ⟨some 93, _, _, _, _, _⟩) (.tmp 90) (.tmp 92) rfl Ax n cx m3 ?_ ?_ HKC2.out ?_); rfl; rfl; simp only [Act.put, List.setIfInBounds_toArray, List.set_cons_zero, List.set_cons_succ]; go_big_quiet_on)
        | go_big_quiet_step (first | (go_at_call 31; with_reducible exact kept_ofS (Nat.le_refl _) HQL.out _) | (go_at_call 34; with_reducible exact kept_of (Nat.le_refl _) HLI.out _)))
      refine wpQuiet_nil ?_
      rintro wk ⟨⟨_, hwk⟩, rfl⟩
      go_wp2
      go_ret
      exact ⟨by simp, HB16.out.trans (hwk.mono HB16.out.size)⟩
    · have hnl0 : nl = 0 := by rw [HNL.out, HKN.out rfl]; rfl
      subst hnl0
      clear HBY HHD H45k HKN
      go_wp2_with (first
        | (go_at_call 28; (with_reducible refine (HOP.out _ hb2).mono ?_); rintro e w13 ⟨g13, rfl, hr13, hb13, hg13⟩)
        | (go_at_call 36; (with_reducible refine (HRD.out _ _ hb13 hg13 hr13).mono ?_); rintro e w14 ⟨A14, c14, rfl, hi14, hr14, hb14⟩; have hbd := Lib.hid (HBD.out _ _ _ hr14); rw [← HBB.out] at hbd)
        | (go_at_call 33; (with_reducible refine hbd.out.mono ?_); rintro e w15 ⟨rfl, rfl⟩)
        | (go_at_call 34; (with_reducible refine (HLI.out _).mono ?_); rintro e w16 ⟨rfl, hb16⟩))
      go_ret
      exact ⟨rfl, hb14.trans (hb16.mono hb14.size)⟩
  · have e1 : ea = 0 := by rw [HEA.out]; rfl
    subst e1
    have HRN2 := Lib.hid (HRN.out rfl)
    have hxi := HXI.out
    clear HEA HRN
    go_upto_region 8 with (first
      | (go_at_call 45; (with_reducible refine (H45.out _ hb1).mono ?_); rintro e w2 ⟨A1, k1, rfl, hi1, hb2⟩; have hnb := HNB.out _ hb2)
      | (with_reducible refine wpList_noneB (o := ⟨some 28, _, _, _, _, _⟩) rfl 28 rfl rfl ?_)
      | (at_builtin; (refine wpList_appN (o := ⟨some 30, _, _, _, _, _⟩) rfl 30 rfl (.tmp 28) (.tmp 29) rfl w.heap.size (.slice (some ⟨w2.heap.size, 0, none⟩) 0 0) [] ?_ hnb.2.1 _ R1 ?_ (HSRC.out _ _ (hnb.2.2.2 _ hi1)) H63.out.1 hnb.2.2.1 R1 m1 rfl HM1.out.symm ?_); rfl; rfl; intro A5 c5 w5 ho5 hg5; have hb5 := (HGR.out _ _ _ _ hnb.1 hnb.2.1 hg5).1; have hs5 := (HGR.out _ _ _ _ hnb.1 hnb.2.1 hg5).2)
      | (at_builtin; (refine wpList_appN (o := ⟨some 32, _, _, _, _, _⟩) rfl 32 rfl (.tmp 30) (.tmp 31) rfl w.heap.size (.slice A5 m1 c5) R1 ?_ ho5 (.slice Ax n cx) xs ?_ (by rw [HNX.out]; exact HSRX.out _ hb5) H63.out.2 hs5 N mN HN.out HMN.out ?_); rfl; rfl; intro A6 c6 w6 ho6 hg6; have hb6 := (HGR.out _ _ _ _ hb5 ho5 hg6).1)
      | (go_at_call 28; (with_reducible refine (HON.out _ _ _ hb6 (by rw [← HMN.out]; rw [← HMN.out] at ho6; exact ho6)).mono ?_); rintro e w7 ⟨g7, rfl, hr7, hb7, hg7⟩)
      | (go_at_call 36; (with_reducible refine (HRN2.out _ _ hb7 hg7 hr7).mono ?_); rintro e w8 ⟨A8, c8, rfl, hi8, hr8, hb8⟩)
      | (go_at_call 35; (with_reducible refine (HSM.out _ _ _ _ _ hb8 hi8 hr8).mono ?_); rintro e w9 ⟨rfl, hr9, hb9⟩; have hlf := HLF.out _ _ _ hr9; rw [hxi] at hlf)
      | (go_at_call 31; (with_reducible refine hlf.mono ?_); rintro e w10 ⟨rfl, rfl⟩))
    clear hi1 hnb hs5 hb5 ho5 hg5 ho6 hg6 hb6 hr7 hb7 hg7 hi8 hr8 hb8 hr9 hlf HRN2 H45 HSM HON HSRC HSRX HNB HGR
    cases bb
    · obtain ⟨hy1, hy2, hy3, hy4⟩ := HBY.out rfl
      subst hy3
      have hy1' : (m3 : Int) + (ml : Int) = (n : Int) := by have := HM3.out; have := HML.out; have := HNX.out; omega
      have hyw : IntKind.i64.wrap ((m3 : Int) + (ml : Int)) = (n : Int) := by rw [hy1', IntKind.wrap]; simp [IntKind.signed, IntKind.bits]; have := HNX.out; have := HXL.out; omega
      have HHD2 : Hid (∀ W, Below w.heap.size w W → (convert 30 9 (.slice (headA Ax cx) m3 cx)).run Try.prog W = .ok (.string (bstr R3)) W) := Lib.hid (fun W hW => HHD.out W hW hy2)
      have HKC2 := Lib.hid hy4
      clear HBY HHD hy1 hy2 hy1' hy4
      go_upto_region 13 with (first
        | (go_at_call 28; (with_reducible refine (HOP.out _ hb9).mono ?_); rintro e w13 ⟨g13, rfl, hr13, hb13, hg13⟩)
        | (go_at_call 36; (with_reducible refine (HRD.out _ _ hb13 hg13 hr13).mono ?_); rintro e w14 ⟨A14, c14, rfl, hi14, hr14, hb14⟩; have hbd := Lib.hid (HBD.out _ _ _ hr14); rw [← HBB.out] at hbd)
        | (go_at_call 33; (with_reducible refine hbd.out.mono ?_); rintro e w15 ⟨rfl, rfl⟩)
        | (go_at_call 45; (with_reducible refine (H45k.out _ _ _ hb14 hi14).mono ?_); rintro e w16 ⟨A16, k16, rfl, hi16, hb16, hb1416⟩))
      (try simp only [Act.put, List.setIfInBounds_toArray, List.set_cons_zero, List.set_cons_succ])
      have hr16 := hr14.below hb1416 (Nat.le_refl _)
      have HZ1 : Hid (∀ m : Kept w16.heap.size w16, (convert 30 9 (.slice A16 m3 k16)).run Try.prog m.val = .ok (.string (bstr R3)) m.val) := Lib.hid (fun m => (hi16.below m.property).conv)
      have HZ2 : Hid (∀ m : Kept w16.heap.size w16, (convert 30 9 (.slice (headA Ax cx) m3 cx)).run Try.prog m.val = .ok (.string (bstr R3)) m.val) := Lib.hid (fun m => HHD2.out _ (hb16.trans (m.property.mono hb16.size)))
      have HQL : Hid (∀ m : Kept w16.heap.size w16, Calls Try.prog 31 #[.pointer (some ⟨g13, 0, none⟩)] m.val fun e w' => e = .returned (.int .i64 (ml : Int)) ∧ Below m.val.heap.size m.val w') := Lib.hid (fun m => (HLF.out _ _ _ (hr16.below m.property (Nat.le_refl _))).mono (by rintro e w' ⟨rfl, rfl⟩; exact ⟨by rw [← HML.out], Below.refl _ _⟩))
      have HB16 := Lib.hid hb16
      clear hr16 hb16 hb1416 hi16 hr13 hr14 hb13 hb14 hg13 hi14 HOP HRD H45k HHD2 HLF hbd HBD
      generalize bstr R3 = BR3 at *
      refine wp_region_kept w16.heap.size w16 (Below.refl _ _) (by kernel_rfl) (by kernel_rfl) ?_
      repeat (first
        | (go_big_quiet_want; (with_reducible refine quiet_convV (o := ⟨some 89, _, _, _, _, _⟩) 30 9 (.tmp 88) rfl _ _ ?_ HZ1.out ?_); rfl; simp only [Act.put, List.setIfInBounds_toArray, List.set_cons_zero, List.set_cons_succ]; go_big_quiet_on)
        | (go_big_quiet_want; (with_reducible refine quiet_convV (o := ⟨some 94, _, _, _, _, _⟩) 30 9 (.tmp 93) rfl _ _ ?_ HZ2.out ?_); rfl; simp only [Act.put, List.setIfInBounds_toArray, List.set_cons_zero, List.set_cons_succ]; go_big_quiet_on)
        | (go_big_quiet_want; (with_reducible refine quiet_headV (o := ⟨some 93, _, _, _, _, _⟩) (.tmp 90) (.tmp 92) rfl Ax n cx m3 ?_ ?_ HKC2.out ?_); rfl; rfl; simp only [Act.put, List.setIfInBounds_toArray, List.set_cons_zero, List.set_cons_succ]; go_big_quiet_on)
        | go_big_quiet_step (first | (go_at_call 31; with_reducible exact kept_ofS (Nat.le_refl _) HQL.out _) | (go_at_call 34; with_reducible exact kept_of (Nat.le_refl _) HLI.out _)))
      refine wpQuiet_nil ?_
      rintro wk ⟨⟨_, hwk⟩, rfl⟩
      go_wp2
      go_ret
      exact ⟨by simp, HB16.out.trans (hwk.mono HB16.out.size)⟩
    · have hnl0 : nl = 0 := by rw [HNL.out, HKN.out rfl]; rfl
      subst hnl0
      clear HBY HHD H45k HKN
      go_wp2_with (first
        | (go_at_call 28; (with_reducible refine (HOP.out _ hb9).mono ?_); rintro e w13 ⟨g13, rfl, hr13, hb13, hg13⟩)
        | (go_at_call 36; (with_reducible refine (HRD.out _ _ hb13 hg13 hr13).mono ?_); rintro e w14 ⟨A14, c14, rfl, hi14, hr14, hb14⟩; have hbd := Lib.hid (HBD.out _ _ _ hr14); rw [← HBB.out] at hbd)
        | (go_at_call 33; (with_reducible refine hbd.out.mono ?_); rintro e w15 ⟨rfl, rfl⟩)
        | (go_at_call 34; (with_reducible refine (HLI.out _).mono ?_); rintro e w16 ⟨rfl, hb16⟩))
      go_ret
      exact ⟨rfl, hb14.trans (hb16.mono hb14.size)⟩
theorem rback_walk (A : Option Addr) (c : Nat) (L : List Ins) (Ax : Option Addr) (cx : Nat) (xs : List UInt8) (w : World) (hL : L.length ≤ 9223372036854775807) (hA : IAt w w.heap.size A L) (hX : BAt w w.heap.size Ax xs) (hc : xs.length ≤ cx) :
    Calls Try.prog 10 #[.slice A L.length c, .slice Ax xs.length cx] w fun e w' => e = .returned (.bool true) ∧ Below w.heap.size w w' := by
  cases hd : lightR L with
  | false => exact rback_dark A c L Ax xs.length cx w hL hA hd
  | true =>
    by_cases h6 : 6000 < xs.length
    · exact rback_big A c L Ax xs.length cx w hL hA hd h6
    · exact rback_small A c L Ax cx xs w hL hA hX hc hd (by omega)
end Go.Proofs.Ytkceipkgebgigaa
