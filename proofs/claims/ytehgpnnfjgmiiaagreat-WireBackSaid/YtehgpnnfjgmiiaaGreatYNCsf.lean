/- Contract of symMergeCmpFunc of package slices, at contacts: what is sorted in two parts is merged, in order. Conditions: fewer than 2^62 of them; the comparison is that of a key. -/
import Derived.Test.YtehgpnnfjgmiiaaGreatYOja
import Derived.Test.YtehgpnnfjgmiiaaGreatYOcb
import Derived.Test.YtehgpnnfjgmiiaaGreatYOga
import Derived.Test.YtehgpnnfjgmiiaaGreatYRIis
import Derived.Test.YtehgpnnfjgmiiaaGreatYRERefc
import Derived.Test.YtehgpnnfjgmiiaaGreatYRIip
import Derived.Test.YtehgpnnfjgmiiaaGreatYREOcta
import Derived.Test.YtehgpnnfjgmiiaaGreatYNCse
namespace Go.Proofs.YtehgpnnfjgmiiaaGreat
set_option maxRecDepth 100000
open Go.Shelf Go.RowKit Go.Lib Go.Sort
set_option maxRecDepth 1000000
set_option maxHeartbeats 4000000
section
variable {α : Type} [Inhabited α]
theorem symm_any (k : Nat) (aE : ∀ w, (isAgg 63).run Tryz.prog w = .ok true w) (zE : ∀ w, (Go.sizeOf 63).run Tryz.prog w = .ok k w) (enc : α → List Value) (cf : α → α → Int) (key : α → Nat) (hcf : ∀ x y, cf x y < 0 ↔ key x < key y) (g : Nat) (cb : Array Value) (blk off cap : Nat) (d0 : Array α) (w0 : World)
    (eg : ∀ args w, (callFunc g args).run Tryz.prog w = .ok (.enter g args) w) (hcmp : CmpLays Tryz.prog g cb enc k cf blk off d0.size w0) (R : RowK enc k w0 blk off d0) :
    ∀ (n a m b : Nat) (d : Array α) (w : World), b - a = n → d.size = d0.size → SWK enc k w0 blk off d w → a < m → m < b → b ≤ d.size → d.size < 4611686018427387904 → AscN key a m d → AscN key m b d →
    Calls Tryz.prog 135 #[.slice (some ⟨blk, off, none⟩) d.size cap, .int .i64 a, .int .i64 m, .int .i64 b, .func (.func g) #[] cb] w fun e w' => e = .returned (.tuple #[]) ∧ ∃ d', Stb key a b d d' ∧ AscN key a b d' ∧ SWK enc k w0 blk off d' w' := by
  intro n
  induction n using Nat.strongRecOn with
  | ind n ih =>
    intro a m b d w hn hs S ham hmb hb hsz h1 h2
    by_cases hm1 : m = a + 1
    · subst hm1
      exact symm_up k aE zE enc cf key hcf g cb blk off cap d0 w0 eg hcmp R a b d w hs S hmb hb hsz h2
    by_cases hb1 : b = m + 1
    · subst hb1
      exact symm_down k aE zE enc cf key hcf g cb blk off cap d0 w0 eg hcmp R a m d w hs S (by omega) hb hsz h1
    have mixed : Tryz.prog.follows Departure.mixedOrders = true := by kernel_rfl
    have HC : Aside (CmpLays Tryz.prog g cb enc k cf blk off d0.size w0) := hcmp
    have HCF : Aside (∀ x y, cf x y < 0 ↔ key x < key y) := hcf
    have HDS : Aside (d.size = d0.size) := hs
    have HSZ : Aside (d.size = d0.size) := hs
    have S8 : Aside (SWK enc k w0 blk off d w) := S
    clear S hs hcmp hcf
    have HIH := Lib.hid ih
    have HA1 : Aside (AscN key a m d) := h1
    have HA2 : Aside (AscN key m b d) := h2
    have hq1 : ((m : Int) - (a : Int) == 1) = false := by simp; omega
    have hq2 : ((b : Int) - (m : Int) == 1) = false := by simp; omega
    clear h1 h2 ih
    go_enter Tryz.func135, Tryz.ntmps135
    go_upto_region 25 with fail
    obtain ⟨M, hM⟩ : ∃ M : Nat, M = (a + b) / 2 := ⟨_, rfl⟩
    have hMe : ((a : Int) + (b : Int)) / 2 = (M : Int) := by omega
    rw [hMe]
    have hM1 : a < M := by omega
    have hM2 : M < b := by omega
    have hM3 : 2 * M ≤ a + b := by omega
    have hM4 : a + b ≤ 2 * M + 1 := by omega
    clear hMe hM
    go_upto_region 26 with fail
    obtain ⟨N, hN⟩ : ∃ N : Nat, N = M + m := ⟨_, rfl⟩
    have hNe : (M : Int) + (m : Int) = (N : Int) := by omega
    rw [hNe]
    have hN' : N ≤ M + m := by omega
    have hN'' : M + m ≤ N := by omega
    clear hNe hN
    by_cases hmM : M < m
    · have hmz : (M : Int) < (m : Int) := by omega
      go_upto_region 33 with fail
      obtain ⟨lo, hlo⟩ : ∃ lo : Nat, lo = N - b := ⟨_, rfl⟩
      obtain ⟨r0, hr0⟩ : ∃ r0 : Nat, r0 = M := ⟨_, rfl⟩
      have hlo' : lo ≤ N - b := by omega
      have hlo'' : N - b ≤ lo := by omega
      have hr0' : r0 ≤ M := by omega
      have hr0'' : M ≤ r0 := by omega
      clear hlo hr0
      have S9 : Aside (SWK enc k w0 blk off d w) := S8
      clear S8
      go_loopg [20, 21] (r0 - lo) (fun kx s20 s21 wr => ∃ (s r : Nat), s20 = .int .i64 s ∧ s21 = .int .i64 r ∧ lo ≤ s ∧ s ≤ r ∧ r ≤ r0 ∧ r - s ≤ kx ∧ (s = lo ∨ key d[s - 1]! ≤ key d[N - s]!) ∧ (r = r0 ∨ key d[N - 1 - r]! < key d[r]!) ∧ Aside (SWK enc k w0 blk off d wr))
      case atStart => exact ⟨lo, r0, by first | rfl | (congr 1; omega), by first | rfl | (congr 1; omega), Nat.le_refl _, by omega, Nat.le_refl _, Nat.le_refl _, .inl rfl, .inl rfl, S9⟩
      case round =>
        clear S9
        obtain ⟨s, r, rfl, rfl, hls, hsr, hrr, hkx, hlo1, hhi1, S1⟩ := hrel
        have HLO : Aside (s = lo ∨ key d[s - 1]! ≤ key d[N - s]!) := hlo1
        have HHI : Aside (r = r0 ∨ key d[N - 1 - r]! < key d[r]!) := hhi1
        clear hlo1 hhi1
        by_cases hlt : s < r
        · have hltz : (s : Int) < (r : Int) := by omega
          go_upto_region 35 with fail
          obtain ⟨c, hh⟩ : ∃ c : Nat, c = (s + r) / 2 := ⟨_, rfl⟩
          have he : ((s : Int) + (r : Int)) / 2 = (c : Int) := by omega
          have h1 : s ≤ c := by omega
          have h3 : c < r := by omega
          rw [he]
          clear he hh
          obtain ⟨z, hz⟩ : ∃ z : Nat, z = N - 1 - c := ⟨_, rfl⟩
          have hsub : (N : Int) - 1 - (c : Int) = (z : Int) := by omega
          have hz' : z + c + 1 ≤ N := by omega
          have hz'' : N ≤ z + c + 1 := by omega
          have HZ : Aside (z = N - 1 - c) := hz
          clear hz
          have ex : ((z : Int)).toNat = z := by omega
          have px : (0 : Int) ≤ (z : Int) := by omega
          have bdx : (z : Int) < (d.size : Int) := by omega
          have rx : IntKind.i64.wrap ((z : Int)) = (z : Int) := by rw [IntKind.wrap_i64]; omega
          have ey : ((c : Int)).toNat = c := by omega
          have py : (0 : Int) ≤ (c : Int) := by omega
          have bdy : (c : Int) < (d.size : Int) := by omega
          have ry : IntKind.i64.wrap ((c : Int)) = (c : Int) := by rw [IntKind.wrap_i64]; omega
          obtain ⟨x, hx⟩ : ∃ x, x = d[z]! := ⟨_, rfl⟩
          obtain ⟨y, hy⟩ : ∃ x, x = d[c]! := ⟨_, rfl⟩
          have lx := S1.out.ld R HDS.out Tryz.prog (z) (by omega)
          have ly := S1.out.ld R HDS.out Tryz.prog (c) (by omega)
          rw [← hx] at lx
          rw [← hy] at ly
          have hc := S1.out.cmp HC.out HSZ.out x y
          have hcf := HCF.out x y
          have HX : Aside (x = d[z]! ∧ y = d[c]!) := ⟨hx, hy⟩
          have S0 : Aside (∀ nq osq, SWK enc k w0 blk off d (grow (wr.drewN nq) osq)) := fun nq osq => S1.out.grown nq osq
          clear hx hy S1
          by_cases hv : cf x y < 0
          · have HV : Aside (key x < key y) := HCF.out x y |>.1 hv
            have hdv : decide (cf x y < 0) = true := decide_eq_true hv
            clear hcf
            go_wp2_with fail
            go_quiet_grown (first | (go_at_fn g; refine Calls.grown_of (hc _ _)))
            have S2 := S0.out nq osq
            clear lx ly hc S0
            generalize grow (wr.drewN nq) osq = w2 at S2 ⊢
            go_wp2
            go_roundg (c - s)
            case measure => omega
            case rel => exact ⟨s, c, rfl, rfl, by omega, by omega, by omega, Nat.le_refl _, HLO.out, .inr (by rw [← HZ.out, ← HX.out.1, ← HX.out.2]; exact HV.out), S2⟩
          · have HV : Aside (key y ≤ key x) := Nat.le_of_not_lt (fun q => hv ((HCF.out x y).2 q))
            have hdv : decide (cf x y < 0) = false := decide_eq_false hv
            clear hcf
            go_wp2_with fail
            go_quiet_grown (first | (go_at_fn g; refine Calls.grown_of (hc _ _)))
            have S2 := S0.out nq osq
            clear lx ly hc S0
            generalize grow (wr.drewN nq) osq = w2 at S2 ⊢
            go_wp2
            go_roundg (r - (c + 1))
            case measure => omega
            case rel => exact ⟨c + 1, r, by go_num, rfl, by omega, by omega, by omega, Nat.le_refl _, .inr (by rw [Nat.add_sub_cancel, show N - (c + 1) = N - 1 - c by omega, ← HZ.out, ← HX.out.1, ← HX.out.2]; exact HV.out), HHI.out, S2⟩
        · obtain rfl : s = r := by omega
          have hltz : ¬ (s : Int) < (s : Int) := by omega
          obtain ⟨e, hee0⟩ : ∃ e : Nat, e = N - s := ⟨_, rfl⟩
          have hee' : e + s ≤ N := by omega
          have hee'' : N ≤ e + s := by omega
          clear hee0
          have he1 : s ≤ m := by omega
          have he2 : m ≤ e := by omega
          have he3 : e ≤ b := by omega
          have he4 : a ≤ s := by omega
          have HMID : Hid (∀ d1, RotIs d s m e d1 → Stb key a b d d1 ∧ AscN key a s d1 ∧ AscN key s M d1 ∧ AscN key M e d1 ∧ AscN key e b d1 ∧ ∀ i j, a ≤ i → i < M → M ≤ j → j < b → key d1[i]! ≤ key d1[j]!) := by
            refine Lib.hid (fun d1 hr => ?_)
            have := merge_mid (s := s) (e := e) HA1.out HA2.out he4 he1 he2 he3 (by
              rcases HLO.out with h | h
              · omega
              · right; right; rw [show e = N - s by omega]; exact h) (by
              rcases HHI.out with h | h
              · omega
              · right; right; rw [show e - 1 = N - 1 - s by omega]; exact h) hr
            rw [show s + (e - m) = M by omega] at this
            exact this
          go_upto_region 39 with fail
          have hee2 : (N : Int) - (s : Int) = (e : Int) := by omega
          rw [hee2]
          clear hee2 hltz HLO HHI
          have HRO : Hid (s < m → m < e → Calls Tryz.prog 141 #[.slice (some ⟨blk, off, none⟩) d.size cap, .int .i64 s, .int .i64 m, .int .i64 e, .func (.func g) #[] cb] wr fun x w' => x = .returned (.tuple #[]) ∧ ∃ d', RotIs d s m e d' ∧ SWK enc k w0 blk off d' w') := Lib.hid (fun h1 h2 => rotate_any k aE zE enc _ blk off cap s m e d0 d w0 wr R HDS.out S1.out h1 h2 (by omega) hsz)
          have HM1 : Hid (∀ d1 w2, RotIs d s m e d1 → SWK enc k w0 blk off d1 w2 → a < s → s < M → Calls Tryz.prog 135 #[.slice (some ⟨blk, off, none⟩) d.size cap, .int .i64 a, .int .i64 s, .int .i64 M, .func (.func g) #[] cb] w2 fun x w' => x = .returned (.tuple #[]) ∧ ∃ d2, Stb key a M d1 d2 ∧ AscN key a M d2 ∧ SWK enc k w0 blk off d2 w') := by
            refine Lib.hid (fun d1 w2 hr S2 h1 h2 => ?_)
            obtain ⟨_, g1, g2, _⟩ := HMID.out d1 hr
            have := HIH.out (M - a) (by omega) a s M d1 w2 rfl (hr.size.trans HDS.out) S2 h1 h2 (by rw [hr.size]; omega) (by rw [hr.size]; exact hsz) g1 g2
            rw [hr.size] at this
            exact this
          have HM2 : Hid (∀ d1 d2 w3, RotIs d s m e d1 → Stb key a M d1 d2 → SWK enc k w0 blk off d2 w3 → M < e → e < b → Calls Tryz.prog 135 #[.slice (some ⟨blk, off, none⟩) d.size cap, .int .i64 M, .int .i64 e, .int .i64 b, .func (.func g) #[] cb] w3 fun x w' => x = .returned (.tuple #[]) ∧ ∃ d3, Stb key M b d2 d3 ∧ AscN key M b d3 ∧ SWK enc k w0 blk off d3 w') := by
            refine Lib.hid (fun d1 d2 w3 hr st S3 h1 h2 => ?_)
            obtain ⟨_, _, _, g3, g4, _⟩ := HMID.out d1 hr
            have := HIH.out (b - M) (by omega) M e b d2 w3 rfl ((st.size.trans hr.size).trans HDS.out) S3 h1 h2 (by rw [st.size, hr.size]; exact hb) (by rw [st.size, hr.size]; exact hsz) (g3.congr (fun q h _ => st.out q (by omega))) (g4.congr (fun q h _ => st.out q (by omega)))
            rw [st.size, hr.size] at this
            exact this
          have HFIN : Hid (∀ d1 d2 d3, RotIs d s m e d1 → (Stb key a M d1 d2 ∧ (a < s ∧ s < M ∨ d2 = d1) ∧ (a < s → s < M → AscN key a M d2)) → (Stb key M b d2 d3 ∧ (M < e ∧ e < b ∨ d3 = d2) ∧ (M < e → e < b → AscN key M b d3)) → Stb key a b d d3 ∧ AscN key a b d3) := by
            refine Lib.hid (fun d1 d2 d3 hr st1 st2 => ?_)
            obtain ⟨g0, g1, g2, g3, g4, g5⟩ := HMID.out d1 hr
            have k1 : AscN key a M d2 := by
              rcases st1.2.1 with h | h
              · exact st1.2.2 h.1 h.2
              · subst h
                by_cases h1 : a < s
                · by_cases h2 : s < M
                  · exact st1.2.2 h1 h2
                  · exact g1.sub (Nat.le_refl _) (by omega)
                · exact g2.sub (by omega) (Nat.le_refl _)
            have k2 : AscN key M b d3 := by
              rcases st2.2.1 with h | h
              · exact st2.2.2 h.1 h.2
              · subst h
                by_cases h1 : M < e
                · by_cases h2 : e < b
                  · exact st2.2.2 h1 h2
                  · exact (g3.congr (fun q h _ => st1.1.out q (by omega))).sub (Nat.le_refl _) (by omega)
                · exact (g4.congr (fun q h _ => st1.1.out q (by omega))).sub (by omega) (Nat.le_refl _)
            obtain ⟨f1, f2⟩ := merge_fin (by omega) (by omega) g5 st1.1 k1 st2.1 k2
            exact ⟨g0.trans f1, f2⟩
          have HSW : Aside (SWK enc k w0 blk off d wr) := S1
          have HRF : Aside (¬ (s < m ∧ m < e) → RotIs d s m e d) := fun h => by
            by_cases h1 : s = m
            · subst h1; exact RotIs.refl d s e (by omega)
            · obtain rfl : e = m := by omega
              exact RotIs.refl' d s e
          clear S1 HIH HMID
          by_cases h1 : s < m
          · by_cases h2 : m < e
            · have z1 : (s : Int) < (m : Int) := by omega
              have z2 : (m : Int) < (e : Int) := by omega
              by_cases h3 : a < s
              · by_cases h4 : s < M
                · have z3 : (a : Int) < (s : Int) := by omega
                  have z4 : (s : Int) < (M : Int) := by omega
                  by_cases h5 : M < e
                  · by_cases h6 : e < b
                    · have z5 : (M : Int) < (e : Int) := by omega
                      have z6 : (e : Int) < (b : Int) := by omega
                      go_wp2_with (first
                        | (go_at_call 141; (with_reducible refine (HRO.out h1 h2).mono ?_); rintro e2 w2 ⟨rfl, d1, hr1, S2⟩)
                        | (go_at_call 135; (with_reducible refine (HM1.out d1 _ hr1 S2 h3 h4).mono ?_); rintro e3 w3 ⟨rfl, d2, hst2, hasc2, S3⟩)
                        | (go_at_call 135; (with_reducible refine (HM2.out d1 d2 _ hr1 hst2 S3 h5 h6).mono ?_); rintro e4 w4 ⟨rfl, d3, hst3, hasc3, S4⟩))
                      go_end0
                      obtain ⟨f1, f2⟩ := HFIN.out d1 d2 d3 hr1 ⟨hst2, .inl ⟨h3, h4⟩, fun _ _ => hasc2⟩ ⟨hst3, .inl ⟨h5, h6⟩, fun _ _ => hasc3⟩
                      exact ⟨rfl, d3, f1, f2, S4⟩
                    · have z5 : (M : Int) < (e : Int) := by omega
                      have z6 : ¬ (e : Int) < (b : Int) := by omega
                      go_wp2_with (first
                        | (go_at_call 141; (with_reducible refine (HRO.out h1 h2).mono ?_); rintro e2 w2 ⟨rfl, d1, hr1, S2⟩)
                        | (go_at_call 135; (with_reducible refine (HM1.out d1 _ hr1 S2 h3 h4).mono ?_); rintro e3 w3 ⟨rfl, d2, hst2, hasc2, S3⟩))
                      go_end0
                      obtain ⟨f1, f2⟩ := HFIN.out d1 d2 d2 hr1 ⟨hst2, .inl ⟨h3, h4⟩, fun _ _ => hasc2⟩ ⟨Stb.refl _ _ _ _, .inr rfl, fun h h' => by omega⟩
                      exact ⟨rfl, d2, f1, f2, S3⟩
                  · have z5 : ¬ (M : Int) < (e : Int) := by omega
                    go_wp2_with (first
                      | (go_at_call 141; (with_reducible refine (HRO.out h1 h2).mono ?_); rintro e2 w2 ⟨rfl, d1, hr1, S2⟩)
                      | (go_at_call 135; (with_reducible refine (HM1.out d1 _ hr1 S2 h3 h4).mono ?_); rintro e3 w3 ⟨rfl, d2, hst2, hasc2, S3⟩))
                    go_end0
                    obtain ⟨f1, f2⟩ := HFIN.out d1 d2 d2 hr1 ⟨hst2, .inl ⟨h3, h4⟩, fun _ _ => hasc2⟩ ⟨Stb.refl _ _ _ _, .inr rfl, fun h h' => by omega⟩
                    exact ⟨rfl, d2, f1, f2, S3⟩
                · have z3 : (a : Int) < (s : Int) := by omega
                  have z4 : ¬ (s : Int) < (M : Int) := by omega
                  by_cases h5 : M < e
                  · by_cases h6 : e < b
                    · have z5 : (M : Int) < (e : Int) := by omega
                      have z6 : (e : Int) < (b : Int) := by omega
                      go_wp2_with (first
                        | (go_at_call 141; (with_reducible refine (HRO.out h1 h2).mono ?_); rintro e2 w2 ⟨rfl, d1, hr1, S2⟩)
                        | (go_at_call 135; (with_reducible refine (HM2.out d1 d1 _ hr1 (Stb.refl _ _ _ _) S2 h5 h6).mono ?_); rintro e4 w4 ⟨rfl, d3, hst3, hasc3, S4⟩))
                      go_end0
                      obtain ⟨f1, f2⟩ := HFIN.out d1 d1 d3 hr1 ⟨Stb.refl _ _ _ _, .inr rfl, fun h h' => by omega⟩ ⟨hst3, .inl ⟨h5, h6⟩, fun _ _ => hasc3⟩
                      exact ⟨rfl, d3, f1, f2, S4⟩
                    · have z5 : (M : Int) < (e : Int) := by omega
                      have z6 : ¬ (e : Int) < (b : Int) := by omega
                      go_wp2_with (first
                        | (go_at_call 141; (with_reducible refine (HRO.out h1 h2).mono ?_); rintro e2 w2 ⟨rfl, d1, hr1, S2⟩))
                      go_end0
                      obtain ⟨f1, f2⟩ := HFIN.out d1 d1 d1 hr1 ⟨Stb.refl _ _ _ _, .inr rfl, fun h h' => by omega⟩ ⟨Stb.refl _ _ _ _, .inr rfl, fun h h' => by omega⟩
                      exact ⟨rfl, d1, f1, f2, S2⟩
                  · have z5 : ¬ (M : Int) < (e : Int) := by omega
                    go_wp2_with (first
                      | (go_at_call 141; (with_reducible refine (HRO.out h1 h2).mono ?_); rintro e2 w2 ⟨rfl, d1, hr1, S2⟩))
                    go_end0
                    obtain ⟨f1, f2⟩ := HFIN.out d1 d1 d1 hr1 ⟨Stb.refl _ _ _ _, .inr rfl, fun h h' => by omega⟩ ⟨Stb.refl _ _ _ _, .inr rfl, fun h h' => by omega⟩
                    exact ⟨rfl, d1, f1, f2, S2⟩
              · have z3 : ¬ (a : Int) < (s : Int) := by omega
                by_cases h5 : M < e
                · by_cases h6 : e < b
                  · have z5 : (M : Int) < (e : Int) := by omega
                    have z6 : (e : Int) < (b : Int) := by omega
                    go_wp2_with (first
                      | (go_at_call 141; (with_reducible refine (HRO.out h1 h2).mono ?_); rintro e2 w2 ⟨rfl, d1, hr1, S2⟩)
                      | (go_at_call 135; (with_reducible refine (HM2.out d1 d1 _ hr1 (Stb.refl _ _ _ _) S2 h5 h6).mono ?_); rintro e4 w4 ⟨rfl, d3, hst3, hasc3, S4⟩))
                    go_end0
                    obtain ⟨f1, f2⟩ := HFIN.out d1 d1 d3 hr1 ⟨Stb.refl _ _ _ _, .inr rfl, fun h h' => by omega⟩ ⟨hst3, .inl ⟨h5, h6⟩, fun _ _ => hasc3⟩
                    exact ⟨rfl, d3, f1, f2, S4⟩
                  · have z5 : (M : Int) < (e : Int) := by omega
                    have z6 : ¬ (e : Int) < (b : Int) := by omega
                    go_wp2_with (first
                      | (go_at_call 141; (with_reducible refine (HRO.out h1 h2).mono ?_); rintro e2 w2 ⟨rfl, d1, hr1, S2⟩))
                    go_end0
                    obtain ⟨f1, f2⟩ := HFIN.out d1 d1 d1 hr1 ⟨Stb.refl _ _ _ _, .inr rfl, fun h h' => by omega⟩ ⟨Stb.refl _ _ _ _, .inr rfl, fun h h' => by omega⟩
                    exact ⟨rfl, d1, f1, f2, S2⟩
                · have z5 : ¬ (M : Int) < (e : Int) := by omega
                  go_wp2_with (first
                    | (go_at_call 141; (with_reducible refine (HRO.out h1 h2).mono ?_); rintro e2 w2 ⟨rfl, d1, hr1, S2⟩))
                  go_end0
                  obtain ⟨f1, f2⟩ := HFIN.out d1 d1 d1 hr1 ⟨Stb.refl _ _ _ _, .inr rfl, fun h h' => by omega⟩ ⟨Stb.refl _ _ _ _, .inr rfl, fun h h' => by omega⟩
                  exact ⟨rfl, d1, f1, f2, S2⟩
            · have z1 : (s : Int) < (m : Int) := by omega
              have z2 : ¬ (m : Int) < (e : Int) := by omega
              by_cases h3 : a < s
              · by_cases h4 : s < M
                · have z3 : (a : Int) < (s : Int) := by omega
                  have z4 : (s : Int) < (M : Int) := by omega
                  by_cases h5 : M < e
                  · by_cases h6 : e < b
                    · have z5 : (M : Int) < (e : Int) := by omega
                      have z6 : (e : Int) < (b : Int) := by omega
                      go_wp2_with (first
                        | (go_at_call 135; (with_reducible refine (HM1.out d _ (HRF.out (by omega)) HSW.out h3 h4).mono ?_); rintro e3 w3 ⟨rfl, d2, hst2, hasc2, S3⟩)
                        | (go_at_call 135; (with_reducible refine (HM2.out d d2 _ (HRF.out (by omega)) hst2 S3 h5 h6).mono ?_); rintro e4 w4 ⟨rfl, d3, hst3, hasc3, S4⟩))
                      go_end0
                      obtain ⟨f1, f2⟩ := HFIN.out d d2 d3 (HRF.out (by omega)) ⟨hst2, .inl ⟨h3, h4⟩, fun _ _ => hasc2⟩ ⟨hst3, .inl ⟨h5, h6⟩, fun _ _ => hasc3⟩
                      exact ⟨rfl, d3, f1, f2, S4⟩
                    · have z5 : (M : Int) < (e : Int) := by omega
                      have z6 : ¬ (e : Int) < (b : Int) := by omega
                      go_wp2_with (first
                        | (go_at_call 135; (with_reducible refine (HM1.out d _ (HRF.out (by omega)) HSW.out h3 h4).mono ?_); rintro e3 w3 ⟨rfl, d2, hst2, hasc2, S3⟩))
                      go_end0
                      obtain ⟨f1, f2⟩ := HFIN.out d d2 d2 (HRF.out (by omega)) ⟨hst2, .inl ⟨h3, h4⟩, fun _ _ => hasc2⟩ ⟨Stb.refl _ _ _ _, .inr rfl, fun h h' => by omega⟩
                      exact ⟨rfl, d2, f1, f2, S3⟩
                  · have z5 : ¬ (M : Int) < (e : Int) := by omega
                    go_wp2_with (first
                      | (go_at_call 135; (with_reducible refine (HM1.out d _ (HRF.out (by omega)) HSW.out h3 h4).mono ?_); rintro e3 w3 ⟨rfl, d2, hst2, hasc2, S3⟩))
                    go_end0
                    obtain ⟨f1, f2⟩ := HFIN.out d d2 d2 (HRF.out (by omega)) ⟨hst2, .inl ⟨h3, h4⟩, fun _ _ => hasc2⟩ ⟨Stb.refl _ _ _ _, .inr rfl, fun h h' => by omega⟩
                    exact ⟨rfl, d2, f1, f2, S3⟩
                · have z3 : (a : Int) < (s : Int) := by omega
                  have z4 : ¬ (s : Int) < (M : Int) := by omega
                  by_cases h5 : M < e
                  · by_cases h6 : e < b
                    · have z5 : (M : Int) < (e : Int) := by omega
                      have z6 : (e : Int) < (b : Int) := by omega
                      go_wp2_with (first
                        | (go_at_call 135; (with_reducible refine (HM2.out d d _ (HRF.out (by omega)) (Stb.refl _ _ _ _) HSW.out h5 h6).mono ?_); rintro e4 w4 ⟨rfl, d3, hst3, hasc3, S4⟩))
                      go_end0
                      obtain ⟨f1, f2⟩ := HFIN.out d d d3 (HRF.out (by omega)) ⟨Stb.refl _ _ _ _, .inr rfl, fun h h' => by omega⟩ ⟨hst3, .inl ⟨h5, h6⟩, fun _ _ => hasc3⟩
                      exact ⟨rfl, d3, f1, f2, S4⟩
                    · have z5 : (M : Int) < (e : Int) := by omega
                      have z6 : ¬ (e : Int) < (b : Int) := by omega
                      go_wp2_with fail
                      go_end0
                      obtain ⟨f1, f2⟩ := HFIN.out d d d (HRF.out (by omega)) ⟨Stb.refl _ _ _ _, .inr rfl, fun h h' => by omega⟩ ⟨Stb.refl _ _ _ _, .inr rfl, fun h h' => by omega⟩
                      exact ⟨rfl, d, f1, f2, HSW.out⟩
                  · have z5 : ¬ (M : Int) < (e : Int) := by omega
                    go_wp2_with fail
                    go_end0
                    obtain ⟨f1, f2⟩ := HFIN.out d d d (HRF.out (by omega)) ⟨Stb.refl _ _ _ _, .inr rfl, fun h h' => by omega⟩ ⟨Stb.refl _ _ _ _, .inr rfl, fun h h' => by omega⟩
                    exact ⟨rfl, d, f1, f2, HSW.out⟩
              · have z3 : ¬ (a : Int) < (s : Int) := by omega
                by_cases h5 : M < e
                · by_cases h6 : e < b
                  · have z5 : (M : Int) < (e : Int) := by omega
                    have z6 : (e : Int) < (b : Int) := by omega
                    go_wp2_with (first
                      | (go_at_call 135; (with_reducible refine (HM2.out d d _ (HRF.out (by omega)) (Stb.refl _ _ _ _) HSW.out h5 h6).mono ?_); rintro e4 w4 ⟨rfl, d3, hst3, hasc3, S4⟩))
                    go_end0
                    obtain ⟨f1, f2⟩ := HFIN.out d d d3 (HRF.out (by omega)) ⟨Stb.refl _ _ _ _, .inr rfl, fun h h' => by omega⟩ ⟨hst3, .inl ⟨h5, h6⟩, fun _ _ => hasc3⟩
                    exact ⟨rfl, d3, f1, f2, S4⟩
                  · have z5 : (M : Int) < (e : Int) := by omega
                    have z6 : ¬ (e : Int) < (b : Int) := by omega
                    go_wp2_with fail
                    go_end0
                    obtain ⟨f1, f2⟩ := HFIN.out d d d (HRF.out (by omega)) ⟨Stb.refl _ _ _ _, .inr rfl, fun h h' => by omega⟩ ⟨Stb.refl _ _ _ _, .inr rfl, fun h h' => by omega⟩
                    exact ⟨rfl, d, f1, f2, HSW.out⟩
                · have z5 : ¬ (M : Int) < (e : Int) := by omega
                  go_wp2_with fail
                  go_end0
                  obtain ⟨f1, f2⟩ := HFIN.out d d d (HRF.out (by omega)) ⟨Stb.refl _ _ _ _, .inr rfl, fun h h' => by omega⟩ ⟨Stb.refl _ _ _ _, .inr rfl, fun h h' => by omega⟩
                  exact ⟨rfl, d, f1, f2, HSW.out⟩
          · have z1 : ¬ (s : Int) < (m : Int) := by omega
            by_cases h3 : a < s
            · by_cases h4 : s < M
              · have z3 : (a : Int) < (s : Int) := by omega
                have z4 : (s : Int) < (M : Int) := by omega
                by_cases h5 : M < e
                · by_cases h6 : e < b
                  · have z5 : (M : Int) < (e : Int) := by omega
                    have z6 : (e : Int) < (b : Int) := by omega
                    go_wp2_with (first
                      | (go_at_call 135; (with_reducible refine (HM1.out d _ (HRF.out (by omega)) HSW.out h3 h4).mono ?_); rintro e3 w3 ⟨rfl, d2, hst2, hasc2, S3⟩)
                      | (go_at_call 135; (with_reducible refine (HM2.out d d2 _ (HRF.out (by omega)) hst2 S3 h5 h6).mono ?_); rintro e4 w4 ⟨rfl, d3, hst3, hasc3, S4⟩))
                    go_end0
                    obtain ⟨f1, f2⟩ := HFIN.out d d2 d3 (HRF.out (by omega)) ⟨hst2, .inl ⟨h3, h4⟩, fun _ _ => hasc2⟩ ⟨hst3, .inl ⟨h5, h6⟩, fun _ _ => hasc3⟩
                    exact ⟨rfl, d3, f1, f2, S4⟩
                  · have z5 : (M : Int) < (e : Int) := by omega
                    have z6 : ¬ (e : Int) < (b : Int) := by omega
                    go_wp2_with (first
                      | (go_at_call 135; (with_reducible refine (HM1.out d _ (HRF.out (by omega)) HSW.out h3 h4).mono ?_); rintro e3 w3 ⟨rfl, d2, hst2, hasc2, S3⟩))
                    go_end0
                    obtain ⟨f1, f2⟩ := HFIN.out d d2 d2 (HRF.out (by omega)) ⟨hst2, .inl ⟨h3, h4⟩, fun _ _ => hasc2⟩ ⟨Stb.refl _ _ _ _, .inr rfl, fun h h' => by omega⟩
                    exact ⟨rfl, d2, f1, f2, S3⟩
                · have z5 : ¬ (M : Int) < (e : Int) := by omega
                  go_wp2_with (first
                    | (go_at_call 135; (with_reducible refine (HM1.out d _ (HRF.out (by omega)) HSW.out h3 h4).mono ?_); rintro e3 w3 ⟨rfl, d2, hst2, hasc2, S3⟩))
                  go_end0
                  obtain ⟨f1, f2⟩ := HFIN.out d d2 d2 (HRF.out (by omega)) ⟨hst2, .inl ⟨h3, h4⟩, fun _ _ => hasc2⟩ ⟨Stb.refl _ _ _ _, .inr rfl, fun h h' => by omega⟩
                  exact ⟨rfl, d2, f1, f2, S3⟩
              · have z3 : (a : Int) < (s : Int) := by omega
                have z4 : ¬ (s : Int) < (M : Int) := by omega
                by_cases h5 : M < e
                · by_cases h6 : e < b
                  · have z5 : (M : Int) < (e : Int) := by omega
                    have z6 : (e : Int) < (b : Int) := by omega
                    go_wp2_with (first
                      | (go_at_call 135; (with_reducible refine (HM2.out d d _ (HRF.out (by omega)) (Stb.refl _ _ _ _) HSW.out h5 h6).mono ?_); rintro e4 w4 ⟨rfl, d3, hst3, hasc3, S4⟩))
                    go_end0
                    obtain ⟨f1, f2⟩ := HFIN.out d d d3 (HRF.out (by omega)) ⟨Stb.refl _ _ _ _, .inr rfl, fun h h' => by omega⟩ ⟨hst3, .inl ⟨h5, h6⟩, fun _ _ => hasc3⟩
                    exact ⟨rfl, d3, f1, f2, S4⟩
                  · have z5 : (M : Int) < (e : Int) := by omega
                    have z6 : ¬ (e : Int) < (b : Int) := by omega
                    go_wp2_with fail
                    go_end0
                    obtain ⟨f1, f2⟩ := HFIN.out d d d (HRF.out (by omega)) ⟨Stb.refl _ _ _ _, .inr rfl, fun h h' => by omega⟩ ⟨Stb.refl _ _ _ _, .inr rfl, fun h h' => by omega⟩
                    exact ⟨rfl, d, f1, f2, HSW.out⟩
                · have z5 : ¬ (M : Int) < (e : Int) := by omega
                  go_wp2_with fail
                  go_end0
                  obtain ⟨f1, f2⟩ := HFIN.out d d d (HRF.out (by omega)) ⟨Stb.refl _ _ _ _, .inr rfl, fun h h' => by omega⟩ ⟨Stb.refl _ _ _ _, .inr rfl, fun h h' => by omega⟩
                  exact ⟨rfl, d, f1, f2, HSW.out⟩
            · have z3 : ¬ (a : Int) < (s : Int) := by omega
              by_cases h5 : M < e
              · by_cases h6 : e < b
                · have z5 : (M : Int) < (e : Int) := by omega
                  have z6 : (e : Int) < (b : Int) := by omega
                  go_wp2_with (first
                    | (go_at_call 135; (with_reducible refine (HM2.out d d _ (HRF.out (by omega)) (Stb.refl _ _ _ _) HSW.out h5 h6).mono ?_); rintro e4 w4 ⟨rfl, d3, hst3, hasc3, S4⟩))
                  go_end0
                  obtain ⟨f1, f2⟩ := HFIN.out d d d3 (HRF.out (by omega)) ⟨Stb.refl _ _ _ _, .inr rfl, fun h h' => by omega⟩ ⟨hst3, .inl ⟨h5, h6⟩, fun _ _ => hasc3⟩
                  exact ⟨rfl, d3, f1, f2, S4⟩
                · have z5 : (M : Int) < (e : Int) := by omega
                  have z6 : ¬ (e : Int) < (b : Int) := by omega
                  go_wp2_with fail
                  go_end0
                  obtain ⟨f1, f2⟩ := HFIN.out d d d (HRF.out (by omega)) ⟨Stb.refl _ _ _ _, .inr rfl, fun h h' => by omega⟩ ⟨Stb.refl _ _ _ _, .inr rfl, fun h h' => by omega⟩
                  exact ⟨rfl, d, f1, f2, HSW.out⟩
              · have z5 : ¬ (M : Int) < (e : Int) := by omega
                go_wp2_with fail
                go_end0
                obtain ⟨f1, f2⟩ := HFIN.out d d d (HRF.out (by omega)) ⟨Stb.refl _ _ _ _, .inr rfl, fun h h' => by omega⟩ ⟨Stb.refl _ _ _ _, .inr rfl, fun h h' => by omega⟩
                exact ⟨rfl, d, f1, f2, HSW.out⟩
    · have hmz : ¬ (M : Int) < (m : Int) := by omega
      go_upto_region 33 with fail
      obtain ⟨lo, hlo⟩ : ∃ lo : Nat, lo = a := ⟨_, rfl⟩
      obtain ⟨r0, hr0⟩ : ∃ r0 : Nat, r0 = m := ⟨_, rfl⟩
      have hlo' : lo ≤ a := by omega
      have hlo'' : a ≤ lo := by omega
      have hr0' : r0 ≤ m := by omega
      have hr0'' : m ≤ r0 := by omega
      clear hlo hr0
      have S9 : Aside (SWK enc k w0 blk off d w) := S8
      clear S8
      go_loopg [20, 21] (r0 - lo) (fun kx s20 s21 wr => ∃ (s r : Nat), s20 = .int .i64 s ∧ s21 = .int .i64 r ∧ lo ≤ s ∧ s ≤ r ∧ r ≤ r0 ∧ r - s ≤ kx ∧ (s = lo ∨ key d[s - 1]! ≤ key d[N - s]!) ∧ (r = r0 ∨ key d[N - 1 - r]! < key d[r]!) ∧ Aside (SWK enc k w0 blk off d wr))
      case atStart => exact ⟨lo, r0, by first | rfl | (congr 1; omega), by first | rfl | (congr 1; omega), Nat.le_refl _, by omega, Nat.le_refl _, Nat.le_refl _, .inl rfl, .inl rfl, S9⟩
      case round =>
        clear S9
        obtain ⟨s, r, rfl, rfl, hls, hsr, hrr, hkx, hlo1, hhi1, S1⟩ := hrel
        have HLO : Aside (s = lo ∨ key d[s - 1]! ≤ key d[N - s]!) := hlo1
        have HHI : Aside (r = r0 ∨ key d[N - 1 - r]! < key d[r]!) := hhi1
        clear hlo1 hhi1
        by_cases hlt : s < r
        · have hltz : (s : Int) < (r : Int) := by omega
          go_upto_region 35 with fail
          obtain ⟨c, hh⟩ : ∃ c : Nat, c = (s + r) / 2 := ⟨_, rfl⟩
          have he : ((s : Int) + (r : Int)) / 2 = (c : Int) := by omega
          have h1 : s ≤ c := by omega
          have h3 : c < r := by omega
          rw [he]
          clear he hh
          obtain ⟨z, hz⟩ : ∃ z : Nat, z = N - 1 - c := ⟨_, rfl⟩
          have hsub : (N : Int) - 1 - (c : Int) = (z : Int) := by omega
          have hz' : z + c + 1 ≤ N := by omega
          have hz'' : N ≤ z + c + 1 := by omega
          have HZ : Aside (z = N - 1 - c) := hz
          clear hz
          have ex : ((z : Int)).toNat = z := by omega
          have px : (0 : Int) ≤ (z : Int) := by omega
          have bdx : (z : Int) < (d.size : Int) := by omega
          have rx : IntKind.i64.wrap ((z : Int)) = (z : Int) := by rw [IntKind.wrap_i64]; omega
          have ey : ((c : Int)).toNat = c := by omega
          have py : (0 : Int) ≤ (c : Int) := by omega
          have bdy : (c : Int) < (d.size : Int) := by omega
          have ry : IntKind.i64.wrap ((c : Int)) = (c : Int) := by rw [IntKind.wrap_i64]; omega
          obtain ⟨x, hx⟩ : ∃ x, x = d[z]! := ⟨_, rfl⟩
          obtain ⟨y, hy⟩ : ∃ x, x = d[c]! := ⟨_, rfl⟩
          have lx := S1.out.ld R HDS.out Tryz.prog (z) (by omega)
          have ly := S1.out.ld R HDS.out Tryz.prog (c) (by omega)
          rw [← hx] at lx
          rw [← hy] at ly
          have hc := S1.out.cmp HC.out HSZ.out x y
          have hcf := HCF.out x y
          have HX : Aside (x = d[z]! ∧ y = d[c]!) := ⟨hx, hy⟩
          have S0 : Aside (∀ nq osq, SWK enc k w0 blk off d (grow (wr.drewN nq) osq)) := fun nq osq => S1.out.grown nq osq
          clear hx hy S1
          by_cases hv : cf x y < 0
          · have HV : Aside (key x < key y) := HCF.out x y |>.1 hv
            have hdv : decide (cf x y < 0) = true := decide_eq_true hv
            clear hcf
            go_wp2_with fail
            go_quiet_grown (first | (go_at_fn g; refine Calls.grown_of (hc _ _)))
            have S2 := S0.out nq osq
            clear lx ly hc S0
            generalize grow (wr.drewN nq) osq = w2 at S2 ⊢
            go_wp2
            go_roundg (c - s)
            case measure => omega
            case rel => exact ⟨s, c, rfl, rfl, by omega, by omega, by omega, Nat.le_refl _, HLO.out, .inr (by rw [← HZ.out, ← HX.out.1, ← HX.out.2]; exact HV.out), S2⟩
          · have HV : Aside (key y ≤ key x) := Nat.le_of_not_lt (fun q => hv ((HCF.out x y).2 q))
            have hdv : decide (cf x y < 0) = false := decide_eq_false hv
            clear hcf
            go_wp2_with fail
            go_quiet_grown (first | (go_at_fn g; refine Calls.grown_of (hc _ _)))
            have S2 := S0.out nq osq
            clear lx ly hc S0
            generalize grow (wr.drewN nq) osq = w2 at S2 ⊢
            go_wp2
            go_roundg (r - (c + 1))
            case measure => omega
            case rel => exact ⟨c + 1, r, by go_num, rfl, by omega, by omega, by omega, Nat.le_refl _, .inr (by rw [Nat.add_sub_cancel, show N - (c + 1) = N - 1 - c by omega, ← HZ.out, ← HX.out.1, ← HX.out.2]; exact HV.out), HHI.out, S2⟩
        · obtain rfl : s = r := by omega
          have hltz : ¬ (s : Int) < (s : Int) := by omega
          obtain ⟨e, hee0⟩ : ∃ e : Nat, e = N - s := ⟨_, rfl⟩
          have hee' : e + s ≤ N := by omega
          have hee'' : N ≤ e + s := by omega
          clear hee0
          have he1 : s ≤ m := by omega
          have he2 : m ≤ e := by omega
          have he3 : e ≤ b := by omega
          have he4 : a ≤ s := by omega
          have HMID : Hid (∀ d1, RotIs d s m e d1 → Stb key a b d d1 ∧ AscN key a s d1 ∧ AscN key s M d1 ∧ AscN key M e d1 ∧ AscN key e b d1 ∧ ∀ i j, a ≤ i → i < M → M ≤ j → j < b → key d1[i]! ≤ key d1[j]!) := by
            refine Lib.hid (fun d1 hr => ?_)
            have := merge_mid (s := s) (e := e) HA1.out HA2.out he4 he1 he2 he3 (by
              rcases HLO.out with h | h
              · omega
              · right; right; rw [show e = N - s by omega]; exact h) (by
              rcases HHI.out with h | h
              · omega
              · right; right; rw [show e - 1 = N - 1 - s by omega]; exact h) hr
            rw [show s + (e - m) = M by omega] at this
            exact this
          go_upto_region 39 with fail
          have hee2 : (N : Int) - (s : Int) = (e : Int) := by omega
          rw [hee2]
          clear hee2 hltz HLO HHI
          have HRO : Hid (s < m → m < e → Calls Tryz.prog 141 #[.slice (some ⟨blk, off, none⟩) d.size cap, .int .i64 s, .int .i64 m, .int .i64 e, .func (.func g) #[] cb] wr fun x w' => x = .returned (.tuple #[]) ∧ ∃ d', RotIs d s m e d' ∧ SWK enc k w0 blk off d' w') := Lib.hid (fun h1 h2 => rotate_any k aE zE enc _ blk off cap s m e d0 d w0 wr R HDS.out S1.out h1 h2 (by omega) hsz)
          have HM1 : Hid (∀ d1 w2, RotIs d s m e d1 → SWK enc k w0 blk off d1 w2 → a < s → s < M → Calls Tryz.prog 135 #[.slice (some ⟨blk, off, none⟩) d.size cap, .int .i64 a, .int .i64 s, .int .i64 M, .func (.func g) #[] cb] w2 fun x w' => x = .returned (.tuple #[]) ∧ ∃ d2, Stb key a M d1 d2 ∧ AscN key a M d2 ∧ SWK enc k w0 blk off d2 w') := by
            refine Lib.hid (fun d1 w2 hr S2 h1 h2 => ?_)
            obtain ⟨_, g1, g2, _⟩ := HMID.out d1 hr
            have := HIH.out (M - a) (by omega) a s M d1 w2 rfl (hr.size.trans HDS.out) S2 h1 h2 (by rw [hr.size]; omega) (by rw [hr.size]; exact hsz) g1 g2
            rw [hr.size] at this
            exact this
          have HM2 : Hid (∀ d1 d2 w3, RotIs d s m e d1 → Stb key a M d1 d2 → SWK enc k w0 blk off d2 w3 → M < e → e < b → Calls Tryz.prog 135 #[.slice (some ⟨blk, off, none⟩) d.size cap, .int .i64 M, .int .i64 e, .int .i64 b, .func (.func g) #[] cb] w3 fun x w' => x = .returned (.tuple #[]) ∧ ∃ d3, Stb key M b d2 d3 ∧ AscN key M b d3 ∧ SWK enc k w0 blk off d3 w') := by
            refine Lib.hid (fun d1 d2 w3 hr st S3 h1 h2 => ?_)
            obtain ⟨_, _, _, g3, g4, _⟩ := HMID.out d1 hr
            have := HIH.out (b - M) (by omega) M e b d2 w3 rfl ((st.size.trans hr.size).trans HDS.out) S3 h1 h2 (by rw [st.size, hr.size]; exact hb) (by rw [st.size, hr.size]; exact hsz) (g3.congr (fun q h _ => st.out q (by omega))) (g4.congr (fun q h _ => st.out q (by omega)))
            rw [st.size, hr.size] at this
            exact this
          have HFIN : Hid (∀ d1 d2 d3, RotIs d s m e d1 → (Stb key a M d1 d2 ∧ (a < s ∧ s < M ∨ d2 = d1) ∧ (a < s → s < M → AscN key a M d2)) → (Stb key M b d2 d3 ∧ (M < e ∧ e < b ∨ d3 = d2) ∧ (M < e → e < b → AscN key M b d3)) → Stb key a b d d3 ∧ AscN key a b d3) := by
            refine Lib.hid (fun d1 d2 d3 hr st1 st2 => ?_)
            obtain ⟨g0, g1, g2, g3, g4, g5⟩ := HMID.out d1 hr
            have k1 : AscN key a M d2 := by
              rcases st1.2.1 with h | h
              · exact st1.2.2 h.1 h.2
              · subst h
                by_cases h1 : a < s
                · by_cases h2 : s < M
                  · exact st1.2.2 h1 h2
                  · exact g1.sub (Nat.le_refl _) (by omega)
                · exact g2.sub (by omega) (Nat.le_refl _)
            have k2 : AscN key M b d3 := by
              rcases st2.2.1 with h | h
              · exact st2.2.2 h.1 h.2
              · subst h
                by_cases h1 : M < e
                · by_cases h2 : e < b
                  · exact st2.2.2 h1 h2
                  · exact (g3.congr (fun q h _ => st1.1.out q (by omega))).sub (Nat.le_refl _) (by omega)
                · exact (g4.congr (fun q h _ => st1.1.out q (by omega))).sub (by omega) (Nat.le_refl _)
            obtain ⟨f1, f2⟩ := merge_fin (by omega) (by omega) g5 st1.1 k1 st2.1 k2
            exact ⟨g0.trans f1, f2⟩
          have HSW : Aside (SWK enc k w0 blk off d wr) := S1
          have HRF : Aside (¬ (s < m ∧ m < e) → RotIs d s m e d) := fun h => by
            by_cases h1 : s = m
            · subst h1; exact RotIs.refl d s e (by omega)
            · obtain rfl : e = m := by omega
              exact RotIs.refl' d s e
          clear S1 HIH HMID
          by_cases h1 : s < m
          · by_cases h2 : m < e
            · have z1 : (s : Int) < (m : Int) := by omega
              have z2 : (m : Int) < (e : Int) := by omega
              by_cases h3 : a < s
              · by_cases h4 : s < M
                · have z3 : (a : Int) < (s : Int) := by omega
                  have z4 : (s : Int) < (M : Int) := by omega
                  by_cases h5 : M < e
                  · by_cases h6 : e < b
                    · have z5 : (M : Int) < (e : Int) := by omega
                      have z6 : (e : Int) < (b : Int) := by omega
                      go_wp2_with (first
                        | (go_at_call 141; (with_reducible refine (HRO.out h1 h2).mono ?_); rintro e2 w2 ⟨rfl, d1, hr1, S2⟩)
                        | (go_at_call 135; (with_reducible refine (HM1.out d1 _ hr1 S2 h3 h4).mono ?_); rintro e3 w3 ⟨rfl, d2, hst2, hasc2, S3⟩)
                        | (go_at_call 135; (with_reducible refine (HM2.out d1 d2 _ hr1 hst2 S3 h5 h6).mono ?_); rintro e4 w4 ⟨rfl, d3, hst3, hasc3, S4⟩))
                      go_end0
                      obtain ⟨f1, f2⟩ := HFIN.out d1 d2 d3 hr1 ⟨hst2, .inl ⟨h3, h4⟩, fun _ _ => hasc2⟩ ⟨hst3, .inl ⟨h5, h6⟩, fun _ _ => hasc3⟩
                      exact ⟨rfl, d3, f1, f2, S4⟩
                    · have z5 : (M : Int) < (e : Int) := by omega
                      have z6 : ¬ (e : Int) < (b : Int) := by omega
                      go_wp2_with (first
                        | (go_at_call 141; (with_reducible refine (HRO.out h1 h2).mono ?_); rintro e2 w2 ⟨rfl, d1, hr1, S2⟩)
                        | (go_at_call 135; (with_reducible refine (HM1.out d1 _ hr1 S2 h3 h4).mono ?_); rintro e3 w3 ⟨rfl, d2, hst2, hasc2, S3⟩))
                      go_end0
                      obtain ⟨f1, f2⟩ := HFIN.out d1 d2 d2 hr1 ⟨hst2, .inl ⟨h3, h4⟩, fun _ _ => hasc2⟩ ⟨Stb.refl _ _ _ _, .inr rfl, fun h h' => by omega⟩
                      exact ⟨rfl, d2, f1, f2, S3⟩
                  · have z5 : ¬ (M : Int) < (e : Int) := by omega
                    go_wp2_with (first
                      | (go_at_call 141; (with_reducible refine (HRO.out h1 h2).mono ?_); rintro e2 w2 ⟨rfl, d1, hr1, S2⟩)
                      | (go_at_call 135; (with_reducible refine (HM1.out d1 _ hr1 S2 h3 h4).mono ?_); rintro e3 w3 ⟨rfl, d2, hst2, hasc2, S3⟩))
                    go_end0
                    obtain ⟨f1, f2⟩ := HFIN.out d1 d2 d2 hr1 ⟨hst2, .inl ⟨h3, h4⟩, fun _ _ => hasc2⟩ ⟨Stb.refl _ _ _ _, .inr rfl, fun h h' => by omega⟩
                    exact ⟨rfl, d2, f1, f2, S3⟩
                · have z3 : (a : Int) < (s : Int) := by omega
                  have z4 : ¬ (s : Int) < (M : Int) := by omega
                  by_cases h5 : M < e
                  · by_cases h6 : e < b
                    · have z5 : (M : Int) < (e : Int) := by omega
                      have z6 : (e : Int) < (b : Int) := by omega
                      go_wp2_with (first
                        | (go_at_call 141; (with_reducible refine (HRO.out h1 h2).mono ?_); rintro e2 w2 ⟨rfl, d1, hr1, S2⟩)
                        | (go_at_call 135; (with_reducible refine (HM2.out d1 d1 _ hr1 (Stb.refl _ _ _ _) S2 h5 h6).mono ?_); rintro e4 w4 ⟨rfl, d3, hst3, hasc3, S4⟩))
                      go_end0
                      obtain ⟨f1, f2⟩ := HFIN.out d1 d1 d3 hr1 ⟨Stb.refl _ _ _ _, .inr rfl, fun h h' => by omega⟩ ⟨hst3, .inl ⟨h5, h6⟩, fun _ _ => hasc3⟩
                      exact ⟨rfl, d3, f1, f2, S4⟩
                    · have z5 : (M : Int) < (e : Int) := by omega
                      have z6 : ¬ (e : Int) < (b : Int) := by omega
                      go_wp2_with (first
                        | (go_at_call 141; (with_reducible refine (HRO.out h1 h2).mono ?_); rintro e2 w2 ⟨rfl, d1, hr1, S2⟩))
                      go_end0
                      obtain ⟨f1, f2⟩ := HFIN.out d1 d1 d1 hr1 ⟨Stb.refl _ _ _ _, .inr rfl, fun h h' => by omega⟩ ⟨Stb.refl _ _ _ _, .inr rfl, fun h h' => by omega⟩
                      exact ⟨rfl, d1, f1, f2, S2⟩
                  · have z5 : ¬ (M : Int) < (e : Int) := by omega
                    go_wp2_with (first
                      | (go_at_call 141; (with_reducible refine (HRO.out h1 h2).mono ?_); rintro e2 w2 ⟨rfl, d1, hr1, S2⟩))
                    go_end0
                    obtain ⟨f1, f2⟩ := HFIN.out d1 d1 d1 hr1 ⟨Stb.refl _ _ _ _, .inr rfl, fun h h' => by omega⟩ ⟨Stb.refl _ _ _ _, .inr rfl, fun h h' => by omega⟩
                    exact ⟨rfl, d1, f1, f2, S2⟩
              · have z3 : ¬ (a : Int) < (s : Int) := by omega
                by_cases h5 : M < e
                · by_cases h6 : e < b
                  · have z5 : (M : Int) < (e : Int) := by omega
                    have z6 : (e : Int) < (b : Int) := by omega
                    go_wp2_with (first
                      | (go_at_call 141; (with_reducible refine (HRO.out h1 h2).mono ?_); rintro e2 w2 ⟨rfl, d1, hr1, S2⟩)
                      | (go_at_call 135; (with_reducible refine (HM2.out d1 d1 _ hr1 (Stb.refl _ _ _ _) S2 h5 h6).mono ?_); rintro e4 w4 ⟨rfl, d3, hst3, hasc3, S4⟩))
                    go_end0
                    obtain ⟨f1, f2⟩ := HFIN.out d1 d1 d3 hr1 ⟨Stb.refl _ _ _ _, .inr rfl, fun h h' => by omega⟩ ⟨hst3, .inl ⟨h5, h6⟩, fun _ _ => hasc3⟩
                    exact ⟨rfl, d3, f1, f2, S4⟩
                  · have z5 : (M : Int) < (e : Int) := by omega
                    have z6 : ¬ (e : Int) < (b : Int) := by omega
                    go_wp2_with (first
                      | (go_at_call 141; (with_reducible refine (HRO.out h1 h2).mono ?_); rintro e2 w2 ⟨rfl, d1, hr1, S2⟩))
                    go_end0
                    obtain ⟨f1, f2⟩ := HFIN.out d1 d1 d1 hr1 ⟨Stb.refl _ _ _ _, .inr rfl, fun h h' => by omega⟩ ⟨Stb.refl _ _ _ _, .inr rfl, fun h h' => by omega⟩
                    exact ⟨rfl, d1, f1, f2, S2⟩
                · have z5 : ¬ (M : Int) < (e : Int) := by omega
                  go_wp2_with (first
                    | (go_at_call 141; (with_reducible refine (HRO.out h1 h2).mono ?_); rintro e2 w2 ⟨rfl, d1, hr1, S2⟩))
                  go_end0
                  obtain ⟨f1, f2⟩ := HFIN.out d1 d1 d1 hr1 ⟨Stb.refl _ _ _ _, .inr rfl, fun h h' => by omega⟩ ⟨Stb.refl _ _ _ _, .inr rfl, fun h h' => by omega⟩
                  exact ⟨rfl, d1, f1, f2, S2⟩
            · have z1 : (s : Int) < (m : Int) := by omega
              have z2 : ¬ (m : Int) < (e : Int) := by omega
              by_cases h3 : a < s
              · by_cases h4 : s < M
                · have z3 : (a : Int) < (s : Int) := by omega
                  have z4 : (s : Int) < (M : Int) := by omega
                  by_cases h5 : M < e
                  · by_cases h6 : e < b
                    · have z5 : (M : Int) < (e : Int) := by omega
                      have z6 : (e : Int) < (b : Int) := by omega
                      go_wp2_with (first
                        | (go_at_call 135; (with_reducible refine (HM1.out d _ (HRF.out (by omega)) HSW.out h3 h4).mono ?_); rintro e3 w3 ⟨rfl, d2, hst2, hasc2, S3⟩)
                        | (go_at_call 135; (with_reducible refine (HM2.out d d2 _ (HRF.out (by omega)) hst2 S3 h5 h6).mono ?_); rintro e4 w4 ⟨rfl, d3, hst3, hasc3, S4⟩))
                      go_end0
                      obtain ⟨f1, f2⟩ := HFIN.out d d2 d3 (HRF.out (by omega)) ⟨hst2, .inl ⟨h3, h4⟩, fun _ _ => hasc2⟩ ⟨hst3, .inl ⟨h5, h6⟩, fun _ _ => hasc3⟩
                      exact ⟨rfl, d3, f1, f2, S4⟩
                    · have z5 : (M : Int) < (e : Int) := by omega
                      have z6 : ¬ (e : Int) < (b : Int) := by omega
                      go_wp2_with (first
                        | (go_at_call 135; (with_reducible refine (HM1.out d _ (HRF.out (by omega)) HSW.out h3 h4).mono ?_); rintro e3 w3 ⟨rfl, d2, hst2, hasc2, S3⟩))
                      go_end0
                      obtain ⟨f1, f2⟩ := HFIN.out d d2 d2 (HRF.out (by omega)) ⟨hst2, .inl ⟨h3, h4⟩, fun _ _ => hasc2⟩ ⟨Stb.refl _ _ _ _, .inr rfl, fun h h' => by omega⟩
                      exact ⟨rfl, d2, f1, f2, S3⟩
                  · have z5 : ¬ (M : Int) < (e : Int) := by omega
                    go_wp2_with (first
                      | (go_at_call 135; (with_reducible refine (HM1.out d _ (HRF.out (by omega)) HSW.out h3 h4).mono ?_); rintro e3 w3 ⟨rfl, d2, hst2, hasc2, S3⟩))
                    go_end0
                    obtain ⟨f1, f2⟩ := HFIN.out d d2 d2 (HRF.out (by omega)) ⟨hst2, .inl ⟨h3, h4⟩, fun _ _ => hasc2⟩ ⟨Stb.refl _ _ _ _, .inr rfl, fun h h' => by omega⟩
                    exact ⟨rfl, d2, f1, f2, S3⟩
                · have z3 : (a : Int) < (s : Int) := by omega
                  have z4 : ¬ (s : Int) < (M : Int) := by omega
                  by_cases h5 : M < e
                  · by_cases h6 : e < b
                    · have z5 : (M : Int) < (e : Int) := by omega
                      have z6 : (e : Int) < (b : Int) := by omega
                      go_wp2_with (first
                        | (go_at_call 135; (with_reducible refine (HM2.out d d _ (HRF.out (by omega)) (Stb.refl _ _ _ _) HSW.out h5 h6).mono ?_); rintro e4 w4 ⟨rfl, d3, hst3, hasc3, S4⟩))
                      go_end0
                      obtain ⟨f1, f2⟩ := HFIN.out d d d3 (HRF.out (by omega)) ⟨Stb.refl _ _ _ _, .inr rfl, fun h h' => by omega⟩ ⟨hst3, .inl ⟨h5, h6⟩, fun _ _ => hasc3⟩
                      exact ⟨rfl, d3, f1, f2, S4⟩
                    · have z5 : (M : Int) < (e : Int) := by omega
                      have z6 : ¬ (e : Int) < (b : Int) := by omega
                      go_wp2_with fail
                      go_end0
                      obtain ⟨f1, f2⟩ := HFIN.out d d d (HRF.out (by omega)) ⟨Stb.refl _ _ _ _, .inr rfl, fun h h' => by omega⟩ ⟨Stb.refl _ _ _ _, .inr rfl, fun h h' => by omega⟩
                      exact ⟨rfl, d, f1, f2, HSW.out⟩
                  · have z5 : ¬ (M : Int) < (e : Int) := by omega
                    go_wp2_with fail
                    go_end0
                    obtain ⟨f1, f2⟩ := HFIN.out d d d (HRF.out (by omega)) ⟨Stb.refl _ _ _ _, .inr rfl, fun h h' => by omega⟩ ⟨Stb.refl _ _ _ _, .inr rfl, fun h h' => by omega⟩
                    exact ⟨rfl, d, f1, f2, HSW.out⟩
              · have z3 : ¬ (a : Int) < (s : Int) := by omega
                by_cases h5 : M < e
                · by_cases h6 : e < b
                  · have z5 : (M : Int) < (e : Int) := by omega
                    have z6 : (e : Int) < (b : Int) := by omega
                    go_wp2_with (first
                      | (go_at_call 135; (with_reducible refine (HM2.out d d _ (HRF.out (by omega)) (Stb.refl _ _ _ _) HSW.out h5 h6).mono ?_); rintro e4 w4 ⟨rfl, d3, hst3, hasc3, S4⟩))
                    go_end0
                    obtain ⟨f1, f2⟩ := HFIN.out d d d3 (HRF.out (by omega)) ⟨Stb.refl _ _ _ _, .inr rfl, fun h h' => by omega⟩ ⟨hst3, .inl ⟨h5, h6⟩, fun _ _ => hasc3⟩
                    exact ⟨rfl, d3, f1, f2, S4⟩
                  · have z5 : (M : Int) < (e : Int) := by omega
                    have z6 : ¬ (e : Int) < (b : Int) := by omega
                    go_wp2_with fail
                    go_end0
                    obtain ⟨f1, f2⟩ := HFIN.out d d d (HRF.out (by omega)) ⟨Stb.refl _ _ _ _, .inr rfl, fun h h' => by omega⟩ ⟨Stb.refl _ _ _ _, .inr rfl, fun h h' => by omega⟩
                    exact ⟨rfl, d, f1, f2, HSW.out⟩
                · have z5 : ¬ (M : Int) < (e : Int) := by omega
                  go_wp2_with fail
                  go_end0
                  obtain ⟨f1, f2⟩ := HFIN.out d d d (HRF.out (by omega)) ⟨Stb.refl _ _ _ _, .inr rfl, fun h h' => by omega⟩ ⟨Stb.refl _ _ _ _, .inr rfl, fun h h' => by omega⟩
                  exact ⟨rfl, d, f1, f2, HSW.out⟩
          · have z1 : ¬ (s : Int) < (m : Int) := by omega
            by_cases h3 : a < s
            · by_cases h4 : s < M
              · have z3 : (a : Int) < (s : Int) := by omega
                have z4 : (s : Int) < (M : Int) := by omega
                by_cases h5 : M < e
                · by_cases h6 : e < b
                  · have z5 : (M : Int) < (e : Int) := by omega
                    have z6 : (e : Int) < (b : Int) := by omega
                    go_wp2_with (first
                      | (go_at_call 135; (with_reducible refine (HM1.out d _ (HRF.out (by omega)) HSW.out h3 h4).mono ?_); rintro e3 w3 ⟨rfl, d2, hst2, hasc2, S3⟩)
                      | (go_at_call 135; (with_reducible refine (HM2.out d d2 _ (HRF.out (by omega)) hst2 S3 h5 h6).mono ?_); rintro e4 w4 ⟨rfl, d3, hst3, hasc3, S4⟩))
                    go_end0
                    obtain ⟨f1, f2⟩ := HFIN.out d d2 d3 (HRF.out (by omega)) ⟨hst2, .inl ⟨h3, h4⟩, fun _ _ => hasc2⟩ ⟨hst3, .inl ⟨h5, h6⟩, fun _ _ => hasc3⟩
                    exact ⟨rfl, d3, f1, f2, S4⟩
                  · have z5 : (M : Int) < (e : Int) := by omega
                    have z6 : ¬ (e : Int) < (b : Int) := by omega
                    go_wp2_with (first
                      | (go_at_call 135; (with_reducible refine (HM1.out d _ (HRF.out (by omega)) HSW.out h3 h4).mono ?_); rintro e3 w3 ⟨rfl, d2, hst2, hasc2, S3⟩))
                    go_end0
                    obtain ⟨f1, f2⟩ := HFIN.out d d2 d2 (HRF.out (by omega)) ⟨hst2, .inl ⟨h3, h4⟩, fun _ _ => hasc2⟩ ⟨Stb.refl _ _ _ _, .inr rfl, fun h h' => by omega⟩
                    exact ⟨rfl, d2, f1, f2, S3⟩
                · have z5 : ¬ (M : Int) < (e : Int) := by omega
                  go_wp2_with (first
                    | (go_at_call 135; (with_reducible refine (HM1.out d _ (HRF.out (by omega)) HSW.out h3 h4).mono ?_); rintro e3 w3 ⟨rfl, d2, hst2, hasc2, S3⟩))
                  go_end0
                  obtain ⟨f1, f2⟩ := HFIN.out d d2 d2 (HRF.out (by omega)) ⟨hst2, .inl ⟨h3, h4⟩, fun _ _ => hasc2⟩ ⟨Stb.refl _ _ _ _, .inr rfl, fun h h' => by omega⟩
                  exact ⟨rfl, d2, f1, f2, S3⟩
              · have z3 : (a : Int) < (s : Int) := by omega
                have z4 : ¬ (s : Int) < (M : Int) := by omega
                by_cases h5 : M < e
                · by_cases h6 : e < b
                  · have z5 : (M : Int) < (e : Int) := by omega
                    have z6 : (e : Int) < (b : Int) := by omega
                    go_wp2_with (first
                      | (go_at_call 135; (with_reducible refine (HM2.out d d _ (HRF.out (by omega)) (Stb.refl _ _ _ _) HSW.out h5 h6).mono ?_); rintro e4 w4 ⟨rfl, d3, hst3, hasc3, S4⟩))
                    go_end0
                    obtain ⟨f1, f2⟩ := HFIN.out d d d3 (HRF.out (by omega)) ⟨Stb.refl _ _ _ _, .inr rfl, fun h h' => by omega⟩ ⟨hst3, .inl ⟨h5, h6⟩, fun _ _ => hasc3⟩
                    exact ⟨rfl, d3, f1, f2, S4⟩
                  · have z5 : (M : Int) < (e : Int) := by omega
                    have z6 : ¬ (e : Int) < (b : Int) := by omega
                    go_wp2_with fail
                    go_end0
                    obtain ⟨f1, f2⟩ := HFIN.out d d d (HRF.out (by omega)) ⟨Stb.refl _ _ _ _, .inr rfl, fun h h' => by omega⟩ ⟨Stb.refl _ _ _ _, .inr rfl, fun h h' => by omega⟩
                    exact ⟨rfl, d, f1, f2, HSW.out⟩
                · have z5 : ¬ (M : Int) < (e : Int) := by omega
                  go_wp2_with fail
                  go_end0
                  obtain ⟨f1, f2⟩ := HFIN.out d d d (HRF.out (by omega)) ⟨Stb.refl _ _ _ _, .inr rfl, fun h h' => by omega⟩ ⟨Stb.refl _ _ _ _, .inr rfl, fun h h' => by omega⟩
                  exact ⟨rfl, d, f1, f2, HSW.out⟩
            · have z3 : ¬ (a : Int) < (s : Int) := by omega
              by_cases h5 : M < e
              · by_cases h6 : e < b
                · have z5 : (M : Int) < (e : Int) := by omega
                  have z6 : (e : Int) < (b : Int) := by omega
                  go_wp2_with (first
                    | (go_at_call 135; (with_reducible refine (HM2.out d d _ (HRF.out (by omega)) (Stb.refl _ _ _ _) HSW.out h5 h6).mono ?_); rintro e4 w4 ⟨rfl, d3, hst3, hasc3, S4⟩))
                  go_end0
                  obtain ⟨f1, f2⟩ := HFIN.out d d d3 (HRF.out (by omega)) ⟨Stb.refl _ _ _ _, .inr rfl, fun h h' => by omega⟩ ⟨hst3, .inl ⟨h5, h6⟩, fun _ _ => hasc3⟩
                  exact ⟨rfl, d3, f1, f2, S4⟩
                · have z5 : (M : Int) < (e : Int) := by omega
                  have z6 : ¬ (e : Int) < (b : Int) := by omega
                  go_wp2_with fail
                  go_end0
                  obtain ⟨f1, f2⟩ := HFIN.out d d d (HRF.out (by omega)) ⟨Stb.refl _ _ _ _, .inr rfl, fun h h' => by omega⟩ ⟨Stb.refl _ _ _ _, .inr rfl, fun h h' => by omega⟩
                  exact ⟨rfl, d, f1, f2, HSW.out⟩
              · have z5 : ¬ (M : Int) < (e : Int) := by omega
                go_wp2_with fail
                go_end0
                obtain ⟨f1, f2⟩ := HFIN.out d d d (HRF.out (by omega)) ⟨Stb.refl _ _ _ _, .inr rfl, fun h h' => by omega⟩ ⟨Stb.refl _ _ _ _, .inr rfl, fun h h' => by omega⟩
                exact ⟨rfl, d, f1, f2, HSW.out⟩
end
end Go.Proofs.YtehgpnnfjgmiiaaGreat
