/- Contracts of stableCmpFunc and SortStableFunc of package slices, at contacts: what is sorted stands in order, what has the same key in the order in which it stood. Conditions: at most 1,000,000 of them; the comparison is that of a key. -/
import Derived.Test.YtbfhfnbhfeedbaaXCsf
namespace Go.Proofs
open Go.Shelf
def Try.insC_ren : Go.Shelf.Ren := ⟨fun | 20 => 106 | n => n, fun | 0 => 0 | 3 => 3 | 4 => 4 | 22 => 61 | 24 => 60 | 25 => 113 | n => n, fun | n => n⟩
theorem Try.insC : Go.Proofs.SlLaysF0.n20 Try.prog Try.insC_ren := {
  mixed := by kernel_rfl
  f20 := ⟨Try.f106.name, by decide, Try.func106.trans (congrArg some (by kernel_rfl))⟩
  t0 := Try.underlying0
  a0 := Try.isAgg0
  z0 := Try.sizeOf0
  v0 := Try.zeroValue0
  t3 := Try.underlying3
  a3 := Try.isAgg3
  z3 := Try.sizeOf3
  v3 := Try.zeroValue3
  t4 := Try.underlying4
  a4 := Try.isAgg4
  z4 := Try.sizeOf4
  v4 := Try.zeroValue4
  t22 := Try.underlying61
  a22 := Try.isAgg61
  z22 := Try.sizeOf61
  v22 := Try.zeroValue61
  t25 := Try.underlying113
  a25 := Try.isAgg113
  z25 := Try.sizeOf113
  v25 := Try.zeroValue113 }
end Go.Proofs
namespace Go.Proofs.Ytbfhfnbhfeedbaa
open Go.Shelf Go.RowKit Go.Lib Go.Sort
set_option maxRecDepth 1000000
set_option maxHeartbeats 4000000
section
variable {α : Type} [Inhabited α] {key : α → Nat} {d d' : Array α} {s t n a : Nat}
/-- Each block of s stands in order, up to u. -/
def SBlk (key : α → Nat) (s u : Nat) (d : Array α) : Prop := ∀ q, Asc key (q * s) (min (q * s + s) u) d
theorem SBlk.step20 {t : Nat} (h : SBlk key 20 (t * 20) d) (hs : Stb key (t * 20) (t * 20 + 20) d d') (ha : Asc key (t * 20) (t * 20 + 20) d') : SBlk key 20 ((t + 1) * 20) d' := fun q => by
  by_cases h1 : q = t
  · subst h1
    exact ha.sub (Nat.le_refl _) (by omega)
  · by_cases h2 : q < t
    · exact ((h q).congr (fun k h3 h4 => hs.out k (by omega))).sub (Nat.le_refl _) (by omega)
    · exact Asc.none _ _ (by omega) _
theorem SBlk.end20 {t : Nat} (h : SBlk key 20 (t * 20) d) (htn : t * 20 ≤ n) (hn : n < t * 20 + 20) (hs : Stb key (t * 20) n d d') (ha : Asc key (t * 20) n d') : SBlk key 20 n d' := fun q => by
  by_cases h1 : q = t
  · subst h1
    exact ha.sub (Nat.le_refl _) (by omega)
  · by_cases h2 : q < t
    · exact ((h q).congr (fun k h3 h4 => hs.out k (by omega))).sub (Nat.le_refl _) (by omega)
    · exact Asc.none _ _ (by omega) _
/-- Up to t the blocks are merged by two. -/
structure MidB (key : α → Nat) (s t n : Nat) (d : Array α) : Prop where
  lo : ∀ q, q < t → Asc key (q * (2 * s)) (q * (2 * s) + 2 * s) d
  hi : ∀ q, 2 * t ≤ q → Asc key (q * s) (min (q * s + s) n) d
theorem MidB.start (h : SBlk key s n d) : MidB key s 0 n d := ⟨fun q hq => by omega, fun q _ => h q⟩
theorem MidB.halves (h : MidB key s t n d) (ha : a = t * (2 * s)) : Asc key a (min (a + s) n) d ∧ Asc key (a + s) (min (a + 2 * s) n) d := by
  have e1 : 2 * t * s = a := by rw [ha, Nat.mul_comm 2 t, Nat.mul_assoc]
  have h1 := h.hi (2 * t) (Nat.le_refl _)
  have h2 := h.hi (2 * t + 1) (by omega)
  rw [Nat.add_mul, Nat.one_mul] at h2
  rw [e1] at h1 h2
  exact ⟨h1, by rwa [show a + s + s = a + 2 * s by omega] at h2⟩
theorem MidB.step (h : MidB key s t n d) (ha : a = t * (2 * s)) (hs : Stb key a (a + 2 * s) d d') (hc : Asc key a (a + 2 * s) d') : MidB key s (t + 1) n d' where
  lo q hq := by
    by_cases h1 : q = t
    · subst h1
      rw [← ha]
      exact hc
    · have h2 : (q + 1) * (2 * s) ≤ t * (2 * s) := Nat.mul_le_mul_right _ (by omega)
      rw [Nat.add_mul, Nat.one_mul] at h2
      exact (h.lo q (by omega)).congr (fun k h3 h4 => hs.out k (by omega))
  hi q hq := by
    have h2 : (2 * t + 2) * s ≤ q * s := Nat.mul_le_mul_right _ (by omega)
    have e1 : 2 * t * s = a := by rw [ha, Nat.mul_comm 2 t, Nat.mul_assoc]
    rw [Nat.add_mul, e1] at h2
    exact (h.hi q (by omega)).congr (fun k h3 h4 => hs.out k (by omega))
theorem MidB.fin (h : MidB key s t n d) (ha : a = t * (2 * s)) (hn : n < a + 2 * s) (hs : Stb key a n d d') (hc : Asc key a n d') : SBlk key (2 * s) n d' := fun q => by
  by_cases h1 : q = t
  · subst h1
    rw [← ha]
    exact hc.sub (Nat.le_refl _) (by omega)
  · by_cases h2 : q < t
    · have h3 : (q + 1) * (2 * s) ≤ t * (2 * s) := Nat.mul_le_mul_right _ (by omega)
      rw [Nat.add_mul, Nat.one_mul] at h3
      exact ((h.lo q h2).congr (fun k h4 h5 => hs.out k (by omega))).sub (Nat.le_refl _) (by omega)
    · have h3 : (t + 1) * (2 * s) ≤ q * (2 * s) := Nat.mul_le_mul_right _ (by omega)
      rw [Nat.add_mul, Nat.one_mul] at h3
      exact Asc.none _ _ (by omega) _
end
section
variable {α : Type} [Inhabited α]
theorem ins_any (k : Nat) (aE : ∀ w, (isAgg 60).run Try.prog w = .ok true w) (zE : ∀ w, (Go.sizeOf 60).run Try.prog w = .ok k w) (enc : α → List Value) (cf : α → α → Int) (key : α → Nat) (hcf : ∀ x y, cf x y < 0 ↔ key x < key y) (g : Nat) (cb : Array Value) (blk off cap : Nat) (d0 : Array α) (w0 : World)
    (eg : ∀ args w, (callFunc g args).run Try.prog w = .ok (.enter g args) w) (hcmp : CmpLays Try.prog g cb enc k cf blk off d0.size w0) (R : RowK enc k w0 blk off d0)
    (a b : Nat) (d : Array α) (w : World) (hs : d.size = d0.size) (S : SWK enc k w0 blk off d w) (hab : a ≤ b) (hb : b ≤ d.size) (hsz : d.size < 4611686018427387904) :
    Calls Try.prog 106 #[.slice (some ⟨blk, off, none⟩) d.size cap, .int .i64 a, .int .i64 b, .func (.func g) #[] cb] w fun e w' => e = .returned (.tuple #[]) ∧ ∃ d', Stb key a b d d' ∧ Asc key a b d' ∧ SWK enc k w0 blk off d' w' := by
  have hl : CmpLays Try.prog g cb enc k cf blk off d.size w := fun m os dk hdk x y => by
    obtain ⟨m', os', e⟩ := S.on R.hblk m dk os hdk
    rw [e]
    exact hcmp m' os' dk (hdk.trans hs) x y
  refine (AnyQ.insertionSortCmpFunc Try.insC k aE zE enc R.hk R.h1 cf g cb blk off cap a b d w eg hl (S.holds R.hblk R.hH hs) (S.lt R.hblk) hab hb hsz).mono ?_
  rintro e w' ⟨rfl, n, os, rfl⟩
  have hlt : ∀ x y, ltOf cf x y = decide (key x < key y) := fun x y => by
    unfold ltOf
    by_cases h : key x < key y
    · rw [decide_eq_true h, decide_eq_true ((hcf x y).2 h)]
    · rw [decide_eq_false h, decide_eq_false (fun q => h ((hcf x y).1 q))]
  obtain ⟨h1, h2⟩ := insertion_stb (key := key) hlt d hab hb
  exact ⟨rfl, _, h1, h2, S.on R.hblk n _ os h1.size⟩
theorem stable_any (k : Nat) (aE : ∀ w, (isAgg 60).run Try.prog w = .ok true w) (zE : ∀ w, (Go.sizeOf 60).run Try.prog w = .ok k w) (enc : α → List Value) (cf : α → α → Int) (key : α → Nat) (hcf : ∀ x y, cf x y < 0 ↔ key x < key y) (g : Nat) (cb : Array Value) (blk off cap : Nat) (d0 : Array α) (w0 : World)
    (eg : ∀ args w, (callFunc g args).run Try.prog w = .ok (.enter g args) w) (hcmp : CmpLays Try.prog g cb enc k cf blk off d0.size w0) (R : RowK enc k w0 blk off d0) (hsz : d0.size ≤ 1000000) :
    Calls Try.prog 95 #[.slice (some ⟨blk, off, none⟩) d0.size cap, .int .i64 d0.size, .func (.func g) #[] cb] w0 fun e w' => e = .returned (.tuple #[]) ∧ ∃ d', Stb key 0 d0.size d0 d' ∧ Asc key 0 d0.size d' ∧ SWK enc k w0 blk off d' w' := by
  have HI : Hid (∀ (a b : Nat) (d : Array α) (w : World), d.size = d0.size → SWK enc k w0 blk off d w → a ≤ b → b ≤ d0.size → Calls Try.prog 106 #[.slice (some ⟨blk, off, none⟩) d0.size cap, .int .i64 a, .int .i64 b, .func (.func g) #[] cb] w fun e w' => e = .returned (.tuple #[]) ∧ ∃ d', Stb key a b d d' ∧ Asc key a b d' ∧ SWK enc k w0 blk off d' w') := by
    refine Lib.hid (fun a b d w hs S hab hb => ?_)
    have := ins_any k aE zE enc cf key hcf g cb blk off cap d0 w0 eg hcmp R a b d w hs S hab (by omega) (by omega)
    rwa [hs] at this
  have HM : Hid (∀ (a m b : Nat) (d : Array α) (w : World), d.size = d0.size → SWK enc k w0 blk off d w → a < m → m < b → b ≤ d0.size → Asc key a m d → Asc key m b d → Calls Try.prog 107 #[.slice (some ⟨blk, off, none⟩) d0.size cap, .int .i64 a, .int .i64 m, .int .i64 b, .func (.func g) #[] cb] w fun e w' => e = .returned (.tuple #[]) ∧ ∃ d', Stb key a b d d' ∧ Asc key a b d' ∧ SWK enc k w0 blk off d' w') := by
    refine Lib.hid (fun a m b d w hs S ham hmb hb h1 h2 => ?_)
    have := symm_any k aE zE enc cf key hcf g cb blk off cap d0 w0 eg hcmp R (b - a) a m b d w rfl hs S ham hmb (by omega) (by omega) h1 h2
    rwa [hs] at this
  have S9 : Aside (SWK enc k w0 blk off d0 w0) := SWK.start R.hH
  clear hcmp hcf R aE zE eg
  obtain ⟨n, hn⟩ : ∃ n, n = d0.size := ⟨_, rfl⟩
  have HN : Aside (n = d0.size) := hn
  rw [← hn] at HI HM hsz ⊢
  clear hn
  go_enter Try.func95, Try.ntmps95
  go_wp2
  go_loopg [7, 8] (n + 1) (fun kx s7 s8 wr => ∃ (t : Nat) (dk : Array α), s7 = .int .i64 ((t : Int) * 20) ∧ s8 = .int .i64 ((t : Int) * 20 + 20) ∧ t * 20 ≤ n ∧ n + 1 - t * 20 ≤ kx ∧ Stb key 0 n d0 dk ∧ SBlk key 20 (t * 20) dk ∧ Aside (SWK enc k w0 blk off dk wr))
  case atStart => exact ⟨0, d0, rfl, rfl, by omega, by omega, Stb.refl _ _ _ _, fun q => Asc.none _ _ (by omega) _, S9⟩
  case round =>
    clear S9
    obtain ⟨t, dk, rfl, rfl, htn, hkx, hst, hbl, S1⟩ := hrel
    by_cases hlt : t * 20 + 20 ≤ n
    · have hltz : (t : Int) * 20 + 20 ≤ (n : Int) := by omega
      have HCI := Lib.hid (HI.out (t * 20) (t * 20 + 20) dk wr (hst.size.trans HN.out.symm) S1.out (by omega) hlt)
      rw [show ((t * 20 : Nat) : Int) = (t : Int) * 20 by omega, show ((t * 20 + 20 : Nat) : Int) = (t : Int) * 20 + 20 by omega] at HCI
      have HST : Aside (Stb key 0 n d0 dk) := hst
      have HBL : Aside (SBlk key 20 (t * 20) dk) := hbl
      clear hst hbl S1
      go_wp2_with (first | (go_at_call 106; (with_reducible refine HCI.out.mono ?_); rintro e2 w2 ⟨rfl, d2, hs2, ha2, S2⟩))
      go_roundg (n + 1 - (t + 1) * 20)
      case measure => omega
      case rel => exact ⟨t + 1, d2, by congr 1; omega, by congr 1; omega, by omega, Nat.le_refl _, HST.out.trans (hs2.mono (by omega) hlt (by omega)), HBL.out.step20 hs2 ha2, S2⟩
    · have hltz : ¬ (t : Int) * 20 + 20 ≤ (n : Int) := by omega
      have HCI := Lib.hid (HI.out (t * 20) n dk wr (hst.size.trans HN.out.symm) S1.out htn (Nat.le_refl _))
      rw [show ((t * 20 : Nat) : Int) = (t : Int) * 20 by omega] at HCI
      have HST : Aside (Stb key 0 n d0 dk) := hst
      have HBL : Aside (SBlk key 20 (t * 20) dk) := hbl
      clear hst hbl S1
      go_upto_region 7 with (first | (go_at_call 106; (with_reducible refine HCI.out.mono ?_); rintro e2 w2 ⟨rfl, d2, hs2, ha2, S2⟩))
      have HST2 : Aside (Stb key 0 n d0 d2) := HST.out.trans (hs2.mono (by omega) (Nat.le_refl _) htn)
      have HBL2 : Aside (SBlk key 20 n d2) := HBL.out.end20 htn (by omega) hs2 ha2
      have S9 : Aside (SWK enc k w0 blk off d2 w2) := S2
      clear HST HBL hs2 ha2 S2 HCI HI hkx
      go_loopg [6] (n + 20) (fun kx s6 wr => ∃ (s : Nat) (dk : Array α), s6 = .int .i64 s ∧ 20 ≤ s ∧ s ≤ 2 * n + 20 ∧ n + 20 - s ≤ kx ∧ Stb key 0 n d0 dk ∧ SBlk key s n dk ∧ Aside (SWK enc k w0 blk off dk wr))
      case atStart => exact ⟨20, d2, rfl, by omega, by omega, by omega, HST2.out, HBL2.out, S9⟩
      case round =>
        clear S9 HST2 HBL2
        obtain ⟨s, dk, rfl, h20, hs2n, hkx2, hst, hbl, S1⟩ := hrel
        have HST : Aside (Stb key 0 n d0 dk) := hst
        have HBL : Aside (SBlk key s n dk) := hbl
        have S9 : Aside (SWK enc k w0 blk off dk wr) := S1
        clear hst hbl S1
        by_cases hsn : s < n
        · have hsz2 : (s : Int) < (n : Int) := by omega
          go_upto_region 9 with fail
          go_loopg [7, 8] (n + 1) (fun kx s7 s8 wr => ∃ (a t : Nat) (dk : Array α), s7 = .int .i64 (a : Int) ∧ s8 = .int .i64 ((a : Int) + 2 * (s : Int)) ∧ Aside (a = t * (2 * s)) ∧ a ≤ n ∧ n + 1 - a ≤ kx ∧ Stb key 0 n d0 dk ∧ MidB key s t n dk ∧ Aside (SWK enc k w0 blk off dk wr))
          case atStart => exact ⟨0, 0, dk, rfl, by first | rfl | (congr 1; omega), (by show 0 = 0 * (2 * s); omega), by omega, by omega, HST.out, MidB.start HBL.out, S9⟩
          case round =>
            clear S9 HST HBL
            obtain ⟨a, t2, dk2, rfl, rfl, hat, han, hkx3, hst, hmid, S1⟩ := hrel
            have HST : Aside (Stb key 0 n d0 dk2) := hst
            have HMID : Aside (MidB key s t2 n dk2) := hmid
            have hdk2 : Aside (dk2.size = n) := hst.size.trans HN.out.symm
            obtain ⟨ha1, ha2⟩ := hmid.halves hat.out
            by_cases hb2 : a + 2 * s ≤ n
            · have hbz : (a : Int) + 2 * (s : Int) ≤ (n : Int) := by omega
              have HCM := Lib.hid (HM.out a (a + s) (a + 2 * s) dk2 wr hdk2.out S1.out (by omega) (by omega) hb2 (ha1.sub (Nat.le_refl _) (by omega)) (ha2.sub (Nat.le_refl _) (by omega)))
              rw [show ((a + s : Nat) : Int) = (a : Int) + (s : Int) by omega, show ((a + 2 * s : Nat) : Int) = (a : Int) + 2 * (s : Int) by omega] at HCM
              clear hst hmid S1 ha1 ha2
              go_wp2_with (first | (go_at_call 107; (with_reducible refine HCM.out.mono ?_); rintro e3 w3 ⟨rfl, d3, hs3, ha3, S3⟩))
              go_roundg (n + 1 - (a + 2 * s))
              case measure => omega
              case rel => exact ⟨a + 2 * s, t2 + 1, d3, by first | rfl | (congr 1; omega) | go_num, by first | rfl | (congr 1; omega) | go_num, (by show a + 2 * s = (t2 + 1) * (2 * s); rw [Nat.add_mul, Nat.one_mul, ← hat.out]), by omega, Nat.le_refl _, HST.out.trans (hs3.mono (by omega) hb2 (by omega)), HMID.out.step hat.out hs3 ha3, S3⟩
            · have hbz : ¬ (a : Int) + 2 * (s : Int) ≤ (n : Int) := by omega
              by_cases hm2 : a + s < n
              · have hmz : (a : Int) + (s : Int) < (n : Int) := by omega
                have HCM := Lib.hid (HM.out a (a + s) n dk2 wr hdk2.out S1.out (by omega) hm2 (Nat.le_refl _) (ha1.sub (Nat.le_refl _) (by omega)) (ha2.sub (Nat.le_refl _) (by omega)))
                rw [show ((a + s : Nat) : Int) = (a : Int) + (s : Int) by omega] at HCM
                clear hst hmid S1 ha1 ha2
                go_wp2_with (first | (go_at_call 107; (with_reducible refine HCM.out.mono ?_); rintro e3 w3 ⟨rfl, d3, hs3, ha3, S3⟩))
                go_roundg (n + 20 - 2 * s)
                case measure => omega
                case rel => exact ⟨2 * s, d3, by congr 1; omega, by omega, by omega, Nat.le_refl _, HST.out.trans (hs3.mono (by omega) (Nat.le_refl _) (by omega)), HMID.out.fin hat.out (by omega) hs3 ha3, S3⟩
              · have hmz : ¬ (a : Int) + (s : Int) < (n : Int) := by omega
                have HFIN : Aside (SBlk key (2 * s) n dk2) := HMID.out.fin hat.out (by omega) (Stb.refl _ _ _ _) (ha1.sub (Nat.le_refl _) (by omega))
                clear hst hmid ha1 ha2
                go_wp2
                go_roundg (n + 20 - 2 * s)
                case measure => omega
                case rel => exact ⟨2 * s, dk2, by congr 1; omega, by omega, by omega, Nat.le_refl _, HST.out, HFIN.out, S1⟩
        · have hsz2 : ¬ (s : Int) < (n : Int) := by omega
          go_wp2
          go_end0
          have h0 := HBL.out 0
          rw [Nat.zero_mul] at h0
          exact ⟨rfl, dk, HST.out, h0.sub (Nat.le_refl _) (by omega), S9.out⟩
theorem sortst_any (k : Nat) (aE : ∀ w, (isAgg 60).run Try.prog w = .ok true w) (zE : ∀ w, (Go.sizeOf 60).run Try.prog w = .ok k w) (enc : α → List Value) (cf : α → α → Int) (key : α → Nat) (hcf : ∀ x y, cf x y < 0 ↔ key x < key y) (g : Nat) (cb : Array Value) (blk off cap : Nat) (d0 : Array α) (w0 : World)
    (eg : ∀ args w, (callFunc g args).run Try.prog w = .ok (.enter g args) w) (hcmp : CmpLays Try.prog g cb enc k cf blk off d0.size w0) (R : RowK enc k w0 blk off d0) (hsz : d0.size ≤ 1000000) :
    Calls Try.prog 68 #[.slice (some ⟨blk, off, none⟩) d0.size cap, .func (.func g) #[] cb] w0 fun e w' => e = .returned (.tuple #[]) ∧ ∃ d', Stb key 0 d0.size d0 d' ∧ Asc key 0 d0.size d' ∧ SWK enc k w0 blk off d' w' := by
  have HC := Lib.hid (stable_any k aE zE enc cf key hcf g cb blk off cap d0 w0 eg hcmp R hsz)
  clear hcmp hcf R aE zE eg
  go_enter Try.func68, Try.ntmps68
  go_wp2_with (first | (go_at_call 95; (with_reducible refine HC.out.mono ?_); rintro e2 w2 ⟨rfl, d2, hs2, ha2, S2⟩))
  go_end0
  exact ⟨rfl, d2, hs2, ha2, S2⟩
end
end Go.Proofs.Ytbfhfnbhfeedbaa
