/- Contracts of stableCmpFunc and SortStableFunc of package slices, at contacts: what is sorted stands in order, what has the same key in the order in which it stood. Conditions: at most 1,000,000 of them; the comparison is that of a key. Rows of elements: one store, clearing the end; what is left of equal neighbours: plain lemmas. No condition. Contract of slices.CompactFunc at contacts. Conditions: at most 1,000,000 of them; what is equal has the same key. -/
import Derived.Test.YtehgpnnfjgmiiaaGreatVOja
import Derived.Test.YtehgpnnfjgmiiaaGreatVObd
import Derived.Test.YtehgpnnfjgmiiaaGreatVIiv
import Derived.Test.YtehgpnnfjgmiiaaGreatVObc
import Derived.Test.YtehgpnnfjgmiiaaGreatVROcc
import Derived.Test.YtehgpnnfjgmiiaaGreatVRERefb
import Derived.Test.YtehgpnnfjgmiiaaGreatVRKCdk
import Derived.Test.YtehgpnnfjgmiiaaGreatVRIip
import Derived.Test.YtehgpnnfjgmiiaaGreatVREOctc
import Derived.Test.YtehgpnnfjgmiiaaGreatVNCsf
import Derived.Lib.SliceRun
section
namespace Go.Proofs
set_option maxRecDepth 100000
open Go.Shelf
def Tryz.insC_ren : Go.Shelf.Ren := ⟨fun | 20 => 134 | n => n, fun | 0 => 0 | 3 => 3 | 4 => 4 | 22 => 25 | 24 => 63 | 25 => 144 | n => n, fun | n => n⟩
theorem Tryz.insC : Go.Proofs.SlLaysF0.n20 Tryz.prog Tryz.insC_ren := {
  mixed := by kernel_rfl
  f20 := ⟨Tryz.f134.name, by decide, Tryz.func134.trans (congrArg some (by kernel_rfl))⟩
  t0 := Tryz.underlying0
  a0 := Tryz.isAgg0
  z0 := Tryz.sizeOf0
  v0 := Tryz.zeroValue0
  t3 := Tryz.underlying3
  a3 := Tryz.isAgg3
  z3 := Tryz.sizeOf3
  v3 := Tryz.zeroValue3
  t4 := Tryz.underlying4
  a4 := Tryz.isAgg4
  z4 := Tryz.sizeOf4
  v4 := Tryz.zeroValue4
  t22 := Tryz.underlying25
  a22 := Tryz.isAgg25
  z22 := Tryz.sizeOf25
  v22 := Tryz.zeroValue25
  t25 := Tryz.underlying144
  a25 := Tryz.isAgg144
  z25 := Tryz.sizeOf144
  v25 := Tryz.zeroValue144 }
end Go.Proofs
namespace Go.Proofs.YtehgpnnfjgmiiaaGreat
open Go.Shelf Go.RowKit Go.Lib Go.Sort
set_option maxRecDepth 1000000
set_option maxHeartbeats 4000000
section
variable {α : Type} [Inhabited α] {key : α → Nat} {d d' : Array α} {s t n a : Nat}
/-- Each block of s stands in order, up to u. -/
def SBlk (key : α → Nat) (s u : Nat) (d : Array α) : Prop := ∀ q, AscN key (q * s) (min (q * s + s) u) d
theorem SBlk.step20 {t : Nat} (h : SBlk key 20 (t * 20) d) (hs : Stb key (t * 20) (t * 20 + 20) d d') (ha : AscN key (t * 20) (t * 20 + 20) d') : SBlk key 20 ((t + 1) * 20) d' := fun q => by
  by_cases h1 : q = t
  · subst h1
    exact ha.sub (Nat.le_refl _) (by omega)
  · by_cases h2 : q < t
    · exact ((h q).congr (fun k h3 h4 => hs.out k (by omega))).sub (Nat.le_refl _) (by omega)
    · exact AscN.none _ _ (by omega) _
theorem SBlk.end20 {t : Nat} (h : SBlk key 20 (t * 20) d) (htn : t * 20 ≤ n) (hn : n < t * 20 + 20) (hs : Stb key (t * 20) n d d') (ha : AscN key (t * 20) n d') : SBlk key 20 n d' := fun q => by
  by_cases h1 : q = t
  · subst h1
    exact ha.sub (Nat.le_refl _) (by omega)
  · by_cases h2 : q < t
    · exact ((h q).congr (fun k h3 h4 => hs.out k (by omega))).sub (Nat.le_refl _) (by omega)
    · exact AscN.none _ _ (by omega) _
/-- Up to t the blocks are merged by two. -/
structure MidB (key : α → Nat) (s t n : Nat) (d : Array α) : Prop where
  lo : ∀ q, q < t → AscN key (q * (2 * s)) (q * (2 * s) + 2 * s) d
  hi : ∀ q, 2 * t ≤ q → AscN key (q * s) (min (q * s + s) n) d
theorem MidB.start (h : SBlk key s n d) : MidB key s 0 n d := ⟨fun q hq => by omega, fun q _ => h q⟩
theorem MidB.halves (h : MidB key s t n d) (ha : a = t * (2 * s)) : AscN key a (min (a + s) n) d ∧ AscN key (a + s) (min (a + 2 * s) n) d := by
  have e1 : 2 * t * s = a := by rw [ha, Nat.mul_comm 2 t, Nat.mul_assoc]
  have h1 := h.hi (2 * t) (Nat.le_refl _)
  have h2 := h.hi (2 * t + 1) (by omega)
  rw [Nat.add_mul, Nat.one_mul] at h2
  rw [e1] at h1 h2
  exact ⟨h1, by rwa [show a + s + s = a + 2 * s by omega] at h2⟩
theorem MidB.step (h : MidB key s t n d) (ha : a = t * (2 * s)) (hs : Stb key a (a + 2 * s) d d') (hc : AscN key a (a + 2 * s) d') : MidB key s (t + 1) n d' where
  lo q hq := by
    by_cases h1 : q = t
    · subst h1
      rw [← ha]
      exact hc
    · have h2 : (q + 1) * (2 * s) ≤ t * (2 * s) := Nat.mul_le_mul_right _ (by omega)
      rw [Nat.add_mul, Nat.one_mul] at h2
      exact (h.lo q (by omega)).congr (fun k h3 h4 => hs.out k (by omega))
  hi q hq := by
    have h2 : (2 * t + 2) * s ≤ q * s := Nat.mul_le_mul_right _ (by omega)
    have e1 : 2 * t * s = a := by rw [ha, Nat.mul_comm 2 t, Nat.mul_assoc]
    rw [Nat.add_mul, e1] at h2
    exact (h.hi q (by omega)).congr (fun k h3 h4 => hs.out k (by omega))
theorem MidB.fin (h : MidB key s t n d) (ha : a = t * (2 * s)) (hn : n < a + 2 * s) (hs : Stb key a n d d') (hc : AscN key a n d') : SBlk key (2 * s) n d' := fun q => by
  by_cases h1 : q = t
  · subst h1
    rw [← ha]
    exact hc.sub (Nat.le_refl _) (by omega)
  · by_cases h2 : q < t
    · have h3 : (q + 1) * (2 * s) ≤ t * (2 * s) := Nat.mul_le_mul_right _ (by omega)
      rw [Nat.add_mul, Nat.one_mul] at h3
      exact ((h.lo q h2).congr (fun k h4 h5 => hs.out k (by omega))).sub (Nat.le_refl _) (by omega)
    · have h3 : (t + 1) * (2 * s) ≤ q * (2 * s) := Nat.mul_le_mul_right _ (by omega)
      rw [Nat.add_mul, Nat.one_mul] at h3
      exact AscN.none _ _ (by omega) _
end
section
variable {α : Type} [Inhabited α]
theorem ins_any (k : Nat) (aE : ∀ w, (isAgg 63).run Tryz.prog w = .ok true w) (zE : ∀ w, (Go.sizeOf 63).run Tryz.prog w = .ok k w) (enc : α → List Value) (cf : α → α → Int) (key : α → Nat) (hcf : ∀ x y, cf x y < 0 ↔ key x < key y) (g : Nat) (cb : Array Value) (blk off cap : Nat) (d0 : Array α) (w0 : World)
    (eg : ∀ args w, (callFunc g args).run Tryz.prog w = .ok (.enter g args) w) (hcmp : CmpLays Tryz.prog g cb enc k cf blk off d0.size w0) (R : RowK enc k w0 blk off d0)
    (a b : Nat) (d : Array α) (w : World) (hs : d.size = d0.size) (S : SWK enc k w0 blk off d w) (hab : a ≤ b) (hb : b ≤ d.size) (hsz : d.size < 4611686018427387904) :
    Calls Tryz.prog 134 #[.slice (some ⟨blk, off, none⟩) d.size cap, .int .i64 a, .int .i64 b, .func (.func g) #[] cb] w fun e w' => e = .returned (.tuple #[]) ∧ ∃ d', Stb key a b d d' ∧ AscN key a b d' ∧ SWK enc k w0 blk off d' w' := by
  have hl : CmpLays Tryz.prog g cb enc k cf blk off d.size w := fun m os dk hdk x y => by
    obtain ⟨m', os', e⟩ := S.on R.hblk m dk os hdk
    rw [e]
    exact hcmp m' os' dk (hdk.trans hs) x y
  refine (AnyQ.insertionSortCmpFunc Tryz.insC k aE zE enc R.hk R.h1 cf g cb blk off cap a b d w eg hl (S.holds R.hblk R.hH hs) (S.lt R.hblk) hab hb hsz).mono ?_
  rintro e w' ⟨rfl, n, os, rfl⟩
  have hlt : ∀ x y, ltOf cf x y = decide (key x < key y) := fun x y => by
    unfold ltOf
    by_cases h : key x < key y
    · rw [decide_eq_true h, decide_eq_true ((hcf x y).2 h)]
    · rw [decide_eq_false h, decide_eq_false (fun q => h ((hcf x y).1 q))]
  obtain ⟨h1, h2⟩ := insertion_stb (key := key) hlt d hab hb
  exact ⟨rfl, _, h1, h2, S.on R.hblk n _ os h1.size⟩
theorem stable_any (k : Nat) (aE : ∀ w, (isAgg 63).run Tryz.prog w = .ok true w) (zE : ∀ w, (Go.sizeOf 63).run Tryz.prog w = .ok k w) (enc : α → List Value) (cf : α → α → Int) (key : α → Nat) (hcf : ∀ x y, cf x y < 0 ↔ key x < key y) (g : Nat) (cb : Array Value) (blk off cap : Nat) (d0 : Array α) (w0 : World)
    (eg : ∀ args w, (callFunc g args).run Tryz.prog w = .ok (.enter g args) w) (hcmp : CmpLays Tryz.prog g cb enc k cf blk off d0.size w0) (R : RowK enc k w0 blk off d0) (hsz : d0.size ≤ 1000000) :
    Calls Tryz.prog 127 #[.slice (some ⟨blk, off, none⟩) d0.size cap, .int .i64 d0.size, .func (.func g) #[] cb] w0 fun e w' => e = .returned (.tuple #[]) ∧ ∃ d', Stb key 0 d0.size d0 d' ∧ AscN key 0 d0.size d' ∧ SWK enc k w0 blk off d' w' := by
  have HI : Hid (∀ (a b : Nat) (d : Array α) (w : World), d.size = d0.size → SWK enc k w0 blk off d w → a ≤ b → b ≤ d0.size → Calls Tryz.prog 134 #[.slice (some ⟨blk, off, none⟩) d0.size cap, .int .i64 a, .int .i64 b, .func (.func g) #[] cb] w fun e w' => e = .returned (.tuple #[]) ∧ ∃ d', Stb key a b d d' ∧ AscN key a b d' ∧ SWK enc k w0 blk off d' w') := by
    refine Lib.hid (fun a b d w hs S hab hb => ?_)
    have := ins_any k aE zE enc cf key hcf g cb blk off cap d0 w0 eg hcmp R a b d w hs S hab (by omega) (by omega)
    rwa [hs] at this
  have HM : Hid (∀ (a m b : Nat) (d : Array α) (w : World), d.size = d0.size → SWK enc k w0 blk off d w → a < m → m < b → b ≤ d0.size → AscN key a m d → AscN key m b d → Calls Tryz.prog 135 #[.slice (some ⟨blk, off, none⟩) d0.size cap, .int .i64 a, .int .i64 m, .int .i64 b, .func (.func g) #[] cb] w fun e w' => e = .returned (.tuple #[]) ∧ ∃ d', Stb key a b d d' ∧ AscN key a b d' ∧ SWK enc k w0 blk off d' w') := by
    refine Lib.hid (fun a m b d w hs S ham hmb hb h1 h2 => ?_)
    have := symm_any k aE zE enc cf key hcf g cb blk off cap d0 w0 eg hcmp R (b - a) a m b d w rfl hs S ham hmb (by omega) (by omega) h1 h2
    rwa [hs] at this
  have S9 : Aside (SWK enc k w0 blk off d0 w0) := SWK.start R.hH
  clear hcmp hcf R aE zE eg
  obtain ⟨n, hn⟩ : ∃ n, n = d0.size := ⟨_, rfl⟩
  have HN : Aside (n = d0.size) := hn
  rw [← hn] at HI HM hsz ⊢
  clear hn
  go_enter Tryz.func127, Tryz.ntmps127
  go_wp2
  go_loopg [7, 8] (n + 1) (fun kx s7 s8 wr => ∃ (t : Nat) (dk : Array α), s7 = .int .i64 ((t : Int) * 20) ∧ s8 = .int .i64 ((t : Int) * 20 + 20) ∧ t * 20 ≤ n ∧ n + 1 - t * 20 ≤ kx ∧ Stb key 0 n d0 dk ∧ SBlk key 20 (t * 20) dk ∧ Aside (SWK enc k w0 blk off dk wr))
  case atStart => exact ⟨0, d0, rfl, rfl, by omega, by omega, Stb.refl _ _ _ _, fun q => AscN.none _ _ (by omega) _, S9⟩
  case round =>
    clear S9
    obtain ⟨t, dk, rfl, rfl, htn, hkx, hst, hbl, S1⟩ := hrel
    by_cases hlt : t * 20 + 20 ≤ n
    · have hltz : (t : Int) * 20 + 20 ≤ (n : Int) := by omega
      have HCI := Lib.hid (HI.out (t * 20) (t * 20 + 20) dk wr (hst.size.trans HN.out.symm) S1.out (by omega) hlt)
      rw [show ((t * 20 : Nat) : Int) = (t : Int) * 20 by omega, show ((t * 20 + 20 : Nat) : Int) = (t : Int) * 20 + 20 by omega] at HCI
      have HST : Aside (Stb key 0 n d0 dk) := hst
      have HBL : Aside (SBlk key 20 (t * 20) dk) := hbl
      clear hst hbl S1
      go_wp2_with (first | (go_at_call 134; (with_reducible refine HCI.out.mono ?_); rintro e2 w2 ⟨rfl, d2, hs2, ha2, S2⟩))
      go_roundg (n + 1 - (t + 1) * 20)
      case measure => omega
      case rel => exact ⟨t + 1, d2, by congr 1; omega, by congr 1; omega, by omega, Nat.le_refl _, HST.out.trans (hs2.mono (by omega) hlt (by omega)), HBL.out.step20 hs2 ha2, S2⟩
    · have hltz : ¬ (t : Int) * 20 + 20 ≤ (n : Int) := by omega
      have HCI := Lib.hid (HI.out (t * 20) n dk wr (hst.size.trans HN.out.symm) S1.out htn (Nat.le_refl _))
      rw [show ((t * 20 : Nat) : Int) = (t : Int) * 20 by omega] at HCI
      have HST : Aside (Stb key 0 n d0 dk) := hst
      have HBL : Aside (SBlk key 20 (t * 20) dk) := hbl
      clear hst hbl S1
      go_upto_region 7 with (first | (go_at_call 134; (with_reducible refine HCI.out.mono ?_); rintro e2 w2 ⟨rfl, d2, hs2, ha2, S2⟩))
      have HST2 : Aside (Stb key 0 n d0 d2) := HST.out.trans (hs2.mono (by omega) (Nat.le_refl _) htn)
      have HBL2 : Aside (SBlk key 20 n d2) := HBL.out.end20 htn (by omega) hs2 ha2
      have S9 : Aside (SWK enc k w0 blk off d2 w2) := S2
      clear HST HBL hs2 ha2 S2 HCI HI hkx
      go_loopg [6] (n + 20) (fun kx s6 wr => ∃ (s : Nat) (dk : Array α), s6 = .int .i64 s ∧ 20 ≤ s ∧ s ≤ 2 * n + 20 ∧ n + 20 - s ≤ kx ∧ Stb key 0 n d0 dk ∧ SBlk key s n dk ∧ Aside (SWK enc k w0 blk off dk wr))
      case atStart => exact ⟨20, d2, rfl, by omega, by omega, by omega, HST2.out, HBL2.out, S9⟩
      case round =>
        clear S9 HST2 HBL2
        obtain ⟨s, dk, rfl, h20, hs2n, hkx2, hst, hbl, S1⟩ := hrel
        have HST : Aside (Stb key 0 n d0 dk) := hst
        have HBL : Aside (SBlk key s n dk) := hbl
        have S9 : Aside (SWK enc k w0 blk off dk wr) := S1
        clear hst hbl S1
        by_cases hsn : s < n
        · have hsz2 : (s : Int) < (n : Int) := by omega
          go_upto_region 9 with fail
          go_loopg [7, 8] (n + 1) (fun kx s7 s8 wr => ∃ (a t : Nat) (dk : Array α), s7 = .int .i64 (a : Int) ∧ s8 = .int .i64 ((a : Int) + 2 * (s : Int)) ∧ Aside (a = t * (2 * s)) ∧ a ≤ n ∧ n + 1 - a ≤ kx ∧ Stb key 0 n d0 dk ∧ MidB key s t n dk ∧ Aside (SWK enc k w0 blk off dk wr))
          case atStart => exact ⟨0, 0, dk, rfl, by first | rfl | (congr 1; omega), (by show 0 = 0 * (2 * s); omega), by omega, by omega, HST.out, MidB.start HBL.out, S9⟩
          case round =>
            clear S9 HST HBL
            obtain ⟨a, t2, dk2, rfl, rfl, hat, han, hkx3, hst, hmid, S1⟩ := hrel
            have HST : Aside (Stb key 0 n d0 dk2) := hst
            have HMID : Aside (MidB key s t2 n dk2) := hmid
            have hdk2 : Aside (dk2.size = n) := hst.size.trans HN.out.symm
            obtain ⟨ha1, ha2⟩ := hmid.halves hat.out
            by_cases hb2 : a + 2 * s ≤ n
            · have hbz : (a : Int) + 2 * (s : Int) ≤ (n : Int) := by omega
              have HCM := Lib.hid (HM.out a (a + s) (a + 2 * s) dk2 wr hdk2.out S1.out (by omega) (by omega) hb2 (ha1.sub (Nat.le_refl _) (by omega)) (ha2.sub (Nat.le_refl _) (by omega)))
              rw [show ((a + s : Nat) : Int) = (a : Int) + (s : Int) by omega, show ((a + 2 * s : Nat) : Int) = (a : Int) + 2 * (s : Int) by omega] at HCM
              clear hst hmid S1 ha1 ha2
              go_wp2_with (first | (go_at_call 135; (with_reducible refine HCM.out.mono ?_); rintro e3 w3 ⟨rfl, d3, hs3, ha3, S3⟩))
              go_roundg (n + 1 - (a + 2 * s))
              case measure => omega
              case rel => exact ⟨a + 2 * s, t2 + 1, d3, by first | rfl | (congr 1; omega) | go_num, by first | rfl | (congr 1; omega) | go_num, (by show a + 2 * s = (t2 + 1) * (2 * s); rw [Nat.add_mul, Nat.one_mul, ← hat.out]), by omega, Nat.le_refl _, HST.out.trans (hs3.mono (by omega) hb2 (by omega)), HMID.out.step hat.out hs3 ha3, S3⟩
            · have hbz : ¬ (a : Int) + 2 * (s : Int) ≤ (n : Int) := by omega
              by_cases hm2 : a + s < n
              · have hmz : (a : Int) + (s : Int) < (n : Int) := by omega
                have HCM := Lib.hid (HM.out a (a + s) n dk2 wr hdk2.out S1.out (by omega) hm2 (Nat.le_refl _) (ha1.sub (Nat.le_refl _) (by omega)) (ha2.sub (Nat.le_refl _) (by omega)))
                rw [show ((a + s : Nat) : Int) = (a : Int) + (s : Int) by omega] at HCM
                clear hst hmid S1 ha1 ha2
                go_wp2_with (first | (go_at_call 135; (with_reducible refine HCM.out.mono ?_); rintro e3 w3 ⟨rfl, d3, hs3, ha3, S3⟩))
                go_roundg (n + 20 - 2 * s)
                case measure => omega
                case rel => exact ⟨2 * s, d3, by congr 1; omega, by omega, by omega, Nat.le_refl _, HST.out.trans (hs3.mono (by omega) (Nat.le_refl _) (by omega)), HMID.out.fin hat.out (by omega) hs3 ha3, S3⟩
              · have hmz : ¬ (a : Int) + (s : Int) < (n : Int) := by omega
                have HFIN : Aside (SBlk key (2 * s) n dk2) := HMID.out.fin hat.out (by omega) (Stb.refl _ _ _ _) (ha1.sub (Nat.le_refl _) (by omega))
                clear hst hmid ha1 ha2
                go_wp2
                go_roundg (n + 20 - 2 * s)
                case measure => omega
                case rel => exact ⟨2 * s, dk2, by congr 1; omega, by omega, by omega, Nat.le_refl _, HST.out, HFIN.out, S1⟩
        · have hsz2 : ¬ (s : Int) < (n : Int) := by omega
          go_wp2
          go_end0
          have h0 := HBL.out 0
          rw [Nat.zero_mul] at h0
          exact ⟨rfl, dk, HST.out, h0.sub (Nat.le_refl _) (by omega), S9.out⟩
theorem sortst_any (k : Nat) (aE : ∀ w, (isAgg 63).run Tryz.prog w = .ok true w) (zE : ∀ w, (Go.sizeOf 63).run Tryz.prog w = .ok k w) (enc : α → List Value) (cf : α → α → Int) (key : α → Nat) (hcf : ∀ x y, cf x y < 0 ↔ key x < key y) (g : Nat) (cb : Array Value) (blk off cap : Nat) (d0 : Array α) (w0 : World)
    (eg : ∀ args w, (callFunc g args).run Tryz.prog w = .ok (.enter g args) w) (hcmp : CmpLays Tryz.prog g cb enc k cf blk off d0.size w0) (R : RowK enc k w0 blk off d0) (hsz : d0.size ≤ 1000000) :
    Calls Tryz.prog 115 #[.slice (some ⟨blk, off, none⟩) d0.size cap, .func (.func g) #[] cb] w0 fun e w' => e = .returned (.tuple #[]) ∧ ∃ d', Stb key 0 d0.size d0 d' ∧ AscN key 0 d0.size d' ∧ SWK enc k w0 blk off d' w' := by
  have HC := Lib.hid (stable_any k aE zE enc cf key hcf g cb blk off cap d0 w0 eg hcmp R hsz)
  clear hcmp hcf R aE zE eg
  go_enter Tryz.func115, Tryz.ntmps115
  go_wp2_with (first | (go_at_call 127; (with_reducible refine HC.out.mono ?_); rintro e2 w2 ⟨rfl, d2, hs2, ha2, S2⟩))
  go_end0
  exact ⟨rfl, d2, hs2, ha2, S2⟩
end
end Go.Proofs.YtehgpnnfjgmiiaaGreat
end
section
namespace Go.Proofs.YtehgpnnfjgmiiaaGreat
open Go.Shelf Go.RowKit Go.Lib Go.Sort
set_option maxRecDepth 100000
section
variable {α : Type} [Inhabited α]
theorem get_set! (d : Array α) (i k : Nat) (x : α) (hi : i < d.size) : (d.setIfInBounds i x)[k]! = if k = i then x else d[k]! := by
  simp only [getElem!_def, Array.getElem?_setIfInBounds]
  by_cases h : k = i
  · subst h; simp [hi]
  · simp [Ne.symm h, h]
theorem setMany_one (enc : α → List Value) (k : Nat) (hk : ∀ x, (enc x).length = k) (d : Array α) (i : Nat) (hi : i < d.size) (x : α) :
    setMany (flatK enc k d) (i * k) (enc x) = flatK enc k (d.setIfInBounds i x) := by
  refine ext_get! (by simp) fun t ht => ?_
  have ht' : t < d.size * k := by simpa using ht
  have k0 : 0 < k := by
    rcases Nat.eq_zero_or_pos k with h | h
    · subst h; simp at ht'
    · exact h
  rw [get_setMany _ _ _ t (by simpa using ht'), get_flatK _ _ _ t ht', get_flatK _ _ _ t (by simpa using ht'), hk, get_set! d i _ x hi]
  by_cases a : t / k = i
  · rw [if_pos ((blk_iff k i t k0).2 a), if_pos a, show t - i * k = t % k by subst a; rw [Nat.mod_eq_sub_div_mul]]
  · rw [if_neg (fun h => a ((blk_iff k i t k0).1 h)), if_neg a]
variable {enc : α → List Value} {k : Nat} {w0 W : World} {blk off : Nat} {dk d0 : Array α}
/-- A store of one element. -/
theorem swk_put1 (h : SWK enc k w0 blk off dk W) (R : RowK enc k w0 blk off d0) (i : Nat) (hi : i < dk.size) (y : α) : SWK enc k w0 blk off (dk.setIfInBounds i y) (W.setCells blk (off + i * k) (enc y)) := by
  obtain ⟨m, os, rfl⟩ := h
  refine ⟨m, os, ?_⟩
  unfold sortWorldK
  rw [setCells_grow os blk _ _ _ (by rw [size_putRowK]; exact R.hblk)]
  congr 1
  unfold putRowK
  rw [setCells_putRow _ _ _ _ _ _ (by rw [R.hk, size_flatK]; exact rowK_bnd dk k i hi), setMany_one enc k R.hk dk i hi y]
theorem swk_st0 (h : SWK enc k w0 blk off dk W) (R : RowK enc k w0 blk off d0) (hs : dk.size = d0.size) (P : Program) (i : Nat) (hi : i < dk.size) (y : α) :
    Sem.run P (storeCells ⟨blk, off + i * k, none⟩ (enc y) 0) W = .ok () (W.setCells blk (off + i * k) (enc y)) :=
  stores_of_holds P (h.holds R.hblk R.hH hs) (i * k) _ (by rw [R.hk, size_flatK]; exact rowK_bnd dk k i hi) (R.h1 _)
/-- What is left of the first n if equal neighbours are left out. -/
def ddK (key : α → Nat) (d : Array α) : Nat → List α
  | 0 => []
  | n + 1 => if n = 0 ∨ key d[n]! ≠ key d[n - 1]! then ddK key d n ++ [d[n]!] else ddK key d n
theorem ddK_len (key : α → Nat) (d : Array α) : ∀ n, (ddK key d n).length ≤ n
  | 0 => Nat.le_refl _
  | n + 1 => by
    have := ddK_len key d n
    rw [ddK]
    split
    · rw [List.length_append, List.length_singleton]; omega
    · omega
theorem ddK_all (key : α → Nat) (d : Array α) : ∀ n, (∀ j, 0 < j → j < n → key d[j]! ≠ key d[j - 1]!) → ddK key d n = seg d 0 n
  | 0, _ => rfl
  | n + 1, h => by
    rw [ddK, if_pos (by
      by_cases h0 : n = 0
      · exact .inl h0
      · exact .inr (h n (by omega) (by omega))), ddK_all key d n (fun j h1 h2 => h j h1 (by omega)), seg_append d (show 0 ≤ n by omega) (show n ≤ n + 1 by omega)]
    congr 1
    simp [seg]
/-- A row that begins with the elements l holds their cells. -/
theorem swk_range (h : SWK enc k w0 blk off dk W) (R : RowK enc k w0 blk off d0) (hs : dk.size = d0.size) (hk0 : 0 < k) (l : List α) (hl : l.length ≤ dk.size) (he : ∀ (j : Nat) (x : α), l[j]? = some x → dk[j]! = x) : W.rangeAt blk off (flatE enc l) := by
  intro t v hv
  have ht := (List.getElem?_eq_some_iff.1 hv).1
  rw [flatE_length R.hk] at ht
  have hj : t / k < l.length := Nat.div_lt_of_lt_mul (by rw [Nat.mul_comm]; exact ht)
  have hc : t % k < k := Nat.mod_lt _ hk0
  have e := flatE_get R.hk hk0 l (t / k) _ (t % k) (List.getElem?_eq_getElem hj) hc
  have et : t / k * k + t % k = t := by rw [Nat.mul_comm]; exact Nat.div_add_mod t k
  rw [et, hv] at e
  have hH := h.holds R.hblk R.hH hs
  have := HoldsK.cell hH (i := t / k) (c := t % k) (by omega) hc
  rw [he _ _ (List.getElem?_eq_getElem hj)] at this
  rw [show off + (t / k) * k + t % k = off + t by rw [Nat.add_assoc, et]] at this
  have hlt : t % k < (enc l[t / k]).length := by rw [R.hk]; exact hc
  rw [List.getElem?_eq_getElem hlt] at e
  rw [this.1, e]
  exact congrArg some (getElem!_pos (enc l[t / k]) (t % k) hlt)
theorem swk_bel (h : SWK enc k w0 blk off dk W) {B : Nat} (hB : B ≤ blk) (hb : blk < w0.heap.size) : Below B w0 W := by
  obtain ⟨n, os, rfl⟩ := h
  refine ⟨rfl, rfl, rfl, ?_, fun i hi => ?_⟩
  · exact size_sortWorldK_c enc k w0 blk off n dk os
  · unfold sortWorldK putRowK grow putRow mapBlock Sort.ahead
    simp only
    rw [Array.getElem?_append_left (by simp; omega), Array.getElem?_modify, if_neg (by omega)]
end
end Go.Proofs.YtehgpnnfjgmiiaaGreat
end
section
namespace Go.Proofs.YtehgpnnfjgmiiaaGreat
set_option maxRecDepth 100000
open Go.Shelf Go.RowKit Go.Lib Go.Sort
set_option maxRecDepth 1000000
set_option maxHeartbeats 4000000
section
variable {α : Type} [Inhabited α]
/-- What is asked of the function that tells equal ones. -/
def EqLays (P : Program) (g : Nat) (cb : Array Value) (enc : α → List Value) (k : Nat) (ef : α → α → Bool) (blk off size : Nat) (w : World) : Prop :=
  ∀ (m : Nat) (os : Array Obj) (dk : Array α), dk.size = size → ∀ x y : α,
    Calls P g (#[.agg (enc x).toArray, .agg (enc y).toArray] ++ cb) (sortWorldK enc k w blk off m dk os) fun e w' => e = .returned (.bool (ef x y)) ∧ ∃ q os', w' = grow ((sortWorldK enc k w blk off m dk os).drewN q) os'
theorem swk_eqs {P : Program} {enc : α → List Value} {k : Nat} {w0 W : World} {blk off : Nat} {dk : Array α} {g : Nat} {cb : Array Value} {ef : α → α → Bool} {size : Nat} (h : SWK enc k w0 blk off dk W) (hC : EqLays P g cb enc k ef blk off size w0) (hs : dk.size = size) (x y : α) (n : Nat) (os : Array Obj) :
    Calls P g (#[.agg (enc x).toArray, .agg (enc y).toArray] ++ cb) (grow (W.drewN n) os) fun e w' => e = .returned (.bool (ef x y)) ∧ ∃ q os', w' = grow ((grow (W.drewN n) os).drewN q) os' := by
  obtain ⟨m, os0, hw⟩ := h.grown n os
  rw [hw]
  exact hC m os0 dk hs x y
theorem run_clear_con (k : Nat) (Z : Array Value) (hz : ∀ W, (zeroValue 63).run Tryz.prog W = .ok (.agg Z) W) (hZs : Z.size = k) (hk0 : 0 < k) (hZ1 : ∀ v ∈ Z, v.oneCell' = true) (w : World) (ty : TypeId) (b o n c : Nat) (ht : w.there b o (n * k)) :
    ∃ vs : List Value, vs.length = n * k ∧ (Builtin.clear_ #[25] ty #[.slice (some ⟨b, o, none⟩) n c]).run Tryz.prog w = .ok (.tuple #[]) (w.setCells b o vs) := by
  have hl : (Builtin.zeroCells Z n).toList.length = n * k := by rw [Array.length_toList, size_zeroCells, hZs]
  refine ⟨(Builtin.zeroCells Z n).toList, hl, ?_⟩
  have h1 : ∀ v ∈ (Builtin.zeroCells Z n).toList, v.oneCell' = true := by
    intro v hv
    rw [Array.mem_toList_iff] at hv
    unfold Builtin.zeroCells at hv
    obtain ⟨j, _, rfl⟩ := Array.mem_map.1 hv
    have hj : j % Z.size < Z.size := Nat.mod_lt _ (by omega)
    rw [getElem!_pos Z (j % Z.size) hj]
    exact hZ1 _ (Array.getElem_mem hj)
  have hst := run_storeCells_cells (P := Tryz.prog) b o (Builtin.zeroCells Z n).toList 0 w (fun j hj => by simpa using (ht j (by omega)).1) (fun j hj => by simpa using (ht j (by omega)).2) h1
  simp only [Nat.add_zero] at hst
  cases n with
  | zero =>
    have : (Builtin.zeroCells Z 0).toList = [] := List.eq_nil_of_length_eq_zero (by simpa using hl)
    rw [this]
    simp [Builtin.clear_, run_underlying Tryz.underlying25, World.setCells]
  | succ m => simp [Builtin.clear_, run_underlying Tryz.underlying25, hz, Value.cells, hst]
theorem wpList_clear_con (k : Nat) (Z : Array Value) (hz : ∀ W, (zeroValue 63).run Tryz.prog W = .ok (.agg Z) W) (hZs : Z.size = k) (hk0 : 0 < k) (hZ1 : ∀ v ∈ Z, v.oneCell' = true) {w : World} {ops : Array Oper} {rest : List Oper} {o : Oper} {a : Act} {Q : Exit → Act → World → Prop} (hgd : o.guard = none) (x : Operand) (ho : o.op = .call { callee := .builtin .clear, args := #[x], argTypes := #[25] })
    (b f n c : Nat) (hx : a.eval x = .slice (some ⟨b, f, none⟩) n c) (ht : w.there b f (n * k))
    (h : ∀ vs : List Value, vs.length = n * k → wpList Tryz.prog ops Q rest (a.put o.dst (.tuple #[])) (w.setCells b f vs)) : wpList Tryz.prog ops Q (o :: rest) a w :=
  wpList_plain hgd fun _ hK => by
    obtain ⟨vs, hl, hr⟩ := run_clear_con k Z hz hZs hk0 hZ1 w o.type b f n c ht
    unfold Oper.wp execOp
    simp only [ho, resolve, invoke, builtin, Sem.run_bind, Sem.run_pure, Result.andThen_ok, List.map_toArray, List.map_cons, List.map_nil, hx, hr]
    exact hK _ _ (h vs hl)
end
end Go.Proofs.YtehgpnnfjgmiiaaGreat
end
