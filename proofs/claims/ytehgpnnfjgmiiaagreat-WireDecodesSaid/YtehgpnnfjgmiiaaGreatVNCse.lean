/- Contract of symMergeCmpFunc of package slices, at contacts: what is sorted in two parts is merged, in order. Conditions: fewer than 2^62 of them; the comparison is that of a key. -/
import Derived.Test.YtehgpnnfjgmiiaaGreatVOja
import Derived.Test.YtehgpnnfjgmiiaaGreatVObd
import Derived.Test.YtehgpnnfjgmiiaaGreatVIiv
import Derived.Test.YtehgpnnfjgmiiaaGreatVObc
import Derived.Test.YtehgpnnfjgmiiaaGreatVROcc
import Derived.Test.YtehgpnnfjgmiiaaGreatVRERefb
import Derived.Test.YtehgpnnfjgmiiaaGreatVRKCdk
import Derived.Test.YtehgpnnfjgmiiaaGreatVRIip
import Derived.Test.YtehgpnnfjgmiiaaGreatVREOctc
import Derived.Test.YtehgpnnfjgmiiaaGreatVNCsb
namespace Go.Proofs.YtehgpnnfjgmiiaaGreat
set_option maxRecDepth 100000
open Go.Shelf Go.RowKit Go.Lib Go.Sort
set_option maxRecDepth 1000000
set_option maxHeartbeats 4000000
section
variable {α : Type} [Inhabited α]
theorem symm_down (k : Nat) (aE : ∀ w, (isAgg 63).run Tryz.prog w = .ok true w) (zE : ∀ w, (Go.sizeOf 63).run Tryz.prog w = .ok k w) (enc : α → List Value) (cf : α → α → Int) (key : α → Nat) (hcf : ∀ x y, cf x y < 0 ↔ key x < key y) (g : Nat) (cb : Array Value) (blk off cap : Nat) (d0 : Array α) (w0 : World)
    (eg : ∀ args w, (callFunc g args).run Tryz.prog w = .ok (.enter g args) w) (hcmp : CmpLays Tryz.prog g cb enc k cf blk off d0.size w0) (R : RowK enc k w0 blk off d0)
    (a m : Nat) (d : Array α) (w : World) (hs : d.size = d0.size) (S : SWK enc k w0 blk off d w) (ham : a + 1 < m) (hb : m + 1 ≤ d.size) (hsz : d.size < 4611686018427387904) (h1 : AscN key a m d) :
    Calls Tryz.prog 135 #[.slice (some ⟨blk, off, none⟩) d.size cap, .int .i64 a, .int .i64 m, .int .i64 ((m : Int) + 1), .func (.func g) #[] cb] w fun e w' => e = .returned (.tuple #[]) ∧ ∃ d', Stb key a (m + 1) d d' ∧ AscN key a (m + 1) d' ∧ SWK enc k w0 blk off d' w' := by
  have mixed : Tryz.prog.follows Departure.mixedOrders = true := by kernel_rfl
  have HC : Aside (CmpLays Tryz.prog g cb enc k cf blk off d0.size w0) := hcmp
  have HCF : Aside (∀ x y, cf x y < 0 ↔ key x < key y) := hcf
  have HDS : Aside (d.size = d0.size) := hs
  have HSZ : Aside (d.size = d0.size) := hs
  have S9 : Aside (SWK enc k w0 blk off d w) := S
  clear S hs hcmp hcf
  have HA1 : Aside (AscN key a m d) := h1
  have hq1 : ((m : Int) - (a : Int) == 1) = false := by simp; omega
  have hq2 : (m : Int) + 1 - (m : Int) = 1 := by omega
  clear h1
  go_enter Tryz.func135, Tryz.ntmps135
  go_wp2
  go_loopg [14, 15] (m - a) (fun kx s14 s15 wr => ∃ (i j : Nat), s14 = .int .i64 i ∧ s15 = .int .i64 j ∧ a ≤ i ∧ i ≤ j ∧ j ≤ m ∧ j - i ≤ kx ∧ (i = a ∨ key d[i - 1]! ≤ key d[m]!) ∧ (j = m ∨ key d[m]! < key d[j]!) ∧ Aside (SWK enc k w0 blk off d wr))
  case atStart => exact ⟨a, m, rfl, rfl, Nat.le_refl _, by omega, Nat.le_refl _, Nat.le_refl _, .inl rfl, .inl rfl, S9⟩
  case round =>
    clear S9
    obtain ⟨i, j, rfl, rfl, hai, hij, hjb, hkx, hlo, hhi, S1⟩ := hrel
    have HLO : Aside (i = a ∨ key d[i - 1]! ≤ key d[m]!) := hlo
    have HHI : Aside (j = m ∨ key d[m]! < key d[j]!) := hhi
    clear hlo hhi
    by_cases hlt : i < j
    · have hltz : (i : Int) < (j : Int) := by omega
      go_upto_region 17 with fail
      obtain ⟨h, hh⟩ : ∃ h : Nat, h = (i + j) / 2 := ⟨_, rfl⟩
      have he : ((i : Int) + (j : Int)) / 2 = (h : Int) := by omega
      have h1 : i ≤ h := by omega
      have h3 : h < j := by omega
      rw [he]
      clear he hh
      have ex : ((m : Int)).toNat = m := by omega
      have px : (0 : Int) ≤ (m : Int) := by omega
      have bdx : (m : Int) < (d.size : Int) := by omega
      have rx : IntKind.i64.wrap ((m : Int)) = (m : Int) := by rw [IntKind.wrap_i64]; omega
      have ey : ((h : Int)).toNat = h := by omega
      have py : (0 : Int) ≤ (h : Int) := by omega
      have bdy : (h : Int) < (d.size : Int) := by omega
      have ry : IntKind.i64.wrap ((h : Int)) = (h : Int) := by rw [IntKind.wrap_i64]; omega
      obtain ⟨x, hx⟩ : ∃ x, x = d[m]! := ⟨_, rfl⟩
      obtain ⟨y, hy⟩ : ∃ x, x = d[h]! := ⟨_, rfl⟩
      have lx := S1.out.ld R HDS.out Tryz.prog (m) (by omega)
      have ly := S1.out.ld R HDS.out Tryz.prog (h) (by omega)
      rw [← hx] at lx
      rw [← hy] at ly
      have hc := S1.out.cmp HC.out HSZ.out x y
      have hcf := HCF.out x y
      have HX : Aside (x = d[m]! ∧ y = d[h]!) := ⟨hx, hy⟩
      have S0 : Aside (∀ nq osq, SWK enc k w0 blk off d (grow (wr.drewN nq) osq)) := fun nq osq => S1.out.grown nq osq
      clear hx hy S1
      by_cases hv : cf x y < 0
      · have HV : Aside (key x < key y) := HCF.out x y |>.1 hv
        have hdv : decide (cf x y < 0) = true := decide_eq_true hv
        clear hcf
        go_wp2_with fail
        go_quiet_grown (first | (go_at_fn g; refine Calls.grown_of (hc _ _)))
        have S2 := S0.out nq osq
        clear lx ly hc S0
        generalize grow (wr.drewN nq) osq = w2 at S2 ⊢
        go_wp2
        go_roundg (h - i)
        case measure => omega
        case rel => exact ⟨i, h, rfl, rfl, by omega, by omega, by omega, Nat.le_refl _, HLO.out, .inr (by rw [← HX.out.1, ← HX.out.2]; exact HV.out), S2⟩
      · have HV : Aside (key y ≤ key x) := Nat.le_of_not_lt (fun q => hv ((HCF.out x y).2 q))
        have hdv : decide (cf x y < 0) = false := decide_eq_false hv
        clear hcf
        go_wp2_with fail
        go_quiet_grown (first | (go_at_fn g; refine Calls.grown_of (hc _ _)))
        have S2 := S0.out nq osq
        clear lx ly hc S0
        generalize grow (wr.drewN nq) osq = w2 at S2 ⊢
        go_wp2
        go_roundg (j - (h + 1))
        case measure => omega
        case rel => exact ⟨h + 1, j, by go_num, rfl, by omega, by omega, by omega, Nat.le_refl _, .inr (by rw [Nat.add_sub_cancel, ← HX.out.1, ← HX.out.2]; exact HV.out), HHI.out, S2⟩
    · obtain rfl : i = j := by omega
      have hltz : ¬ (i : Int) < (i : Int) := by omega
      have S9 : Aside (SWK enc k w0 blk off d wr) := S1
      clear S1 hkx
      go_wp2
      go_loopg [17] (m - i) (fun kx s17 wr => ∃ (q : Nat) (dk : Array α), s17 = .int .i64 q ∧ i ≤ q ∧ q ≤ m ∧ q - i ≤ kx ∧ RotIs d q m (m + 1) dk ∧ Aside (SWK enc k w0 blk off dk wr))
      case atStart => exact ⟨m, d, rfl, by omega, by omega, Nat.le_refl _, RotIs.refl d m (m + 1) (by omega), S9⟩
      case round =>
        clear S9
        obtain ⟨q, dk, rfl, haq, hqi, hkx, hrot, S1⟩ := hrel
        have hdk : dk.size = d.size := hrot.size
        have HDK : Aside (dk.size = d0.size) := hdk.trans HDS.out
        by_cases hqlt : i < q
        · obtain ⟨p, rfl⟩ : ∃ p, q = p + 1 := ⟨q - 1, by omega⟩
          have hqz : (i : Int) < (p : Int) + 1 := by omega
          have HROT : Aside (RotIs d p m (m + 1) (swp dk (p + 1) p)) := hrot.down (by omega) (by omega)
          clear hrot
          have ea : ((p : Int) + 1).toNat = p + 1 := by omega
          have pa : (0 : Int) ≤ (p : Int) + 1 := by omega
          have bda : (p : Int) + 1 < (d.size : Int) := by omega
          have ra : IntKind.i64.wrap ((p : Int) + 1) = (p : Int) + 1 := by rw [IntKind.wrap_i64]; omega
          have ec : ((p : Int)).toNat = p := by omega
          have pc : (0 : Int) ≤ (p : Int) := by omega
          have bdc : (p : Int) < (d.size : Int) := by omega
          have rc : IntKind.i64.wrap ((p : Int)) = (p : Int) := by rw [IntKind.wrap_i64]; omega
          have S2 : Aside (SWK enc k w0 blk off (swp dk (p + 1) (p)) ((wr.drew.setCells blk (off + (p + 1) * k) (enc dk[p]!)).setCells blk (off + (p) * k) (enc dk[p + 1]!))) := S1.out.swapped R (p + 1) (p) (by omega) (by omega)
          have l44a := S1.out.ld1 R HDK.out Tryz.prog (p + 1) (by omega)
          have l44b := S1.out.ld1 R HDK.out Tryz.prog (p) (by omega)
          have s44a := S1.out.st1 R HDK.out Tryz.prog (p + 1) (by omega) dk[p]!
          have s44b := S1.out.st2 R HDK.out Tryz.prog (p + 1) (p) (by omega) (by omega) dk[p]! dk[p + 1]!
          have n44a : (enc dk[p + 1]!).length = k := R.hk _
          have n44b : (enc dk[p]!).length = k := R.hk _
          generalize enc dk[p + 1]! = cI44 at S2 l44a s44b n44a
          generalize enc dk[p]! = cJ44 at S2 l44b s44a s44b n44b
          clear S1
          go_wp2_with fail
          go_big_region_o
          clear l44a l44b s44a s44b
          generalize (wr.drew.setCells blk (off + (p + 1) * k) cJ44).setCells blk (off + (p) * k) cI44 = w2 at S2 ⊢
          go_wp2
          go_roundg (p - i)
          case measure => omega
          case rel => exact ⟨p, _, by first | rfl | go_num, by omega, by omega, Nat.le_refl _, HROT.out, S2⟩
        · obtain rfl : q = i := by omega
          have hqz : ¬ (q : Int) < (q : Int) := by omega
          go_wp2
          refine bodyPost_ret (results_none rfl _ _ _) rfl ?_
          obtain ⟨k1, k2⟩ := merge_down HA1.out hai hjb HLO.out HHI.out hrot
          exact ⟨rfl, dk, k1, k2, S1.out⟩
end
end Go.Proofs.YtehgpnnfjgmiiaaGreat
