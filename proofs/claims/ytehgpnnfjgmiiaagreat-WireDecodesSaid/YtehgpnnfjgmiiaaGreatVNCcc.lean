/- Contract of slices.CompactFunc at contacts. Conditions: at most 1,000,000 of them; what is equal has the same key. DERIVED: THE SHELF's CONTRACTS AT THIS DUMP, IN PLAIN WORDS (tools/lay-plain.mjs out of 'TryShelf.lean', which tools/lay-shelf.mjs wrote): THE SAME DECLARATIONS UNDER THE SAME NAMES: 'import', 'namespace', 'open', 'def', 'theorem' AND NOTHING ELSE: no command of the shelf's: FOR A HAND-IN. Each laying: the table of numbers ('.._ren') and one theorem, a field a fact of the dump's own or the kernel's comparison; each contract: ONE APPLICATION. Add and Clone of draw (the program). Conditions: the bytes are at most 900,000. What a reader tells and what is left of it: plain definitions without a program. No condition. A reader of package octet in memory, and contracts of the calls that read: Num, Take, Text, Left, Bad, Done. Conditions: the bytes that are left are fewer than 900,000. Contracts of the calls of a reader of package octet that was opened. Conditions: the bytes that are left are fewer than 900,000; a number that comes in is an int. Contracts of the reader of the reference: Left, fail, Done, Num. Conditions: the bytes are fewer than 900,000; a number that comes in is an int. -/
import Derived.Test.YtehgpnnfjgmiiaaGreatVOja
import Derived.Test.YtehgpnnfjgmiiaaGreatVObd
import Derived.Test.YtehgpnnfjgmiiaaGreatVIiv
import Derived.Test.YtehgpnnfjgmiiaaGreatVObc
import Derived.Test.YtehgpnnfjgmiiaaGreatVROcc
import Derived.Test.YtehgpnnfjgmiiaaGreatVRERefb
import Derived.Test.YtehgpnnfjgmiiaaGreatVRKCdk
import Derived.Test.YtehgpnnfjgmiiaaGreatVRIip
import Derived.Test.YtehgpnnfjgmiiaaGreatVREOctc
import Derived.Test.YtehgpnnfjgmiiaaGreatVNCsg
import Derived.Shelf.Small.Bits
import Derived.Shelf.Strconv.Itoa0
import Derived.Shelf.Slices.Delete
import Derived.Shelf.SlicesE.Delete
import Derived.Shelf.SlicesE.Clone
import Derived.Test.YtehgpnnfjgmiiaaGreatProg
import Derived.Test.YtehgpnnfjgmiiaaGreatVNCsa
import Derived.Lib.ConvBytes
import Derived.WalkKit
import Derived.Laws.BitsAllLaws
import Derived.Laws.BitsLemmas
import Derived.Laws.Bits64
import Derived.Deep.AppendSrc
import Derived.Laws.BytesString
import Derived.Laws.CopyOwn
import Derived.Deep.AppendLies
import Derived.Deep.Draws
import Derived.WalkSpells
import Derived.Test.YtehgpnnfjgmiiaaGreatRows
import Derived.WalkLawsBesides
import Derived.Lib.Hide
import Derived.Outline
import Derived.LoopTactic
import Derived.RegionTactic
import Derived.RegionCalls
import Derived.Deep.RegionHeld3
import Derived.Deep.QuietTactic
import Derived.BigQuiet
section
namespace Go.Proofs.YtehgpnnfjgmiiaaGreat
set_option maxRecDepth 100000
open Go.Shelf Go.RowKit Go.Lib Go.Sort
set_option maxRecDepth 1000000
set_option maxHeartbeats 4000000
section
variable {α : Type} [Inhabited α]
/-- What CompactFunc leaves: of the row its first n elements are l. -/
def ComIs (enc : α → List Value) (blk off : Nat) (B : Nat) (w0 : World) (l : List α) (w' : World) : Prop := w'.rangeAt blk off (flatE enc l) ∧ blk < w'.heap.size ∧ Below B w0 w'
theorem compf_any (k : Nat) (aE : ∀ w, (isAgg 63).run Tryz.prog w = .ok true w) (zE : ∀ w, (Go.sizeOf 63).run Tryz.prog w = .ok k w) (hk0 : 0 < k) (Z : Array Value) (hz : ∀ W, (zeroValue 63).run Tryz.prog W = .ok (.agg Z) W) (hZs : Z.size = k) (hZ1 : ∀ v ∈ Z, v.oneCell' = true) (enc : α → List Value) (ef : α → α → Bool) (key : α → Nat) (hef : ∀ x y, ef x y = decide (key x = key y)) (g : Nat) (cb : Array Value) (blk off cap B : Nat) (d0 : Array α) (w0 : World)
    (eg : ∀ args w, (callFunc g args).run Tryz.prog w = .ok (.enter g args) w) (hcmp : EqLays Tryz.prog g cb enc k ef blk off d0.size w0) (R : RowK enc k w0 blk off d0) (hsz : d0.size ≤ 1000000) (hcap : d0.size ≤ cap) (hcm : cap ≤ maxLen) (hB : B ≤ blk) :
    Calls Tryz.prog 118 #[.slice (some ⟨blk, off, none⟩) d0.size cap, .func (.func g) #[] cb] w0 fun e w' => e = .returned (.slice (some ⟨blk, off, none⟩) (ddK key d0 d0.size).length cap) ∧ ComIs enc blk off B w0 (ddK key d0 d0.size) w' := by
  have mixed : Tryz.prog.follows Departure.mixedOrders = true := by kernel_rfl
  have HC : Aside (EqLays Tryz.prog g cb enc k ef blk off d0.size w0) := hcmp
  have HEF : Aside (∀ x y, ef x y = decide (key x = key y)) := hef
  have S9 : Aside (SWK enc k w0 blk off d0 w0) := SWK.start R.hH
  have HBB : Aside (B ≤ blk) := hB
  have HCL : Aside (∀ (w : World) (o n : Nat), w.there blk o (n * k) → True) := fun _ _ _ _ => trivial
  have hcm2 : cap ≤ 9223372036854775807 := by simp only [maxLen] at hcm; omega
  clear hcmp hef hB hcm HCL
  obtain ⟨n, hn⟩ : ∃ n, n = d0.size := ⟨_, rfl⟩
  have HN : Aside (n = d0.size) := hn
  rw [← hn] at hsz hcap ⊢
  clear hn
  by_cases h2 : n < 2
  · have h2' : (n : Int) < 2 := by omega
    have hd : ddK key d0 n = seg d0 0 n := ddK_all key d0 n (fun j h1 h3 => by omega)
    have HD : Aside ((ddK key d0 n).length = n ∧ ComIs enc blk off B w0 (ddK key d0 n) w0) := by
      refine ⟨by rw [hd, seg_length]; omega, swk_range S9.out R rfl hk0 _ (by rw [hd, seg_length, ← HN.out]; omega) (fun j x hx => ?_), R.hblk, Below.refl _ _⟩
      rw [hd] at hx
      obtain ⟨hj, hx'⟩ := List.getElem?_eq_some_iff.1 hx
      rw [seg_get, Nat.zero_add] at hx'
      exact hx'
    clear hd
    go_enter Tryz.func118, Tryz.ntmps118
    go_wp2
    go_ret
    rw [HD.out.1]
    exact ⟨rfl, HD.out.2⟩
  have h2' : ¬ (n : Int) < 2 := by omega
  go_enter Tryz.func118, Tryz.ntmps118
  go_wp2
  go_loopg [5] n (fun kx s5 wr => ∃ (q : Nat), s5 = .int .i64 ((q : Int) + 1) ∧ q + 1 ≤ n ∧ n - (q + 1) ≤ kx ∧ (∀ j, 0 < j → j < q + 1 → key d0[j]! ≠ key d0[j - 1]!) ∧ Aside (SWK enc k w0 blk off d0 wr))
  case atStart => exact ⟨0, rfl, by omega, by omega, fun j h1 h3 => by omega, S9⟩
  case round =>
    clear S9
    obtain ⟨q, rfl, hq, hkx, hne, S1⟩ := hrel
    have HNE : Aside (∀ j, 0 < j → j < q + 1 → key d0[j]! ≠ key d0[j - 1]!) := hne
    have HDK : Aside (d0.size = d0.size) := rfl
    have hnn : n ≤ d0.size := by rw [HN.out]; exact Nat.le_refl _
    clear hne
    by_cases hlt : q + 1 < n
    · have hltz : (q : Int) + 1 < (n : Int) := by omega
      go_upto_region 6 with fail
      have ex : ((q : Int) + 1).toNat = q + 1 := by omega
      have px : (0 : Int) ≤ (q : Int) + 1 := by omega
      have bdx : (q : Int) + 1 < (n : Int) := by omega
      have rx : IntKind.i64.wrap ((q : Int) + 1) = (q : Int) + 1 := by rw [IntKind.wrap_i64]; omega
      have ey : ((q : Int)).toNat = q := by omega
      have py : (0 : Int) ≤ (q : Int) := by omega
      have bdy : (q : Int) < (n : Int) := by omega
      have ry : IntKind.i64.wrap ((q : Int)) = (q : Int) := by rw [IntKind.wrap_i64]; omega
      obtain ⟨x, hx⟩ : ∃ x, x = d0[q + 1]! := ⟨_, rfl⟩
      obtain ⟨y, hy⟩ : ∃ x, x = d0[q]! := ⟨_, rfl⟩
      have lx : ∀ n' os', Sem.run Tryz.prog (loadCellsFrom ⟨blk, off + (q + 1) * k, none⟩ 0 k #[]) (grow (wr.drewN n') os') = .ok (enc x).toArray (grow (wr.drewN n') os') := fun n' os' => by
        have := S1.out.ld R HDK.out Tryz.prog (q + 1) (by omega) n' os'
        rw [hx]; exact this
      have ly : ∀ n' os', Sem.run Tryz.prog (loadCellsFrom ⟨blk, off + q * k, none⟩ 0 k #[]) (grow (wr.drewN n') os') = .ok (enc y).toArray (grow (wr.drewN n') os') := fun n' os' => by
        have := S1.out.ld R HDK.out Tryz.prog (q) (by omega) n' os'
        rw [hy]; exact this
      have hc := swk_eqs S1.out HC.out HDK.out x y
      have HX : Aside (x = d0[q + 1]! ∧ y = d0[q]!) := ⟨hx, hy⟩
      have S0 : Aside (∀ nq osq, SWK enc k w0 blk off d0 (grow (wr.drewN nq) osq)) := fun nq osq => S1.out.grown nq osq
      clear hx hy S1
      by_cases hv : ef x y = true
      · rw [hv] at hc
        have HV : Aside (key d0[q + 1]! = key d0[q]!) := by
          have := HEF.out x y
          rw [hv] at this
          have h3 := of_decide_eq_true this.symm
          rw [HX.out.1, HX.out.2] at h3
          exact h3
        clear hv
        go_wp2_with fail
        go_quiet_grown (first | (go_at_fn g; refine Calls.grown_of (hc _ _)))
        have S2 : Aside (SWK enc k w0 blk off d0 (grow (wr.drewN nq) osq)) := S0.out nq osq
        clear lx ly hc S0
        generalize grow (wr.drewN nq) osq = w2 at S2 ⊢
        have hkc : q + 1 ≤ cap := by omega
        have hkc2 : ¬ cap = q + 1 := by omega
        go_upto_region 9 with fail
        obtain ⟨p, hp⟩ : ∃ p, p = n - (q + 1) := ⟨_, rfl⟩
        rw [← hp]
        have hpn' : q + 1 + p ≤ n := by omega
        have hpn'' : n ≤ q + 1 + p := by omega
        clear hp hkc hkc2
        obtain ⟨off2, hoff2⟩ : ∃ o, o = off + (q + 1) * k := ⟨_, rfl⟩
        (try rw [← hoff2])
        have HOFF : Aside (off2 = off + (q + 1) * k) := hoff2
        clear hoff2
        have S9 : Aside (SWK enc k w0 blk off d0 w2) := S2
        clear S2
        go_loopg [5, 7] p (fun kx s5 s7 wr => ∃ (r kk : Nat) (dk : Array α), s7 = .int .i64 ((r : Int) + 1) ∧ s5 = .int .i64 (kk : Int) ∧ q + 1 + r + 1 ≤ n ∧ n - (q + 1 + r + 1) ≤ kx ∧ kk ≤ q + 1 + r ∧ Aside (kk = (ddK key d0 (q + 1 + r + 1)).length) ∧ dk.size = d0.size ∧ (∀ (j : Nat) (x : α), (ddK key d0 (q + 1 + r + 1))[j]? = some x → dk[j]! = x) ∧ (∀ j, kk ≤ j → dk[j]! = d0[j]!) ∧ Aside (SWK enc k w0 blk off dk wr))
        case atStart =>
          have e1 : ddK key d0 (q + 1 + 0 + 1) = seg d0 0 (q + 1) := by
            show ddK key d0 (q + 1 + 1) = _
            rw [ddK, if_neg (by
              rintro (h | h)
              · omega
              · exact h HV.out)]
            exact ddK_all key d0 (q + 1) HNE.out
          refine ⟨0, q + 1, d0, rfl, by go_num, by omega, by omega, by omega, (by show q + 1 = _; rw [e1, seg_length]; omega), rfl, fun j x hx => ?_, fun _ _ => rfl, S9⟩
          rw [e1] at hx
          obtain ⟨hj, hx'⟩ := List.getElem?_eq_some_iff.1 hx
          rw [seg_get, Nat.zero_add] at hx'
          exact hx'
        case round =>
          clear S9
          obtain ⟨r, kk, dk, rfl, rfl, hr, hkx2, hkk, hkl, hds, hlow, hhigh, S1⟩ := hrel
          have HDK : Aside (dk.size = d0.size) := hds
          have HLOW : Aside (∀ (j : Nat) (x : α), (ddK key d0 (q + 1 + r + 1))[j]? = some x → dk[j]! = x) := hlow
          have HHIGH : Aside (∀ j, kk ≤ j → dk[j]! = d0[j]!) := hhigh
          clear hlow hhigh
          by_cases hlt2 : r + 1 < p
          · have hltz2 : (r : Int) + 1 < (p : Int) := by omega
            go_upto_region 11 with fail
            have ex : ((r : Int) + 1).toNat = r + 1 := by omega
            have px : (0 : Int) ≤ (r : Int) + 1 := by omega
            have bdx : (r : Int) + 1 < (p : Int) := by omega
            have rx : IntKind.i64.wrap ((r : Int) + 1) = (r : Int) + 1 := by rw [IntKind.wrap_i64]; omega
            have ey : ((r : Int)).toNat = r := by omega
            have py : (0 : Int) ≤ (r : Int) := by omega
            have bdy : (r : Int) < (p : Int) := by omega
            have ry : IntKind.i64.wrap ((r : Int)) = (r : Int) := by rw [IntKind.wrap_i64]; omega
            obtain ⟨x, hx⟩ : ∃ x, x = dk[q + 1 + (r + 1)]! := ⟨_, rfl⟩
            obtain ⟨y, hy⟩ : ∃ x, x = dk[q + 1 + r]! := ⟨_, rfl⟩
            have lx : ∀ n' os', Sem.run Tryz.prog (loadCellsFrom ⟨blk, off2 + (r + 1) * k, none⟩ 0 k #[]) (grow (wr.drewN n') os') = .ok (enc x).toArray (grow (wr.drewN n') os') := fun n' os' => by
              have := S1.out.ld R HDK.out Tryz.prog (q + 1 + (r + 1)) (by omega) n' os'
              rw [show off + (q + 1 + (r + 1)) * k = off2 + (r + 1) * k by rw [HOFF.out, Nat.add_mul]; omega] at this
              rw [hx]; exact this
            have ly : ∀ n' os', Sem.run Tryz.prog (loadCellsFrom ⟨blk, off2 + r * k, none⟩ 0 k #[]) (grow (wr.drewN n') os') = .ok (enc y).toArray (grow (wr.drewN n') os') := fun n' os' => by
              have := S1.out.ld R HDK.out Tryz.prog (q + 1 + r) (by omega) n' os'
              rw [show off + (q + 1 + r) * k = off2 + r * k by rw [HOFF.out, Nat.add_mul]; omega] at this
              rw [hy]; exact this
            have hc := swk_eqs S1.out HC.out HDK.out x y
            have HX : Aside (x = dk[q + 1 + (r + 1)]! ∧ y = dk[q + 1 + r]!) := ⟨hx, hy⟩
            have S0 : Aside (∀ nq osq, SWK enc k w0 blk off dk (grow (wr.drewN nq) osq)) := fun nq osq => S1.out.grown nq osq
            clear hx hy S1
            by_cases hv : ef x y = true
            · rw [hv] at hc
              have HV2 : Aside (key d0[q + 1 + r + 1]! = key d0[q + 1 + r]!) := by
                have := HEF.out x y
                rw [hv] at this
                have h3 := of_decide_eq_true this.symm
                rw [HX.out.1, HX.out.2, HHIGH.out _ (by omega), HHIGH.out _ (by omega)] at h3
                exact h3
              have E2 : Aside (ddK key d0 (q + 1 + (r + 1) + 1) = ddK key d0 (q + 1 + r + 1)) := by
                show ddK key d0 (q + 1 + r + 1 + 1) = _
                conv => lhs; rw [ddK]
                rw [if_neg (by
                  rintro (h | h)
                  · omega
                  · exact h HV2.out)]
              clear hv
              go_wp2_with fail
              go_quiet_grown (first | (go_at_fn g; refine Calls.grown_of (hc _ _)))
              have S2 : Aside (SWK enc k w0 blk off dk (grow (wr.drewN nq) osq)) := S0.out nq osq
              clear lx ly hc S0
              generalize grow (wr.drewN nq) osq = w2 at S2 ⊢
              go_wp2
              go_roundg (n - (q + 1 + (r + 1) + 1))
              case measure => omega
              case rel => exact ⟨r + 1, kk, dk, by go_num, rfl, by omega, Nat.le_refl _, by omega, (by show kk = _; rw [E2.out]; exact hkl.out), HDK.out, (by rw [E2.out]; exact HLOW.out), HHIGH.out, S2⟩
            · have hv' : ef x y = false := by cases h : ef x y with | true => exact absurd h hv | false => rfl
              rw [hv'] at hc
              have HV2 : Aside (key d0[q + 1 + r + 1]! ≠ key d0[q + 1 + r]!) := by
                have := HEF.out x y
                rw [hv'] at this
                have h3 := of_decide_eq_false this.symm
                rw [HX.out.1, HX.out.2, HHIGH.out _ (by omega), HHIGH.out _ (by omega)] at h3
                exact h3
              have E2 : Aside (ddK key d0 (q + 1 + (r + 1) + 1) = ddK key d0 (q + 1 + r + 1) ++ [d0[q + 1 + r + 1]!]) := by
                show ddK key d0 (q + 1 + r + 1 + 1) = _
                conv => lhs; rw [ddK]
                rw [if_pos (.inr HV2.out)]
              have HXV : Aside (x = d0[q + 1 + r + 1]!) := by show x = _; rw [HX.out.1]; exact HHIGH.out _ (by omega)
              clear hv hv'
              go_wp2_with fail
              go_quiet_grown (first | (go_at_fn g; refine Calls.grown_of (hc _ _)))
              have S2 : Aside (SWK enc k w0 blk off dk (grow (wr.drewN nq) osq)) := S0.out nq osq
              clear lx ly hc S0
              generalize grow (wr.drewN nq) osq = w2 at S2 ⊢
              have S3 : Aside (SWK enc k w0 blk off (dk.setIfInBounds kk x) (w2.setCells blk (off + kk * k) (enc x))) := swk_put1 S2.out R kk (by omega) x
              have lx2 : Sem.run Tryz.prog (loadCellsFrom ⟨blk, off2 + (r + 1) * k, none⟩ 0 k #[]) w2 = .ok (enc x).toArray w2 := by
                have := S2.out.load R HDK.out Tryz.prog (q + 1 + (r + 1)) (by omega)
                rw [show off + (q + 1 + (r + 1)) * k = off2 + (r + 1) * k by rw [HOFF.out, Nat.add_mul]; omega] at this
                rw [HX.out.1]; exact this
              have sx2 := swk_st0 S2.out R HDK.out Tryz.prog kk (by omega) x
              have nx2 : (enc x).length = k := R.hk _
              have ek : ((kk : Int)).toNat = kk := by omega
              have bk : (kk : Int) < (n : Int) := by omega
              have HSET : Aside ((∀ (j : Nat) (z : α), (ddK key d0 (q + 1 + (r + 1) + 1))[j]? = some z → (dk.setIfInBounds kk x)[j]! = z) ∧ (∀ j, kk + 1 ≤ j → (dk.setIfInBounds kk x)[j]! = d0[j]!) ∧ kk + 1 = (ddK key d0 (q + 1 + (r + 1) + 1)).length ∧ (dk.setIfInBounds kk x).size = d0.size) := by
                have hk1 := hkl.out
                refine ⟨fun j z hz => ?_, fun j hj => ?_, by rw [E2.out, List.length_append, List.length_singleton, ← hk1], by rw [Array.size_setIfInBounds]; exact HDK.out⟩
                · rw [get_set! dk kk j x (by omega)]
                  rw [E2.out] at hz
                  by_cases hjk : j = kk
                  · rw [if_pos hjk, HXV.out]
                    rw [List.getElem?_append_right (by omega), show j - (ddK key d0 (q + 1 + r + 1)).length = 0 by omega] at hz
                    simpa using hz
                  · rw [if_neg hjk]
                    have hjl := (List.getElem?_eq_some_iff.1 hz).1
                    rw [List.length_append, List.length_singleton] at hjl
                    rw [List.getElem?_append_left (by omega)] at hz
                    exact HLOW.out j z hz
                · rw [get_set! dk kk j x (by omega), if_neg (by omega)]
                  exact HHIGH.out j (by omega)
              clear S2 HXV HX
              generalize enc x = cX at S3 lx2 sx2 nx2
              go_wp2
              generalize w2.setCells blk (off + kk * k) cX = w3 at S3 ⊢
              go_roundg (n - (q + 1 + (r + 1) + 1))
              case measure => omega
              case rel => exact ⟨r + 1, kk + 1, _, by go_num, by go_num, by omega, Nat.le_refl _, by omega, HSET.out.2.2.1, HSET.out.2.2.2, HSET.out.1, HSET.out.2.1, S3⟩
          · have hltz2 : ¬ (r : Int) + 1 < (p : Int) := by omega
            have hrn : q + 1 + r + 1 = n := by omega
            have hkc : kk ≤ cap := by omega
            have hkc2 : ¬ cap = kk := by omega
            have hkc3 : kk ≤ n := by omega
            have HFIN : Aside (kk = (ddK key d0 n).length ∧ ∀ vs : List Value, ComIs enc blk off B w0 (ddK key d0 n) (wr.setCells blk (off + kk * k) vs)) := by
              have hk1 := hkl.out
              rw [hrn] at hk1
              refine ⟨hk1, fun vs => ?_⟩
              have hrg := swk_range S1.out R HDK.out hk0 (ddK key d0 n) (by rw [HDK.out, ← HN.out]; exact ddK_len key d0 n) (by rw [← hrn]; exact HLOW.out)
              refine ⟨fun j v hv => ?_, ?_, ?_⟩
              · have hj := (List.getElem?_eq_some_iff.1 hv).1
                rw [flatE_length R.hk, ← hk1] at hj
                rw [World.cell?_setCells_out blk vs (off + kk * k) wr ⟨blk, off + j, none⟩ (fun _ _ => .inl (by simp; omega))]
                exact hrg j v hv
              · rw [size_setCells]; exact S1.out.lt R.hblk
              · exact below_cellsE HBB.out vs _ _ (swk_bel S1.out HBB.out R.hblk)
            have HTH : Aside (wr.there blk (off + kk * k) ((n - kk) * k)) := by
              have hH := S1.out.holds R.hblk R.hH HDK.out
              intro j hj
              have hi : kk + j / k < dk.size := by
                have : j / k < n - kk := Nat.div_lt_of_lt_mul (by rw [Nat.mul_comm]; exact hj)
                omega
              have := HoldsK.cell hH hi (Nat.mod_lt j hk0)
              rw [show off + (kk + j / k) * k + j % k = off + kk * k + j by
                rw [Nat.add_mul]; have := Nat.div_add_mod j k; rw [Nat.mul_comm] at this; omega] at this
              exact ⟨by rw [this.1]; rfl, this.2⟩
            clear S1 HLOW HHIGH hkl hrn
            go_wp2_with (first
              | ((with_reducible refine wpList_clear_con k Z hz hZs hk0 hZ1 (o := ⟨none, _, _, _, _, _⟩) rfl (.tmp 61) rfl blk (off + kk * k) (n - kk) (cap - kk) ?_ HTH.out ?_); rfl; intro vs hvs))
            go_ret
            rw [← HFIN.out.1]
            exact ⟨rfl, HFIN.out.2 vs⟩
      · have hv' : ef x y = false := by cases h : ef x y with | true => exact absurd h hv | false => rfl
        rw [hv'] at hc
        have HV : Aside (key d0[q + 1]! ≠ key d0[q]!) := by
          have := HEF.out x y
          rw [hv'] at this
          have h3 := of_decide_eq_false this.symm
          rw [HX.out.1, HX.out.2] at h3
          exact h3
        clear hv hv'
        go_wp2_with fail
        go_quiet_grown (first | (go_at_fn g; refine Calls.grown_of (hc _ _)))
        have S2 : Aside (SWK enc k w0 blk off d0 (grow (wr.drewN nq) osq)) := S0.out nq osq
        clear lx ly hc S0
        generalize grow (wr.drewN nq) osq = w2 at S2 ⊢
        go_wp2
        go_roundg (n - (q + 1 + 1))
        case measure => omega
        case rel => exact ⟨q + 1, by go_num, by omega, Nat.le_refl _, fun j h1 h3 => by
          by_cases hj : j = q + 1
          · subst hj; exact HV.out
          · exact HNE.out j h1 (by omega), S2⟩
    · have hltz : ¬ (q : Int) + 1 < (n : Int) := by omega
      have hqn : q + 1 = n := by omega
      have HD : Aside ((ddK key d0 n).length = n ∧ ComIs enc blk off B w0 (ddK key d0 n) wr) := by
        have hd : ddK key d0 n = seg d0 0 n := ddK_all key d0 n (fun j h1 h3 => HNE.out j h1 (by omega))
        refine ⟨by rw [hd, seg_length]; omega, swk_range S1.out R rfl hk0 _ (by rw [hd, seg_length, ← HN.out]; omega) (fun j x hx => ?_), S1.out.lt R.hblk, swk_bel S1.out HBB.out R.hblk⟩
        rw [hd] at hx
        obtain ⟨hj, hx'⟩ := List.getElem?_eq_some_iff.1 hx
        rw [seg_get, Nat.zero_add] at hx'
        exact hx'
      clear S1 hqn
      go_wp2
      go_ret
      rw [HD.out.1]
      exact ⟨rfl, HD.out.2⟩
end
end Go.Proofs.YtehgpnnfjgmiiaaGreat
end
section
namespace Go.Proofs
set_option maxRecDepth 100000
open Go.Shelf
def Tryz.cloneC_ren : Go.Shelf.Ren := ⟨fun | 41 => 114 | n => n, fun | 22 => 25 | 23 => 63 | 4 => 4 | n => n, fun | n => n⟩
theorem Tryz.cloneC : Go.Proofs.SlLaysE0.n41 Tryz.prog Tryz.cloneC_ren := {
  mixed := by kernel_rfl
  f41 := ⟨Tryz.f114.name, by decide, Tryz.func114.trans (congrArg some (by kernel_rfl))⟩
  t4 := Tryz.underlying4
  a4 := Tryz.isAgg4
  z4 := Tryz.sizeOf4
  v4 := Tryz.zeroValue4
  t22 := Tryz.underlying25
  a22 := Tryz.isAgg25
  z22 := Tryz.sizeOf25
  v22 := Tryz.zeroValue25 }
end Go.Proofs
end
section
namespace Go.Proofs.YtehgpnnfjgmiiaaGreat
set_option maxRecDepth 100000
set_option maxHeartbeats 1000000
open Go.RowKit Go.Lib Go.Great
section
variable {w w' w2 : World} {h : Nat} {go : Option Nat} {xs bs : List UInt8} {p A A2 : Option Addr} {v y : Value} {c c2 : Nat}
/-- Two blocks may change. -/
def Two (w w' : World) (h : Nat) (go : Option Nat) : Prop := w'.os = w.os ∧ w'.tape = w.tape ∧ w'.output = w.output ∧ w.heap.size ≤ w'.heap.size ∧ ∀ i, i < w.heap.size → i ≠ h → go ≠ some i → w'.heap[i]? = w.heap[i]?
end
end Go.Proofs.YtehgpnnfjgmiiaaGreat
end
section
namespace Go.Proofs.YtehgpnnfjgmiiaaGreat
set_option maxRecDepth 100000

/-- What Done tells. -/
def doneE (s : St) : Int := if s.bad = true ∨ 0 < s.ys.length then 10 else 0

end Go.Proofs.YtehgpnnfjgmiiaaGreat
end
section
namespace Go.Proofs.YtehgpnnfjgmiiaaGreat
set_option maxRecDepth 100000
open Go.RowKit
set_option linter.unusedVariables false

end Go.Proofs.YtehgpnnfjgmiiaaGreat
end
section
namespace Go.Proofs.YtehgpnnfjgmiiaaGreat
set_option maxRecDepth 100000
open Go.RowKit
set_option linter.unusedVariables false

section
variable {w : World} {g : Nat} {s : St}
theorem done_any (h : RdrS w g s) : Calls Tryz.prog 42 #[.pointer (some ⟨g, 0, none⟩)] w fun e w' => e = .returned (.int .i64 (doneE s)) ∧ w = w' := by
  obtain ⟨A, c, hh, hx, hc, c0, c1, c2, hf⟩ := h.cells
  have HI := Lib.hid (isOpen_yes g w c1)
  have HL := Lib.hid (rest_left g s.ys.length c A w c0)
  unfold doneE
  clear hh hx h
  by_cases hb : s.bad = true
  · rw [if_pos (.inl hb)]
    rw [hb] at c2
    go_enter Tryz.func42, Tryz.ntmps42
    go_wp2_with (first
      | (go_at_call 71; refine (HI.out).mono ?_; rintro e w1 ⟨rfl, rfl⟩)
      | (go_at_call 72; refine (HL.out).mono ?_; rintro e w1 ⟨rfl, rfl⟩))
    go_ret
    exact ⟨rfl, rfl⟩
  · have hb' : s.bad = false := by simpa using hb
    rw [hb'] at c2
    by_cases hl : 0 < s.ys.length
    · rw [if_pos (.inr hl)]
      clear hb hb'
      have d : decide ((0 : Int) < (s.ys.length : Int)) = true := by simpa using hl
      go_enter Tryz.func42, Tryz.ntmps42
      go_wp2_with (first
        | (go_at_call 71; refine (HI.out).mono ?_; rintro e w1 ⟨rfl, rfl⟩)
        | (go_at_call 72; refine (HL.out).mono ?_; rintro e w1 ⟨rfl, rfl⟩))
      go_ret
      exact ⟨rfl, rfl⟩
    · rw [if_neg (fun h => h.elim hb hl)]
      clear hb hb'
      have d : decide ((0 : Int) < (s.ys.length : Int)) = false := by simpa using hl
      go_enter Tryz.func42, Tryz.ntmps42
      go_wp2_with (first
        | (go_at_call 71; refine (HI.out).mono ?_; rintro e w1 ⟨rfl, rfl⟩)
        | (go_at_call 72; refine (HL.out).mono ?_; rintro e w1 ⟨rfl, rfl⟩))
      go_ret
      exact ⟨rfl, rfl⟩

end
end Go.Proofs.YtehgpnnfjgmiiaaGreat
end
section
namespace Go.Proofs.YtehgpnnfjgmiiaaGreat
set_option maxRecDepth 100000
open Go.RowKit
set_option linter.unusedVariables false

section
variable {w w' : World} {h : Nat} {A : Option Addr} {c : Nat} {xs : List UInt8} {k : Nat} {bad : Bool}
end
end Go.Proofs.YtehgpnnfjgmiiaaGreat
end
