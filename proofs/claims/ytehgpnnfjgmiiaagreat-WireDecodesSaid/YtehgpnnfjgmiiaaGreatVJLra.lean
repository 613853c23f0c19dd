/- Contracts of letter and Part of signpostref09. No condition. Contract of Parts of signpostref09. Conditions: at most 100,000 bytes. Contracts of Good and Fold of signpostref09. Conditions: at most 100,000 bytes. Contract of Fold of signpostref09. Conditions: at most 100,000 bytes. Contract of Wire of signpostref09. Conditions: at most 100,000 bytes. What the statements of label lean on: contracts in one form, and the chapter's examples. Conditions: at most 50,000 bytes. Walk of ServiceTells. No condition. -/
import Derived.Test.YtehgpnnfjgmiiaaGreatProg
import Derived.Test.YtehgpnnfjgmiiaaGreatVJLcd
import Derived.Deep.Cut
import Derived.Deep.QuietTactic
import Derived.Test.YtehgpnnfjgmiiaaGreatVKCdi
import Derived.Maps.AppendAt
import Derived.RangeFuncBox
import Derived.Lib.AppendStr
import Derived.BigQuiet
import Derived.Shelf.Abstract
import Derived.Test.YtehgpnnfjgmiiaaGreatVJPWords
import Derived.Sort.Grow
import Derived.Lib.SlBytesConst
import Derived.LoopTactic
import Derived.Stop.BytesEq
import Derived.Deep.AppendSrc
import Derived.Lib.ConvBytes
import Derived.Laws.ResultCell
import Derived.StillTailTactics
import Derived.Shelf.SlicesE.Clone
section
namespace Go.Proofs.YtehgpnnfjgmiiaaGreat
open Go.Shelf Go.RowKit Go.Lib Go.Great
set_option maxRecDepth 100000
set_option maxHeartbeats 1000000
theorem rlet_any (c : UInt8) (w : World) : Calls Tryz.prog 123 #[.int .u8 (c.toNat : Int)] w fun e w' => e = .returned (.bool (letB c)) ∧ w' = w := by
  unfold letB capB
  generalize c.toNat = n
  by_cases h1 : 97 ≤ n
  · have h1' : (97 : Int) ≤ (n : Int) := by omega
    by_cases h2 : n ≤ 122
    · have h2' : (n : Int) ≤ 122 := by omega
      go_enter Tryz.func123, Tryz.ntmps123
      go_wp2
      go_ret
      simp [h1, h2]
    · have h2' : ¬ (n : Int) ≤ 122 := by omega
      have h3' : (65 : Int) ≤ (n : Int) := by omega
      have h4' : ¬ (n : Int) ≤ 90 := by omega
      go_enter Tryz.func123, Tryz.ntmps123
      go_wp2
      go_ret
      simp [h2]
      omega
  · have h1' : ¬ (97 : Int) ≤ (n : Int) := by omega
    by_cases h3 : 65 ≤ n
    · have h3' : (65 : Int) ≤ (n : Int) := by omega
      by_cases h4 : n ≤ 90
      · have h4' : (n : Int) ≤ 90 := by omega
        go_enter Tryz.func123, Tryz.ntmps123
        go_wp2
        go_ret
        simp [h3, h4]
      · have h4' : ¬ (n : Int) ≤ 90 := by omega
        go_enter Tryz.func123, Tryz.ntmps123
        go_wp2
        go_ret
        simp [h1, h4]
    · have h3' : ¬ (65 : Int) ≤ (n : Int) := by omega
      go_enter Tryz.func123, Tryz.ntmps123
      go_wp2
      go_ret
      simp [h1, h3]
theorem nameB_eq (c : UInt8) : nameB c = (letB c || digitB c || c.toNat == 45 || c.toNat == 95) := by
  rw [Bool.eq_iff_iff]
  simp only [nameB, letB, capB, digitB, Bool.or_eq_true, Bool.and_eq_true, decide_eq_true_iff, beq_iff_eq]
def namesTo (s : List UInt8) (i : Nat) : Prop := ∀ j, j < i → nameB s[j]! = true
def RPartR (s : List UInt8) (w : World) (i : Value) (wr : World) : Prop := ∃ k : Nat, i = .int .i64 (k : Int) ∧ k ≤ s.length ∧ namesTo s k ∧ Below w.heap.size w wr
theorem rpart_any (s : List UInt8) (hs : s.length ≤ 100000) (w : World) : Calls Tryz.prog 107 #[.string (bstr s)] w fun e w' => e = .returned (.bool (partL s)) ∧ Below w.heap.size w w' := by
  have hsz := bstr_size s
  have HB := Lib.hid (bstr_get s)
  have R0 : Hid (RPartR s w (.int .i64 0) w) := Lib.hid ⟨0, rfl, by omega, fun j hj => absurd hj (by omega), Below.refl _ _⟩
  have HPL := Lib.hid (partL_iff s)
  have HM : Hid (namesTo s s.length ↔ ∀ c ∈ s, nameB c = true) := Lib.hid (by
    constructor
    · intro h c hc
      obtain ⟨i, hi, rfl⟩ := List.mem_iff_getElem.1 hc
      have := h i hi
      rwa [getElem!_pos s i hi] at this
    · intro h j hj
      rw [getElem!_pos s j hj]
      exact h _ (List.getElem_mem hj))
  obtain ⟨n, hn⟩ : ∃ n, n = s.length := ⟨_, rfl⟩
  rw [← hn] at hsz hs HPL HM
  have HN := Lib.hid hn
  clear hn
  generalize bstr s = B at *
  go_enter Tryz.func107, Tryz.ntmps107
  go_upto_region 2 with fail
  go_loopw [3] (RPartR s w) (fun i _ => n - (RowKit.intOf i).toNat)
  case atStart => exact R0.out
  case round =>
    obtain ⟨k, rfl, hk, hF, hb⟩ := hrel
    rw [← HN.out] at hk
    clear R0
    have HF := Lib.hid hF
    have HBW := Lib.hid hb
    clear hF hb
    by_cases hlt : k < n
    · have hlt' : (k : Int) < (n : Int) := by omega
      have hget := HB.out k (by omega)
      have HL := Lib.hid (fun W => rlet_any s[k]! W)
      have HNEXT : Hid (nameB s[k]! = true → RPartR s w (.int .i64 ((k : Int) + 1)) wr) := Lib.hid (fun h => ⟨k + 1, by simp, by rw [← HN.out]; omega, fun j hj => by
        by_cases e : j = k
        · subst e; exact h
        · exact HF.out j (by omega), HBW.out⟩)
      have HSTOP : Hid (nameB s[k]! = false → partL s = false) := Lib.hid (fun h => by
        rw [← Bool.not_eq_true]
        intro hp
        have := HM.out.2 (HPL.out.1 hp).2.1 k hlt
        rw [h] at this
        cases this)
      rw [nameB_eq] at HNEXT HSTOP
      clear HB HF HPL HM
      generalize s[k]! = ch at *
      unfold digitB at HNEXT HSTOP
      generalize letB ch = q at *
      have h8 := ch.toNat_lt
      obtain ⟨m, hm⟩ : ∃ m, ch.toNat = m := ⟨_, rfl⟩
      rw [hm] at HL HNEXT HSTOP h8
      cases q
      · by_cases d1 : 48 ≤ m
        · have d1' : (48 : Int) ≤ (m : Int) := by omega
          by_cases d2 : m ≤ 57
          · have d2' : (m : Int) ≤ 57 := by omega
            go_wp2_with (go_at_call 123; (with_reducible refine (HL.out _).mono ?_); rintro e w1 ⟨rfl, rfl⟩)
            go_roundw
            case rel => exact HNEXT.out (by simp; try omega)
            case measure => simp [RowKit.intOf]; omega
          · have d2' : ¬ (m : Int) ≤ 57 := by omega
            have d2e : decide ((m : Int) ≤ 57) = false := by simp; omega
            by_cases e45 : m = 45
            · have e45b : ((m : Int) == 45) = true := by simp; omega
              have e45c : ((m : Int) != 45) = false := by simp; omega
              have E45 := Lib.hid e45
              clear e45
              go_wp2_with (go_at_call 123; (with_reducible refine (HL.out _).mono ?_); rintro e w1 ⟨rfl, rfl⟩)
              go_roundw
              case rel => exact HNEXT.out (by have := E45.out; simp; try omega)
              case measure => simp [RowKit.intOf]; omega
            · have e45' : ((m : Int) == 45) = false := by simp; omega
              have e45c : ((m : Int) != 45) = true := by simp; omega
              have e45d : ¬ (m : Int) = 45 := by omega
              by_cases e95 : m = 95
              · have e95b : ((m : Int) == 95) = true := by simp; omega
                have e95c : ((m : Int) != 95) = false := by simp; omega
                have E95 := Lib.hid e95
                clear e95
                go_wp2_with (go_at_call 123; (with_reducible refine (HL.out _).mono ?_); rintro e w1 ⟨rfl, rfl⟩)
                go_roundw
                case rel => exact HNEXT.out (by have := E95.out; simp; try omega)
                case measure => simp [RowKit.intOf]; omega
              · have e95' : ((m : Int) == 95) = false := by simp; omega
                have e95c : ((m : Int) != 95) = true := by simp; omega
                have e95d : ¬ (m : Int) = 95 := by omega
                go_wp2_with (go_at_call 123; (with_reducible refine (HL.out _).mono ?_); rintro e w1 ⟨rfl, rfl⟩)
                go_ret
                have hno := HSTOP.out (by simp; omega)
                exact ⟨by simp [hno], HBW.out⟩
        · have d1' : ¬ (48 : Int) ≤ (m : Int) := by omega
          by_cases e45 : m = 45
          · have e45b : ((m : Int) == 45) = true := by simp; omega
            have e45c : ((m : Int) != 45) = false := by simp; omega
            have E45 := Lib.hid e45
            clear e45
            go_wp2_with (go_at_call 123; (with_reducible refine (HL.out _).mono ?_); rintro e w1 ⟨rfl, rfl⟩)
            go_roundw
            case rel => exact HNEXT.out (by have := E45.out; simp; try omega)
            case measure => simp [RowKit.intOf]; omega
          · have e45' : ((m : Int) == 45) = false := by simp; omega
            have e45c : ((m : Int) != 45) = true := by simp; omega
            have e45d : ¬ (m : Int) = 45 := by omega
            by_cases e95 : m = 95
            · have e95b : ((m : Int) == 95) = true := by simp; omega
              have e95c : ((m : Int) != 95) = false := by simp; omega
              have E95 := Lib.hid e95
              clear e95
              go_wp2_with (go_at_call 123; (with_reducible refine (HL.out _).mono ?_); rintro e w1 ⟨rfl, rfl⟩)
              go_roundw
              case rel => exact HNEXT.out (by have := E95.out; simp; try omega)
              case measure => simp [RowKit.intOf]; omega
            · have e95' : ((m : Int) == 95) = false := by simp; omega
              have e95c : ((m : Int) != 95) = true := by simp; omega
              have e95d : ¬ (m : Int) = 95 := by omega
              go_wp2_with (go_at_call 123; (with_reducible refine (HL.out _).mono ?_); rintro e w1 ⟨rfl, rfl⟩)
              go_ret
              have hno := HSTOP.out (by simp; omega)
              exact ⟨by simp [hno], HBW.out⟩
      · go_wp2_with (go_at_call 123; (with_reducible refine (HL.out _).mono ?_); rintro e w1 ⟨rfl, rfl⟩)
        go_roundw
        case rel => exact HNEXT.out (by simp; try omega)
        case measure => simp [RowKit.intOf]; omega
    · obtain rfl : k = n := by omega
      have HT : Hid (namesTo s k) := HF
      clear HF
      have hnl : ¬ (k : Int) < (k : Int) := by omega
      by_cases k0 : k = 0
      · subst k0
        have HNO : Hid (partL s = false) := Lib.hid (by rw [← Bool.not_eq_true]; intro h; have := (HPL.out.1 h).1; omega)
        clear HPL HM HB
        go_wp2
        go_ret
        exact ⟨by simp [HNO.out], HBW.out⟩
      · have k1 : (1 : Int) ≤ (k : Int) := by omega
        by_cases k63 : k ≤ 63
        · have k63' : (k : Int) ≤ 63 := by omega
          obtain ⟨j, hj⟩ : ∃ j, k = j + 1 := ⟨k - 1, by omega⟩
          have hsub : (k : Int) - 1 = (j : Int) := by omega
          have hj' : (j : Int) < (k : Int) := by omega
          have hk0' : (0 : Int) < (k : Int) := by omega
          have hget0 := HB.out 0 (by omega)
          have hget1 := HB.out j (by omega)
          have HP2 : Hid (s[0]! ≠ 45 → s[j]! ≠ 45 → partL s = true) := Lib.hid (fun h1 h2 => HPL.out.2 ⟨⟨by omega, k63⟩, HM.out.1 HT.out, h1, by rw [show k - 1 = j by omega]; exact h2⟩)
          have HP0 : Hid (s[0]! = 45 → partL s = false) := Lib.hid (fun h1 => by rw [← Bool.not_eq_true]; intro h; exact (HPL.out.1 h).2.2.1 h1)
          have HP1 : Hid (s[j]! = 45 → partL s = false) := Lib.hid (fun h1 => by rw [← Bool.not_eq_true]; intro h; exact (HPL.out.1 h).2.2.2 (by rw [show k - 1 = j by omega]; exact h1))
          have HCE : Hid (∀ c : UInt8, (c = 45 ↔ c.toNat = 45)) := Lib.hid (fun c => ⟨fun h => by rw [h]; rfl, fun h => UInt8.toNat_inj.1 (by rw [h]; rfl)⟩)
          clear HPL HM HT HB
          generalize s[0]! = a at *
          generalize s[j]! = z at *
          by_cases ha : a = 45
          · have ha' : (a.toNat : Int) = 45 := by rw [(HCE.out a).1 ha]; rfl
            have HNO := Lib.hid (HP0.out ha)
            clear ha
            go_wp2
            go_ret
            exact ⟨by simp [HNO.out], HBW.out⟩
          · have ha' : ¬ (a.toNat : Int) = 45 := fun h => ha ((HCE.out a).2 (by omega))
            by_cases hz : z = 45
            · have hz' : (z.toNat : Int) = 45 := by rw [(HCE.out z).1 hz]; rfl
              have HNO := Lib.hid (HP1.out hz)
              clear hz ha
              go_wp2
              go_ret
              exact ⟨by simp [HNO.out], HBW.out⟩
            · have hz' : ¬ (z.toNat : Int) = 45 := fun h => hz ((HCE.out z).2 (by omega))
              have HYES := Lib.hid (HP2.out ha hz)
              clear hz ha
              go_wp2
              go_ret
              exact ⟨by simp [HYES.out]; exact ⟨ha', hz'⟩, HBW.out⟩
        · have k63' : ¬ (k : Int) ≤ 63 := by omega
          have HNO : Hid (partL s = false) := Lib.hid (by rw [← Bool.not_eq_true]; intro h; have := (HPL.out.1 h).1; omega)
          clear HPL HM HB
          go_wp2
          go_ret
          exact ⟨by simp [HNO.out], HBW.out⟩
end Go.Proofs.YtehgpnnfjgmiiaaGreat
end
section
namespace Go.Proofs.YtehgpnnfjgmiiaaGreat
open Go.Shelf Go.RowKit Go.Lib Go.Great
set_option maxRecDepth 100000
set_option maxHeartbeats 1000000
theorem bstr_cut (s : List UInt8) (a b : Nat) : (bstr s).extract a b = bstr ((s.take b).drop a) := by
  apply ByteArray.ext
  apply Array.ext'
  simp [bstr, ByteArray.data_extract, List.drop_take]
/-- Where Parts stands: within the text, or behind it. -/
def RPartsR (s : List UInt8) (w : World) (v f i : Value) (wr : World) : Prop :=
  ∃ (L : List (List UInt8)) (a k : Nat), f = .int .i64 (a : Int) ∧ i = .int .i64 (k : Int) ∧ OwnT w.heap.size v L wr ∧ Below w.heap.size w wr ∧ L.length ≤ k ∧
    ((k ≤ s.length ∧ a ≤ k ∧ L ++ splitD (s.drop a) = splitD s ∧ ∀ j, a ≤ j → j < k → s[j]! ≠ 46) ∨ (k = s.length + 1 ∧ L = splitD s))
theorem nodot_cut (s : List UInt8) (a k : Nat) (ha : a ≤ k) (hk : k ≤ s.length) (h : ∀ j, a ≤ j → j < k → s[j]! ≠ 46) : ∀ c ∈ (s.take k).drop a, c ≠ 46 := by
  intro c hc
  obtain ⟨i, hi, rfl⟩ := List.mem_iff_getElem.1 hc
  rw [List.length_drop, List.length_take] at hi
  have := h (a + i) (by omega) (by omega)
  rw [getElem!_pos s (a + i) (by omega)] at this
  simpa using this
theorem split_mid (s : List UInt8) (a k : Nat) (ha : a ≤ k) (hk : k < s.length) (hd : s[k]! = 46) (h : ∀ j, a ≤ j → j < k → s[j]! ≠ 46) : splitD (s.drop a) = (s.take k).drop a :: splitD (s.drop (k + 1)) := by
  rw [← splitD_dot _ _ (nodot_cut s a k ha (by omega) h)]
  congr 1
  rw [getElem!_pos s k hk] at hd
  rw [← hd, ← List.drop_eq_getElem_cons hk]
  rw [List.drop_take]
  conv => lhs; rw [← List.take_append_drop (k - a) (s.drop a), List.drop_drop, show a + (k - a) = k by omega]
theorem split_last (s : List UInt8) (a : Nat) (ha : a ≤ s.length) (h : ∀ j, a ≤ j → j < s.length → s[j]! ≠ 46) : splitD (s.drop a) = [(s.take s.length).drop a] := by
  rw [← splitD_none _ (nodot_cut s a s.length ha (Nat.le_refl _) h), List.take_length]
theorem rparts_any (s : List UInt8) (hs : s.length ≤ 100000) (w : World) : Calls Tryz.prog 106 #[.string (bstr s)] w fun e w' => ∃ v, e = .returned v ∧ OwnT w.heap.size v (splitD s) w' ∧ Below w.heap.size w w' := by
  obtain ⟨i0, hi, hz0, hz1, hz2⟩ := info_parts info9
  have hsz := bstr_size s
  have HG := Lib.hid (bstr_get s)
  have HX := Lib.hid (bstr_cut s)
  have R0 : Hid (RPartsR s w (.slice none 0 0) (.int .i64 0) (.int .i64 0) w) := Lib.hid ⟨[], 0, 0, rfl, rfl, OwnT.nil, Below.refl _ _, by simp, .inl ⟨by omega, by omega, by simp, fun j h1 h2 => absurd h2 (by omega)⟩⟩
  obtain ⟨n, hn⟩ : ∃ n, n = s.length := ⟨_, rfl⟩
  have HN := Lib.hid hn
  rw [← hn] at hsz hs
  clear hn
  generalize bstr s = B at *
  go_enter Tryz.func106, Tryz.ntmps106
  go_upto_region 4 with fail
  go_loopw [3, 4, 5] (RPartsR s w) (fun _ _ i _ => n + 1 - (RowKit.intOf i).toNat)
  case atStart => exact R0.out
  case round =>
    obtain ⟨L, a, k, rfl, rfl, hO, hb, hL, hcase⟩ := hrel
    clear R0
    have HO := Lib.hid hO
    have HBW := Lib.hid hb
    clear hO hb
    rcases hcase with ⟨hk, ha, hsp, hno⟩ | ⟨hk, rfl⟩
    · rw [← HN.out] at hk
      have hk' : (k : Int) ≤ (n : Int) := by omega
      have HSP := Lib.hid hsp
      have HNO := Lib.hid hno
      clear hsp hno
      have hext := HX.out a k
      by_cases hend : k = n
      · subst hend
        have HNX : Hid (L ++ [(s.take k).drop a] = splitD s) := Lib.hid (by
          rw [← HSP.out, split_last s a (by rw [← HN.out]; exact ha) (fun j h1 h2 => HNO.out j h1 (by rw [HN.out]; exact h2)), ← HN.out])
        have HK := Lib.hid HN.out
        have hak : (a : Int) ≤ (k : Int) := by omega
        clear HSP HNO HG HX
        generalize (s.take k).drop a = p at *
        go_wp2_with (at_builtin; refine wpList_append_src _ rfl (.tmp 22) (.tmp 27) 134 134 rfl w.heap.size 9 i0 _ 16 Tryz.underlying134 hi hz0 hz1 hz2 rfl _ _ _ rfl (World.ownsRow.alloc HO.out _) _ 1 [.string (bstr p)] rfl (src_str _ _) (by simp only [maxLen]; omega) (by omega) (by have := HBW.out.size; simp; omega) ?_; intro v2 w2 hown2 hg2 _)
        refine ⟨⟨L ++ [p], k + 1, k + 1, by simp, by simp, by unfold OwnT; simpa [encT] using hown2, HBW.out.trans (app_below HO.out HBW.out.size hg2), by simp; omega, .inr ⟨by rw [← HK.out], HNX.out⟩⟩, by simp [RowKit.intOf]⟩
      · have hlt : k < n := by omega
        have hlt' : (k : Int) < (n : Int) := by omega
        have hne : ((k : Int) == (n : Int)) = false := by simp; omega
        have hget := HG.out k (by omega)
        have hls : k < s.length := by rw [← HN.out]; exact hlt
        have hak : (a : Int) ≤ (k : Int) := by omega
        by_cases hd : s[k]! = 46
        · have HNX : Hid ((L ++ [(s.take k).drop a]) ++ splitD (s.drop (k + 1)) = splitD s) := Lib.hid (by
            rw [← HSP.out, split_mid s a k ha hls hd HNO.out]
            simp)
          rw [hd] at hget
          have HK := Lib.hid hls
          clear HSP HNO HG HX hd hls hend
          generalize (s.take k).drop a = p at *
          go_wp2_with (at_builtin; refine wpList_append_src _ rfl (.tmp 22) (.tmp 27) 134 134 rfl w.heap.size 9 i0 _ 16 Tryz.underlying134 hi hz0 hz1 hz2 rfl _ _ _ rfl (World.ownsRow.alloc HO.out _) _ 1 [.string (bstr p)] rfl (src_str _ _) (by simp only [maxLen]; omega) (by omega) (by have := HBW.out.size; simp; omega) ?_; intro v2 w2 hown2 hg2 _)
          refine ⟨⟨L ++ [p], k + 1, k + 1, by simp, by simp, by unfold OwnT; simpa [encT] using hown2, HBW.out.trans (app_below HO.out HBW.out.size hg2), by simp; omega, .inl ⟨HK.out, by omega, HNX.out, fun j h1 h2 => absurd h2 (by omega)⟩⟩, by simp [RowKit.intOf]; omega⟩
        · have HC : Hid ((s[k]!).toNat = 46 → False) := Lib.hid (fun h => hd (UInt8.toNat_inj.1 (by rw [h]; rfl)))
          have HD := Lib.hid hd
          have HK := Lib.hid hls
          have hsk : (((s[k]!).toNat : Int) == 46) = false := by
            rw [beq_eq_false_iff_ne]
            intro h
            exact HC.out (by omega)
          have HNO2 : Hid (∀ j, a ≤ j → j < k + 1 → s[j]! ≠ 46) := Lib.hid (fun j h1 h2 => by
            by_cases e : j = k
            · subst e; exact hd
            · exact HNO.out j h1 (by omega))
          clear HG HX hd hls hend HNO
          generalize s[k]! = ch at *
          go_wp2
          refine ⟨⟨L, a, k + 1, rfl, by simp, HO.out, HBW.out, by omega, .inl ⟨HK.out, by omega, HSP.out, HNO2.out⟩⟩, by simp [RowKit.intOf]; omega⟩
    · rw [← HN.out] at hk
      have hk' : ¬ (k : Int) ≤ (n : Int) := by omega
      clear HG HX
      go_wp2
      go_ret
      exact ⟨_, rfl, HO.out, HBW.out⟩
end Go.Proofs.YtehgpnnfjgmiiaaGreat
end
section
namespace Go.Proofs.YtehgpnnfjgmiiaaGreat
open Go.Shelf Go.RowKit Go.Lib Go.Great
set_option maxRecDepth 100000
set_option maxHeartbeats 1000000
def RGoodR (L : List (List UInt8)) (W1 : World) (i : Value) (wr : World) : Prop := ∃ k : Nat, i = .int .i64 (k : Int) ∧ k ≤ L.length ∧ (∀ j, j < k → partL L[j]! = true) ∧ Below W1.heap.size W1 wr
theorem rparts_at (s : List UInt8) (hs : s.length ≤ 100000) (w : World) : Calls Tryz.prog 106 #[.string (bstr s)] w fun e w' => ∃ A c, e = .returned (.slice A (splitD s).length c) ∧ (splitD s).length ≤ c ∧ SAt w' w'.heap.size A (splitD s) ∧ Below w.heap.size w w' := by
  refine (rparts_any s hs w).mono ?_
  rintro e w' ⟨v, rfl, h1, h2⟩
  obtain ⟨A, c, rfl, h3, h4⟩ := h1.at_
  exact ⟨A, c, rfl, h3, h4, h2⟩
theorem rgood_any (s : List UInt8) (hs : s.length ≤ 100000) (w : World) : Calls Tryz.prog 87 #[.string (bstr s)] w fun e w' => e = .returned (.bool (goodL s)) ∧ Below w.heap.size w w' := by
  have hsz := bstr_size s
  have HP := Lib.hid (rparts_at s hs w)
  have HG := Lib.hid (goodL_iff s)
  have HLE := Lib.hid (splitD_length_le s)
  have HML : Hid (∀ p ∈ splitD s, p.length ≤ 100000) := Lib.hid (fun p hp => by
    have h1 : p.length + 1 ≤ sizeD (splitD s) := by
      obtain ⟨a, b, e⟩ := List.append_of_mem hp
      rw [e, sizeD_append, sizeD_cons]
      omega
    rw [sizeD_split] at h1
    omega)
  generalize splitD s = L at *
  obtain ⟨n, hn⟩ : ∃ n, n = s.length := ⟨_, rfl⟩
  rw [← hn] at hsz hs HG HLE
  generalize goodL s = g at *
  clear hn
  generalize bstr s = B at *
  go_enter Tryz.func87, Tryz.ntmps87
  go_upto_region 3 with (go_at_call 106; (with_reducible refine HP.out.mono ?_); rintro e w1 ⟨A, c, rfl, hc, hA, hb1⟩)
  have R0 : Hid (RGoodR L w1 (.int .i64 0) w1) := Lib.hid ⟨0, rfl, by omega, fun j hj => absurd hj (by omega), Below.refl _ _⟩
  have HA := Lib.hid hA
  have HB1 := Lib.hid hb1
  clear HP hA hb1
  obtain ⟨m, hm⟩ : ∃ m, m = L.length := ⟨_, rfl⟩
  rw [← hm] at hc ⊢
  have HM := Lib.hid hm
  clear hm
  have hm2 : m ≤ n + 1 := by rw [HM.out]; exact HLE.out
  go_loopw [4] (RGoodR L w1) (fun i _ => m - (RowKit.intOf i).toNat)
  case atStart => exact R0.out
  case round =>
    obtain ⟨k, rfl, hk, hF, hb⟩ := hrel
    rw [← HM.out] at hk
    clear R0
    have HF := Lib.hid hF
    have HBW := Lib.hid hb
    have HBX := Lib.hid (HB1.out.trans (hb.mono HB1.out.size))
    clear hF hb
    by_cases hlt : k < m
    · have hlt' : (k : Int) < (m : Int) := by omega
      have hls : k < L.length := by rw [← HM.out]; exact hlt
      rcases HA.out.below HBW.out with h0 | ⟨g0, off, rfl, hg0, hcell⟩
      · exact absurd (congrArg List.length h0) (by rw [← HM.out]; simp; omega)
      have hc1 := hcell k hls
      have hgl : L[k]! = L[k] := getElem!_pos L k hls
      have HPA := Lib.hid (rpart_any L[k] (HML.out _ (List.getElem_mem hls)) wr)
      have HNX : Hid (partL L[k] = true → ∀ wx, Below wr.heap.size wr wx → RGoodR L w1 (.int .i64 ((k : Int) + 1)) wx) := Lib.hid (fun h wx hx => ⟨k + 1, by simp, by rw [← HM.out]; omega, fun j hj => by
        by_cases e : j = k
        · subst e; rw [hgl]; exact h
        · exact HF.out j (by omega), HBW.out.trans (hx.mono HBW.out.size)⟩)
      have HST : Hid (partL L[k] = false → g = false) := Lib.hid (fun h => by
        rw [← Bool.not_eq_true]
        intro hg
        have := (HG.out.1 hg).1 L[k] (List.getElem_mem hls)
        rw [h] at this
        cases this)
      clear hcell hgl HF HA HM HG HLE hk
      unfold encT at hc1
      generalize L[k] = p at *
      cases hp : partL p
      · rw [hp] at HPA
        have hgf := HST.out hp
        clear hp HST HNX
        go_wp2_with (go_at_call 107; (with_reducible refine HPA.out.mono ?_); rintro e w2 ⟨rfl, hb2⟩)
        go_ret
        exact ⟨by simp [hgf], HBX.out.trans (hb2.mono HBX.out.size)⟩
      · rw [hp] at HPA
        have HP2 := Lib.hid hp
        clear hp HST
        go_wp2_with (go_at_call 107; (with_reducible refine HPA.out.mono ?_); rintro e w2 ⟨rfl, hb2⟩)
        exact ⟨HNX.out HP2.out _ hb2, by simp [RowKit.intOf]; omega⟩
    · obtain rfl : k = m := by omega
      have hnl : ¬ (k : Int) < (k : Int) := by omega
      have HALL : Hid (∀ p ∈ L, partL p = true) := Lib.hid (fun p hp => by
        obtain ⟨i, hi, rfl⟩ := List.mem_iff_getElem.1 hp
        have := HF.out i (by rw [HM.out]; exact hi)
        rwa [getElem!_pos L i hi] at this)
      by_cases h253 : n ≤ 253
      · have hgt : g = true := HG.out.2 ⟨HALL.out, h253⟩
        have h' : (n : Int) + 2 ≤ 255 := by omega
        clear HA HF HG HALL
        go_wp2
        go_ret
        exact ⟨by simp [hgt]; try omega, HBX.out⟩
      · have hgt : g = false := by
          rw [← Bool.not_eq_true]
          intro h
          exact h253 (HG.out.1 h).2
        have h' : ¬ (n : Int) + 2 ≤ 255 := by omega
        clear HA HF HG HALL
        go_wp2
        go_ret
        exact ⟨by simp [hgt]; try omega, HBX.out⟩
end Go.Proofs.YtehgpnnfjgmiiaaGreat
end
section
namespace Go.Proofs.YtehgpnnfjgmiiaaGreat
open Go.Shelf Go.RowKit Go.Lib Go.Great
set_option maxRecDepth 100000
set_option maxHeartbeats 1000000
theorem foldC_eq2 (c : UInt8) : (65 ≤ c.toNat ∧ c.toNat ≤ 90 → (c.toNat : Int) + 97 - 65 = ((foldC c).toNat : Int)) := by
  intro h
  have := (foldC_eq c).1 h
  rw [← this]
  omega
theorem rfold_any (s : List UInt8) (hs : s.length ≤ 100000) (w : World) : Calls Tryz.prog 88 #[.string (bstr s)] w fun e w' => e = .returned (.string (bstr (foldL s))) ∧ Below w.heap.size w w' := by
  obtain ⟨c, W1, hcv, hB1, hc⟩ := str_in s w
  have R0 : Hid (FoldR s w (.int .i64 0) W1) := Lib.hid ⟨0, rfl, by omega, by simpa [foldL] using hB1⟩
  have HCONV : Hid (∀ W, BytesIn w w.heap.size (foldL s) W → (convert 31 9 (.slice (some ⟨w.heap.size, 0, none⟩) s.length c)).run Tryz.prog W = .ok (.string (bstr (foldL s))) W) := Lib.hid (fun W h => by
    have := run_convert_bat (P := Tryz.prog) 31 9 5 c Tryz.underlying31 Tryz.underlying5 Tryz.underlying9 h.bat
    rwa [foldL_length] at this)
  obtain ⟨n, hn⟩ : ∃ n, n = s.length := ⟨_, rfl⟩
  have HN := Lib.hid hn
  rw [← hn] at hcv HCONV hs hc
  clear hB1 hn
  generalize hS : bstr s = S at *
  generalize hT : bstr (foldL s) = T at *
  clear hS hT
  go_enter Tryz.func88, Tryz.ntmps88
  go_upto_region 3 with fail
  go_loopw [4] (FoldR s w) (fun i _ => n - (RowKit.intOf i).toNat)
  case atStart => exact R0.out
  case round =>
    obtain ⟨k, rfl, hk, hB⟩ := hrel
    rw [← HN.out] at hk
    clear R0 hcv
    by_cases hlt : k < n
    · have hlt' : (k : Int) < (n : Int) := by omega
      have hls : k < s.length := by rw [← HN.out]; exact hlt
      have hll : k < (foldL (s.take k) ++ s.drop k).length := by rw [List.length_append, foldL_length, List.length_take, List.length_drop]; omega
      have hget := hB.cell k hll
      rw [fold_at s k hls] at hget
      have hfree := hB.free k hll
      have HB2 := Lib.hid (hB.set (Nat.le_refl _) hll (foldC s[k]))
      rw [fold_step s k hls] at HB2
      have HSAME : Hid (foldC s[k] = s[k] → BytesIn w w.heap.size (foldL (s.take (k + 1)) ++ s.drop (k + 1)) wr) := Lib.hid (fun e => by
        rw [← fold_step s k hls, e]
        have : (foldL (s.take k) ++ s.drop k).set k s[k] = foldL (s.take k) ++ s.drop k := by
          rw [← fold_at s k hls, List.set_getElem_self]
        rw [this]
        exact hB)
      have HQ := Lib.hid (foldC_eq s[k])
      have HQ2 := Lib.hid (foldC_eq2 s[k])
      have hbyte := s[k].toNat_lt
      have HK1 : Hid (k + 1 ≤ s.length) := Lib.hid hls
      clear hB hll hk
      generalize s[k] = ch at *
      clear hls
      by_cases h65 : 65 ≤ ch.toNat
      · have h65' : (65 : Int) ≤ (ch.toNat : Int) := by omega
        by_cases h90 : ch.toNat ≤ 90
        · have h90' : (ch.toNat : Int) ≤ 90 := by omega
          have hwr := HQ2.out ⟨h65, h90⟩
          clear h65 h90
          go_wp2
          exact ⟨⟨k + 1, by simp, HK1.out, HB2.out⟩, by simp [RowKit.intOf]; omega⟩
        · have h90' : ¬ (ch.toNat : Int) ≤ 90 := by omega
          have HF : Hid (foldC ch = ch) := Lib.hid (HQ.out.2 (fun h => h90 h.2))
          clear h65 h90
          go_wp2
          exact ⟨⟨k + 1, by simp, HK1.out, HSAME.out HF.out⟩, by simp [RowKit.intOf]; omega⟩
      · have h65' : ¬ (65 : Int) ≤ (ch.toNat : Int) := by omega
        have HF : Hid (foldC ch = ch) := Lib.hid (HQ.out.2 (fun h => h65 h.1))
        clear h65
        go_wp2
        exact ⟨⟨k + 1, by simp, HK1.out, HSAME.out HF.out⟩, by simp [RowKit.intOf]; omega⟩
    · obtain rfl : k = n := by omega
      have hB' : BytesIn w w.heap.size (foldL s) wr := by
        rw [HN.out, List.take_length, List.drop_length, List.append_nil] at hB
        exact hB
      have HBW := Lib.hid hB'.bel
      have hcv2 := HCONV.out wr hB'
      clear hB hB' HCONV
      go_wp2
      go_ret
      exact ⟨rfl, HBW.out⟩
end Go.Proofs.YtehgpnnfjgmiiaaGreat
end
section
namespace Go.Proofs.YtehgpnnfjgmiiaaGreat
open Go.Shelf Go.RowKit Go.Lib Go.Great
set_option maxRecDepth 100000
set_option maxHeartbeats 1000000
theorem results_2b {fn : Func} {p q : Tmp} (h : fn.results = #[.tmp p, .tmp q]) {P : Program} (tmps : Array Value) (w : World) (u v : Value) (hp : tmps.getD p undef = u) (hq : tmps.getD q undef = v) : (results fn tmps).run P w = .ok (.tuple #[u, v]) w := by
  have hp' : tmps[p]?.getD undef = u := by simpa using hp
  have hq' : tmps[q]?.getD undef = v := by simpa using hq
  simp [results, h, hp', hq']
end Go.Proofs.YtehgpnnfjgmiiaaGreat
end
section
namespace Go.Proofs.YtehgpnnfjgmiiaaGreat
open Go.Shelf Go.RowKit Go.Lib Go.Great
set_option maxRecDepth 100000
set_option maxHeartbeats 1000000
/-- A slice of bytes. -/
def IsB (v : Value) (xs : List UInt8) (w : World) : Prop := ∃ A c, v = .slice A xs.length c ∧ xs.length ≤ c ∧ BAt w w.heap.size A xs
theorem IsB.of_own {base : Nat} {v : Value} {xs : List UInt8} {w : World} (h : w.ownsRow base 5 1 v xs.length (bcells xs)) : IsB v xs w := by
  have h2 := h
  rcases h.2 with ⟨hv, hn⟩ | ⟨g, cap, cur, hv, hb, hg, hn, _⟩
  · subst hv
    exact ⟨none, 0, by rw [hn], by omega, .inl (List.eq_nil_of_length_eq_zero hn)⟩
  · subst hv
    exact ⟨_, cap, rfl, hn, BAt.of_own h2 (Nat.le_refl _)⟩
theorem IsB.below {v : Value} {xs : List UInt8} {w w' : World} (h : IsB v xs w) (hb : Below w.heap.size w w') : IsB v xs w' := by
  obtain ⟨A, c, h1, h2, h3⟩ := h
  exact ⟨A, c, h1, h2, (h3.below hb).more hb.size⟩
theorem IsB.conv {v : Value} {xs : List UInt8} {w : World} (h : IsB v xs w) : (convert 31 9 v).run Tryz.prog w = .ok (.string (bstr xs)) w := by
  obtain ⟨A, c, rfl, _, h3⟩ := h
  exact run_convert_bat (P := Tryz.prog) 31 9 5 c Tryz.underlying31 Tryz.underlying5 Tryz.underlying9 h3
end Go.Proofs.YtehgpnnfjgmiiaaGreat
end
section
namespace Go.Proofs.YtehgpnnfjgmiiaaGreat
open Go.Shelf Go.RowKit Go.Lib Go.Great
set_option maxRecDepth 100000
set_option maxHeartbeats 2000000
theorem upB {f : FuncId} {args : Array Value} {v : Value} (w : World) (h : ∀ W, Calls Tryz.prog f args W fun e w' => e = .returned v ∧ Below W.heap.size W w') : Hid (∀ W, Below w.heap.size w W → Calls Tryz.prog f args W fun e w' => e = .returned v ∧ Below w.heap.size w w') :=
  Lib.hid (fun W hW => (h W).mono (by rintro e w' ⟨rfl, hb⟩; exact ⟨rfl, hW.trans (hb.mono hW.size)⟩))
theorem wpList_loadG {P : Program} {ops : Array Oper} {rest : List Oper} {o : Oper} {a : Act} {w : World} {Q : Exit → Act → World → Prop} (hw : Region.wanted o (yielded ops a.tmps) = true) (ty : TypeId) (x : Operand) (ho : o.op = .load ty x) (p : Addr) (hx : a.eval x = .pointer (some p)) (v : Value) (hl : (loadVar ty p).run P w = .ok v w)
    (h : wpList P ops Q rest (a.put o.dst v) w) : wpList P ops Q (o :: rest) a w :=
  BigFrame.wpList_want hw fun _ hK => wp_loadV ty x ho p hx v hl (hK _ _ h)
end Go.Proofs.YtehgpnnfjgmiiaaGreat
end
