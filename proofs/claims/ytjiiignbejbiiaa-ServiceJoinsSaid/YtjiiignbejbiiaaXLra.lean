/- Contracts of letter and Part of signpostref09. No condition. -/
import Derived.Test.YtjiiignbejbiiaaXLce
namespace Go.Proofs.Ytjiiignbejbiiaa
open Go.Shelf Go.RowKit Go.Lib Go.Great
set_option maxRecDepth 100000
set_option maxHeartbeats 1000000
theorem rlet_any (c : UInt8) (w : World) : Calls Try.prog 39 #[.int .u8 (c.toNat : Int)] w fun e w' => e = .returned (.bool (letB c)) ∧ w' = w := by
  unfold letB capB
  generalize c.toNat = n
  by_cases h1 : 97 ≤ n
  · have h1' : (97 : Int) ≤ (n : Int) := by omega
    by_cases h2 : n ≤ 122
    · have h2' : (n : Int) ≤ 122 := by omega
      go_enter Try.func39, Try.ntmps39
      go_wp2
      go_ret
      simp [h1, h2]
    · have h2' : ¬ (n : Int) ≤ 122 := by omega
      have h3' : (65 : Int) ≤ (n : Int) := by omega
      have h4' : ¬ (n : Int) ≤ 90 := by omega
      go_enter Try.func39, Try.ntmps39
      go_wp2
      go_ret
      simp [h2]
      omega
  · have h1' : ¬ (97 : Int) ≤ (n : Int) := by omega
    by_cases h3 : 65 ≤ n
    · have h3' : (65 : Int) ≤ (n : Int) := by omega
      by_cases h4 : n ≤ 90
      · have h4' : (n : Int) ≤ 90 := by omega
        go_enter Try.func39, Try.ntmps39
        go_wp2
        go_ret
        simp [h3, h4]
      · have h4' : ¬ (n : Int) ≤ 90 := by omega
        go_enter Try.func39, Try.ntmps39
        go_wp2
        go_ret
        simp [h1, h4]
    · have h3' : ¬ (65 : Int) ≤ (n : Int) := by omega
      go_enter Try.func39, Try.ntmps39
      go_wp2
      go_ret
      simp [h1, h3]
theorem nameB_eq (c : UInt8) : nameB c = (letB c || digitB c || c.toNat == 45 || c.toNat == 95) := by
  rw [Bool.eq_iff_iff]
  simp only [nameB, letB, capB, digitB, Bool.or_eq_true, Bool.and_eq_true, decide_eq_true_iff, beq_iff_eq]
def namesTo (s : List UInt8) (i : Nat) : Prop := ∀ j, j < i → nameB s[j]! = true
def RPartR (s : List UInt8) (w : World) (i : Value) (wr : World) : Prop := ∃ k : Nat, i = .int .i64 (k : Int) ∧ k ≤ s.length ∧ namesTo s k ∧ Below w.heap.size w wr
theorem rpart_any (s : List UInt8) (hs : s.length ≤ 100000) (w : World) : Calls Try.prog 12 #[.string (bstr s)] w fun e w' => e = .returned (.bool (partL s)) ∧ Below w.heap.size w w' := by
  have hsz := bstr_size s
  have HB := Lib.hid (bstr_get s)
  have R0 : Hid (RPartR s w (.int .i64 0) w) := Lib.hid ⟨0, rfl, by omega, fun j hj => absurd hj (by omega), Below.refl _ _⟩
  have HPL := Lib.hid (partL_iff s)
  have HM : Hid (namesTo s s.length ↔ ∀ c ∈ s, nameB c = true) := Lib.hid (by
    constructor
    · intro h c hc
      obtain ⟨i, hi, rfl⟩ := List.mem_iff_getElem.1 hc
      have := h i hi
      rwa [getElem!_pos s i hi] at this
    · intro h j hj
      rw [getElem!_pos s j hj]
      exact h _ (List.getElem_mem hj))
  obtain ⟨n, hn⟩ : ∃ n, n = s.length := ⟨_, rfl⟩
  rw [← hn] at hsz hs HPL HM
  have HN := Lib.hid hn
  clear hn
  generalize bstr s = B at *
  go_enter Try.func12, Try.ntmps12
  go_upto_region 2 with fail
  go_loopw [3] (RPartR s w) (fun i _ => n - (RowKit.intOf i).toNat)
  case atStart => exact R0.out
  case round =>
    obtain ⟨k, rfl, hk, hF, hb⟩ := hrel
    rw [← HN.out] at hk
    clear R0
    have HF := Lib.hid hF
    have HBW := Lib.hid hb
    clear hF hb
    by_cases hlt : k < n
    · have hlt' : (k : Int) < (n : Int) := by omega
      have hget := HB.out k (by omega)
      have HL := Lib.hid (fun W => rlet_any s[k]! W)
      have HNEXT : Hid (nameB s[k]! = true → RPartR s w (.int .i64 ((k : Int) + 1)) wr) := Lib.hid (fun h => ⟨k + 1, by simp, by rw [← HN.out]; omega, fun j hj => by
        by_cases e : j = k
        · subst e; exact h
        · exact HF.out j (by omega), HBW.out⟩)
      have HSTOP : Hid (nameB s[k]! = false → partL s = false) := Lib.hid (fun h => by
        rw [← Bool.not_eq_true]
        intro hp
        have := HM.out.2 (HPL.out.1 hp).2.1 k hlt
        rw [h] at this
        cases this)
      rw [nameB_eq] at HNEXT HSTOP
      clear HB HF HPL HM
      generalize s[k]! = ch at *
      unfold digitB at HNEXT HSTOP
      generalize letB ch = q at *
      have h8 := ch.toNat_lt
      obtain ⟨m, hm⟩ : ∃ m, ch.toNat = m := ⟨_, rfl⟩
      rw [hm] at HL HNEXT HSTOP h8
      cases q
      · by_cases d1 : 48 ≤ m
        · have d1' : (48 : Int) ≤ (m : Int) := by omega
          by_cases d2 : m ≤ 57
          · have d2' : (m : Int) ≤ 57 := by omega
            go_wp2_with (go_at_call 39; (with_reducible refine (HL.out _).mono ?_); rintro e w1 ⟨rfl, rfl⟩)
            go_roundw
            case rel => exact HNEXT.out (by simp; try omega)
            case measure => simp [RowKit.intOf]; omega
          · have d2' : ¬ (m : Int) ≤ 57 := by omega
            have d2e : decide ((m : Int) ≤ 57) = false := by simp; omega
            by_cases e45 : m = 45
            · have e45b : ((m : Int) == 45) = true := by simp; omega
              have e45c : ((m : Int) != 45) = false := by simp; omega
              have E45 := Lib.hid e45
              clear e45
              go_wp2_with (go_at_call 39; (with_reducible refine (HL.out _).mono ?_); rintro e w1 ⟨rfl, rfl⟩)
              go_roundw
              case rel => exact HNEXT.out (by have := E45.out; simp; try omega)
              case measure => simp [RowKit.intOf]; omega
            · have e45' : ((m : Int) == 45) = false := by simp; omega
              have e45c : ((m : Int) != 45) = true := by simp; omega
              have e45d : ¬ (m : Int) = 45 := by omega
              by_cases e95 : m = 95
              · have e95b : ((m : Int) == 95) = true := by simp; omega
                have e95c : ((m : Int) != 95) = false := by simp; omega
                have E95 := Lib.hid e95
                clear e95
                go_wp2_with (go_at_call 39; (with_reducible refine (HL.out _).mono ?_); rintro e w1 ⟨rfl, rfl⟩)
                go_roundw
                case rel => exact HNEXT.out (by have := E95.out; simp; try omega)
                case measure => simp [RowKit.intOf]; omega
              · have e95' : ((m : Int) == 95) = false := by simp; omega
                have e95c : ((m : Int) != 95) = true := by simp; omega
                have e95d : ¬ (m : Int) = 95 := by omega
                go_wp2_with (go_at_call 39; (with_reducible refine (HL.out _).mono ?_); rintro e w1 ⟨rfl, rfl⟩)
                go_ret
                have hno := HSTOP.out (by simp; omega)
                exact ⟨by simp [hno], HBW.out⟩
        · have d1' : ¬ (48 : Int) ≤ (m : Int) := by omega
          by_cases e45 : m = 45
          · have e45b : ((m : Int) == 45) = true := by simp; omega
            have e45c : ((m : Int) != 45) = false := by simp; omega
            have E45 := Lib.hid e45
            clear e45
            go_wp2_with (go_at_call 39; (with_reducible refine (HL.out _).mono ?_); rintro e w1 ⟨rfl, rfl⟩)
            go_roundw
            case rel => exact HNEXT.out (by have := E45.out; simp; try omega)
            case measure => simp [RowKit.intOf]; omega
          · have e45' : ((m : Int) == 45) = false := by simp; omega
            have e45c : ((m : Int) != 45) = true := by simp; omega
            have e45d : ¬ (m : Int) = 45 := by omega
            by_cases e95 : m = 95
            · have e95b : ((m : Int) == 95) = true := by simp; omega
              have e95c : ((m : Int) != 95) = false := by simp; omega
              have E95 := Lib.hid e95
              clear e95
              go_wp2_with (go_at_call 39; (with_reducible refine (HL.out _).mono ?_); rintro e w1 ⟨rfl, rfl⟩)
              go_roundw
              case rel => exact HNEXT.out (by have := E95.out; simp; try omega)
              case measure => simp [RowKit.intOf]; omega
            · have e95' : ((m : Int) == 95) = false := by simp; omega
              have e95c : ((m : Int) != 95) = true := by simp; omega
              have e95d : ¬ (m : Int) = 95 := by omega
              go_wp2_with (go_at_call 39; (with_reducible refine (HL.out _).mono ?_); rintro e w1 ⟨rfl, rfl⟩)
              go_ret
              have hno := HSTOP.out (by simp; omega)
              exact ⟨by simp [hno], HBW.out⟩
      · go_wp2_with (go_at_call 39; (with_reducible refine (HL.out _).mono ?_); rintro e w1 ⟨rfl, rfl⟩)
        go_roundw
        case rel => exact HNEXT.out (by simp; try omega)
        case measure => simp [RowKit.intOf]; omega
    · obtain rfl : k = n := by omega
      have HT : Hid (namesTo s k) := HF
      clear HF
      have hnl : ¬ (k : Int) < (k : Int) := by omega
      by_cases k0 : k = 0
      · subst k0
        have HNO : Hid (partL s = false) := Lib.hid (by rw [← Bool.not_eq_true]; intro h; have := (HPL.out.1 h).1; omega)
        clear HPL HM HB
        go_wp2
        go_ret
        exact ⟨by simp [HNO.out], HBW.out⟩
      · have k1 : (1 : Int) ≤ (k : Int) := by omega
        by_cases k63 : k ≤ 63
        · have k63' : (k : Int) ≤ 63 := by omega
          obtain ⟨j, hj⟩ : ∃ j, k = j + 1 := ⟨k - 1, by omega⟩
          have hsub : (k : Int) - 1 = (j : Int) := by omega
          have hj' : (j : Int) < (k : Int) := by omega
          have hk0' : (0 : Int) < (k : Int) := by omega
          have hget0 := HB.out 0 (by omega)
          have hget1 := HB.out j (by omega)
          have HP2 : Hid (s[0]! ≠ 45 → s[j]! ≠ 45 → partL s = true) := Lib.hid (fun h1 h2 => HPL.out.2 ⟨⟨by omega, k63⟩, HM.out.1 HT.out, h1, by rw [show k - 1 = j by omega]; exact h2⟩)
          have HP0 : Hid (s[0]! = 45 → partL s = false) := Lib.hid (fun h1 => by rw [← Bool.not_eq_true]; intro h; exact (HPL.out.1 h).2.2.1 h1)
          have HP1 : Hid (s[j]! = 45 → partL s = false) := Lib.hid (fun h1 => by rw [← Bool.not_eq_true]; intro h; exact (HPL.out.1 h).2.2.2 (by rw [show k - 1 = j by omega]; exact h1))
          have HCE : Hid (∀ c : UInt8, (c = 45 ↔ c.toNat = 45)) := Lib.hid (fun c => ⟨fun h => by rw [h]; rfl, fun h => UInt8.toNat_inj.1 (by rw [h]; rfl)⟩)
          clear HPL HM HT HB
          generalize s[0]! = a at *
          generalize s[j]! = z at *
          by_cases ha : a = 45
          · have ha' : (a.toNat : Int) = 45 := by rw [(HCE.out a).1 ha]; rfl
            have HNO := Lib.hid (HP0.out ha)
            clear ha
            go_wp2
            go_ret
            exact ⟨by simp [HNO.out], HBW.out⟩
          · have ha' : ¬ (a.toNat : Int) = 45 := fun h => ha ((HCE.out a).2 (by omega))
            by_cases hz : z = 45
            · have hz' : (z.toNat : Int) = 45 := by rw [(HCE.out z).1 hz]; rfl
              have HNO := Lib.hid (HP1.out hz)
              clear hz ha
              go_wp2
              go_ret
              exact ⟨by simp [HNO.out], HBW.out⟩
            · have hz' : ¬ (z.toNat : Int) = 45 := fun h => hz ((HCE.out z).2 (by omega))
              have HYES := Lib.hid (HP2.out ha hz)
              clear hz ha
              go_wp2
              go_ret
              exact ⟨by simp [HYES.out]; exact ⟨ha', hz'⟩, HBW.out⟩
        · have k63' : ¬ (k : Int) ≤ 63 := by omega
          have HNO : Hid (partL s = false) := Lib.hid (by rw [← Bool.not_eq_true]; intro h; have := (HPL.out.1 h).1; omega)
          clear HPL HM HB
          go_wp2
          go_ret
          exact ⟨by simp [HNO.out], HBW.out⟩
end Go.Proofs.Ytjiiignbejbiiaa
