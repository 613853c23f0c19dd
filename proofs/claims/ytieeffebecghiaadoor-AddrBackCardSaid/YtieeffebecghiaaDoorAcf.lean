/- Contract of number of package addr. Conditions: fewer than 2^62 bytes, a bound below 2^32. -/
import Derived.Test.YtieeffebecghiaaDoorAce
namespace Go.Proofs.YtieeffebecghiaaDoor
set_option maxRecDepth 100000
set_option maxHeartbeats 1000000
open Go.RowKit Go.Lib Go.Great

def NumP2 (l : List UInt8) (most : Nat) (e : Ending) : Prop := ∃ (n : Nat) (b : Bool), e = .returned (.tuple #[.int .u64 (n : Int), .bool b]) ∧ n < 1000000000 ∧ NumR l most n b
theorem num_start (w : World) (l : List UInt8) (b : Bool) : NumS w (((w.alloc (.cells #[.string (bsA l)] 9)).alloc (.cells #[.int .u64 0] 48)).alloc (.cells #[.bool b] 4)) l b 0 := by
  obtain ⟨h1, h2, h3, hb⟩ := heap3 w (.cells #[.string (bsA l)] 9) (.cells #[.int .u64 0] 48) (.cells #[.bool b] 4)
  exact ⟨h1, h2, h3, hb⟩
theorem NumS.cells {w W : World} {l : List UInt8} {b : Bool} {n : Nat} (h : NumS w W l b n) : W.cell? ⟨w.heap.size, 0, none⟩ = some (.string (bsA l)) ∧ W.cell? ⟨w.heap.size + 1, 0, none⟩ = some (.int .u64 (n : Int)) ∧ W.cell? ⟨w.heap.size + 1 + 1, 0, none⟩ = some (.bool b) := by
  refine ⟨?_, ?_, ?_⟩
  · rw [cell_of_row _ _ 0 _ 9 (0, 0) h.str]; rfl
  · rw [cell_of_row _ _ 0 _ 48 (0, 0) h.num]; rfl
  · rw [cell_of_row _ _ 0 _ 4 (0, 0) h.okc]; rfl
theorem NumS.drewN {w W : World} {l : List UInt8} {b : Bool} {n : Nat} (h : NumS w W l b n) (k : Nat) : NumS w (W.drewN k) l b n := ⟨h.str, h.num, h.okc, below_drewN h.bel k⟩

theorem number_1 (xa : UInt8) (most : Nat) (w : World) : Calls Tryd.prog 24 #[.string (bsA [xa]), .int .u64 (most : Int)] w fun e w' => NumP2 [xa] most e ∧ Below w.heap.size w w' := by
  have hmf : ∀ (fn : Fn) (first cap : Array Value) (w : World), (Instr.makeFunc fn first cap).run Tryd.prog w = .ok (.func fn first cap) w := fun _ _ _ _ => rfl
  have HN := Lib.hid (num_spec [xa] most (by simp))
  have HPF := Lib.hid (fun W => Tryd.strings_HasPrefix (bsA [xa]) ⟨#[48]⟩ W)
  have hsz : (bsA [xa]).size = 1 := bsA_size _
  obtain ⟨b0, hb0⟩ : ∃ b0, b0 = firstOk [xa] := ⟨_, rfl⟩
  have hb1 : b0 = true := by rw [hb0]; unfold firstOk; simp
  have HS0 := Lib.hid (num_start w [xa] b0)
  have hd : ∀ c : UInt8, dgt c < 256 := fun c => by unfold dgt; omega
  rw [← hb0] at HN
  have HD : Hid (∀ (W : World) (b : Bool) (n k i : Nat) (hi : i < [xa].length), NumS w W [xa] b n → n < 1000000000 → k + i = [xa].length → Calls Tryd.prog 36 #[.int .i64 (k : Int), .pointer (some ⟨w.heap.size, 0, none⟩), .pointer (some ⟨w.heap.size + 1 + 1, 0, none⟩), .pointer (some ⟨w.heap.size + 1, 0, none⟩)] W fun e w' => e = .returned (.tuple #[]) ∧ NumS w w' [xa] (b && decide (dgt [xa][i] ≤ 9)) (10 * n + dgt [xa][i])) := Lib.hid (fun W b n k i hi h hn hk => digit_any h (by simp) hn k i hi hk)
  have D0 : Hid (∀ (W : World) (b : Bool) (n : Nat), NumS w W [xa] b n → n < 1000000000 → Calls Tryd.prog 36 #[.int .i64 1, .pointer (some ⟨w.heap.size, 0, none⟩), .pointer (some ⟨w.heap.size + 1 + 1, 0, none⟩), .pointer (some ⟨w.heap.size + 1, 0, none⟩)] W fun e w' => e = .returned (.tuple #[]) ∧ NumS w w' [xa] (b && decide (dgt xa ≤ 9)) (10 * n + dgt xa)) := Lib.hid (fun W b n h hn => HD.out W b n 1 0 (by simp) h hn (by simp))
  have HFN : Hid (∀ nf bf, nf = nF [xa] → bf = (b0 && allD [xa]) → NumR [xa] most nf (bf && decide (nf ≤ most))) := Lib.hid (fun nf bf h1 h2 => by rw [h1, h2]; exact HN.out)
  have HCE : Hid (∀ (W : World) b n, NumS w W [xa] b n → W.cell? ⟨w.heap.size, 0, none⟩ = some (.string (bsA [xa])) ∧ W.cell? ⟨w.heap.size + 1, 0, none⟩ = some (.int .u64 (n : Int)) ∧ W.cell? ⟨w.heap.size + 1 + 1, 0, none⟩ = some (.bool b)) := Lib.hid (fun W b n h => h.cells)
  clear hb0 HD
  generalize bsA [xa] = B at *
  subst hb1
  have hda := hd xa
  go_enter Tryd.func24, Tryd.ntmps24
  go_upto_region 3 with fail
  have HS := HS0
  clear HS0
  generalize ((w.alloc (.cells #[.string B] 9)).alloc (.cells #[.int .u64 0] 48)).alloc (.cells #[.bool true] 4) = W1 at HS ⊢
  have cs := (HCE.out _ _ _ HS.out).1
  go_upto_region 14 with fail
  go_wp2_with (go_at_call 36; refine Hid.out ?_)
  refine Lib.hid ?_
  (with_reducible refine (D0.out _ _ _ HS.out (by omega)).mono ?_)
  rintro e w2 ⟨rfl, h2⟩
  obtain ⟨n1, hn⟩ : ∃ n, n = 10 * 0 + dgt xa := ⟨_, rfl⟩
  obtain ⟨b1x, hb⟩ : ∃ b, b = (true && decide (dgt xa ≤ 9)) := ⟨_, rfl⟩
  rw [← hn, ← hb] at h2
  have HN1 := Lib.hid hn
  have HB1 := Lib.hid hb
  have hlt1 : n1 < 1000 := by omega
  replace HS := Lib.hid h2
  clear h2 hn hb
  go_upto_region 16 with fail
  have hfin := HFN.out n1 b1x (by have e1 := HN1.out; simp [nF]; omega) (by have e1 := HB1.out; rw [e1]; simp [allD, Bool.and_assoc])
  obtain ⟨_, cn, co⟩ := HCE.out _ _ _ HS.out
  have HBF : Hid (∀ k, Below w.heap.size w (w2.drewN k)) := Lib.hid (fun k => below_drewN HS.out.bel k)
  clear HFN HCE HS HPF cs D0 HN1 HB1
  have HFI := Lib.hid hfin
  clear hfin
  generalize n1 = nf at *
  generalize b1x = bf at *
  have hq : (bf = false) ∨ (bf = true ∧ (nf : Int) ≤ (most : Int)) ∨ (bf = true ∧ ¬ (nf : Int) ≤ (most : Int)) := by
    cases bf
    · exact .inl rfl
    · by_cases h : (nf : Int) ≤ (most : Int)
      · exact .inr (.inl ⟨rfl, h⟩)
      · exact .inr (.inr ⟨rfl, h⟩)
  rcases hq with rfl | ⟨rfl, hm⟩ | ⟨rfl, hm⟩
  · have HR : Hid (NumR [xa] most nf false) := Lib.hid (by have := HFI.out; simpa using this)
    clear HFI
    go_wp2
    go_quiet (fail)
    go_wp2
    go_ret2
    exact ⟨⟨_, _, rfl, by omega, HR.out⟩, HBF.out _⟩
  · have HR : Hid (NumR [xa] most nf true) := Lib.hid (by have := HFI.out; simpa [show nf ≤ most by omega] using this)
    clear HFI
    go_wp2
    go_quiet (fail)
    go_wp2
    go_ret2
    exact ⟨⟨_, _, rfl, by omega, HR.out⟩, HBF.out _⟩
  · have HR : Hid (NumR [xa] most nf (decide (nf ≤ most))) := Lib.hid (by have := HFI.out; simpa using this)
    clear HFI
    go_wp2
    go_quiet (fail)
    go_wp2
    go_ret2
    exact ⟨⟨_, _, rfl, by omega, HR.out⟩, HBF.out _⟩

theorem number_2 (xa xb : UInt8) (most : Nat) (w : World) : Calls Tryd.prog 24 #[.string (bsA [xa, xb]), .int .u64 (most : Int)] w fun e w' => NumP2 [xa, xb] most e ∧ Below w.heap.size w w' := by
  have hmf : ∀ (fn : Fn) (first cap : Array Value) (w : World), (Instr.makeFunc fn first cap).run Tryd.prog w = .ok (.func fn first cap) w := fun _ _ _ _ => rfl
  have HN := Lib.hid (num_spec [xa, xb] most (by simp))
  have HPF := Lib.hid (fun W => Tryd.strings_HasPrefix (bsA [xa, xb]) ⟨#[48]⟩ W)
  have hsz : (bsA [xa, xb]).size = 2 := bsA_size _
  obtain ⟨b0, hb0⟩ : ∃ b0, b0 = firstOk [xa, xb] := ⟨_, rfl⟩
  have hpf : Lib.hasPrefix (bsA [xa, xb]).data.toList (⟨#[48]⟩ : ByteArray).data.toList = !b0 := by
    rw [hb0]
    unfold firstOk
    simp [bsA]
  rw [hpf] at HPF
  have HS0 := Lib.hid (num_start w [xa, xb] b0)
  have hd : ∀ c : UInt8, dgt c < 256 := fun c => by unfold dgt; omega
  rw [← hb0] at HN
  have HD : Hid (∀ (W : World) (b : Bool) (n k i : Nat) (hi : i < [xa, xb].length), NumS w W [xa, xb] b n → n < 1000000000 → k + i = [xa, xb].length → Calls Tryd.prog 36 #[.int .i64 (k : Int), .pointer (some ⟨w.heap.size, 0, none⟩), .pointer (some ⟨w.heap.size + 1 + 1, 0, none⟩), .pointer (some ⟨w.heap.size + 1, 0, none⟩)] W fun e w' => e = .returned (.tuple #[]) ∧ NumS w w' [xa, xb] (b && decide (dgt [xa, xb][i] ≤ 9)) (10 * n + dgt [xa, xb][i])) := Lib.hid (fun W b n k i hi h hn hk => digit_any h (by simp) hn k i hi hk)
  have D0 : Hid (∀ (W : World) (b : Bool) (n : Nat), NumS w W [xa, xb] b n → n < 1000000000 → Calls Tryd.prog 36 #[.int .i64 2, .pointer (some ⟨w.heap.size, 0, none⟩), .pointer (some ⟨w.heap.size + 1 + 1, 0, none⟩), .pointer (some ⟨w.heap.size + 1, 0, none⟩)] W fun e w' => e = .returned (.tuple #[]) ∧ NumS w w' [xa, xb] (b && decide (dgt xa ≤ 9)) (10 * n + dgt xa)) := Lib.hid (fun W b n h hn => HD.out W b n 2 0 (by simp) h hn (by simp))
  have D1 : Hid (∀ (W : World) (b : Bool) (n : Nat), NumS w W [xa, xb] b n → n < 1000000000 → Calls Tryd.prog 36 #[.int .i64 1, .pointer (some ⟨w.heap.size, 0, none⟩), .pointer (some ⟨w.heap.size + 1 + 1, 0, none⟩), .pointer (some ⟨w.heap.size + 1, 0, none⟩)] W fun e w' => e = .returned (.tuple #[]) ∧ NumS w w' [xa, xb] (b && decide (dgt xb ≤ 9)) (10 * n + dgt xb)) := Lib.hid (fun W b n h hn => HD.out W b n 1 1 (by simp) h hn (by simp))
  have HFN : Hid (∀ nf bf, nf = nF [xa, xb] → bf = (b0 && allD [xa, xb]) → NumR [xa, xb] most nf (bf && decide (nf ≤ most))) := Lib.hid (fun nf bf h1 h2 => by rw [h1, h2]; exact HN.out)
  have HCE : Hid (∀ (W : World) b n, NumS w W [xa, xb] b n → W.cell? ⟨w.heap.size, 0, none⟩ = some (.string (bsA [xa, xb])) ∧ W.cell? ⟨w.heap.size + 1, 0, none⟩ = some (.int .u64 (n : Int)) ∧ W.cell? ⟨w.heap.size + 1 + 1, 0, none⟩ = some (.bool b)) := Lib.hid (fun W b n h => h.cells)
  clear hb0 HD
  clear hpf
  generalize bsA [xa, xb] = B at *
  have hda := hd xa
  have hdb := hd xb
  go_enter Tryd.func24, Tryd.ntmps24
  go_upto_region 3 with (go_at_call 35; (with_reducible refine (HPF.out _).mono ?_); rintro e w1 ⟨rfl, rfl⟩)
  have HS := HS0
  clear HS0
  generalize ((w.alloc (.cells #[.string B] 9)).alloc (.cells #[.int .u64 0] 48)).alloc (.cells #[.bool b0] 4) = W1 at HS ⊢
  have cs := (HCE.out _ _ _ HS.out).1
  go_upto_region 13 with fail
  go_wp2_with (go_at_call 36; refine Hid.out ?_)
  refine Lib.hid ?_
  (with_reducible refine (D0.out _ _ _ HS.out (by omega)).mono ?_)
  rintro e w2 ⟨rfl, h2⟩
  obtain ⟨n1, hn⟩ : ∃ n, n = 10 * 0 + dgt xa := ⟨_, rfl⟩
  obtain ⟨b1x, hb⟩ : ∃ b, b = (b0 && decide (dgt xa ≤ 9)) := ⟨_, rfl⟩
  rw [← hn, ← hb] at h2
  have HN1 := Lib.hid hn
  have HB1 := Lib.hid hb
  have hlt1 : n1 < 1000 := by omega
  replace HS := Lib.hid h2
  clear h2 hn hb
  go_upto_region 14 with fail
  go_wp2_with (go_at_call 36; refine Hid.out ?_)
  refine Lib.hid ?_
  (with_reducible refine (D1.out _ _ _ HS.out (by omega)).mono ?_)
  rintro e w3 ⟨rfl, h2⟩
  obtain ⟨n2, hn⟩ : ∃ n, n = 10 * n1 + dgt xb := ⟨_, rfl⟩
  obtain ⟨b2x, hb⟩ : ∃ b, b = (b1x && decide (dgt xb ≤ 9)) := ⟨_, rfl⟩
  rw [← hn, ← hb] at h2
  have HN2 := Lib.hid hn
  have HB2 := Lib.hid hb
  have hlt2 : n2 < 10300 := by omega
  replace HS := Lib.hid h2
  clear h2 hn hb
  go_upto_region 16 with fail
  have hfin := HFN.out n2 b2x (by have e1 := HN1.out; have e2 := HN2.out; simp [nF]; omega) (by have e1 := HB1.out; have e2 := HB2.out; rw [e2, e1]; simp [allD, Bool.and_assoc])
  obtain ⟨_, cn, co⟩ := HCE.out _ _ _ HS.out
  have HBF : Hid (∀ k, Below w.heap.size w (w3.drewN k)) := Lib.hid (fun k => below_drewN HS.out.bel k)
  clear HFN HCE HS HPF cs D0 D1 HN1 HB1 HN2 HB2
  have HFI := Lib.hid hfin
  clear hfin
  generalize n2 = nf at *
  generalize b2x = bf at *
  have hq : (bf = false) ∨ (bf = true ∧ (nf : Int) ≤ (most : Int)) ∨ (bf = true ∧ ¬ (nf : Int) ≤ (most : Int)) := by
    cases bf
    · exact .inl rfl
    · by_cases h : (nf : Int) ≤ (most : Int)
      · exact .inr (.inl ⟨rfl, h⟩)
      · exact .inr (.inr ⟨rfl, h⟩)
  rcases hq with rfl | ⟨rfl, hm⟩ | ⟨rfl, hm⟩
  · have HR : Hid (NumR [xa, xb] most nf false) := Lib.hid (by have := HFI.out; simpa using this)
    clear HFI
    go_wp2
    go_quiet (fail)
    go_wp2
    go_ret2
    exact ⟨⟨_, _, rfl, by omega, HR.out⟩, HBF.out _⟩
  · have HR : Hid (NumR [xa, xb] most nf true) := Lib.hid (by have := HFI.out; simpa [show nf ≤ most by omega] using this)
    clear HFI
    go_wp2
    go_quiet (fail)
    go_wp2
    go_ret2
    exact ⟨⟨_, _, rfl, by omega, HR.out⟩, HBF.out _⟩
  · have HR : Hid (NumR [xa, xb] most nf (decide (nf ≤ most))) := Lib.hid (by have := HFI.out; simpa using this)
    clear HFI
    go_wp2
    go_quiet (fail)
    go_wp2
    go_ret2
    exact ⟨⟨_, _, rfl, by omega, HR.out⟩, HBF.out _⟩

theorem number_3 (xa xb xc : UInt8) (most : Nat) (w : World) : Calls Tryd.prog 24 #[.string (bsA [xa, xb, xc]), .int .u64 (most : Int)] w fun e w' => NumP2 [xa, xb, xc] most e ∧ Below w.heap.size w w' := by
  have hmf : ∀ (fn : Fn) (first cap : Array Value) (w : World), (Instr.makeFunc fn first cap).run Tryd.prog w = .ok (.func fn first cap) w := fun _ _ _ _ => rfl
  have HN := Lib.hid (num_spec [xa, xb, xc] most (by simp))
  have HPF := Lib.hid (fun W => Tryd.strings_HasPrefix (bsA [xa, xb, xc]) ⟨#[48]⟩ W)
  have hsz : (bsA [xa, xb, xc]).size = 3 := bsA_size _
  obtain ⟨b0, hb0⟩ : ∃ b0, b0 = firstOk [xa, xb, xc] := ⟨_, rfl⟩
  have hpf : Lib.hasPrefix (bsA [xa, xb, xc]).data.toList (⟨#[48]⟩ : ByteArray).data.toList = !b0 := by
    rw [hb0]
    unfold firstOk
    simp [bsA]
  rw [hpf] at HPF
  have HS0 := Lib.hid (num_start w [xa, xb, xc] b0)
  have hd : ∀ c : UInt8, dgt c < 256 := fun c => by unfold dgt; omega
  rw [← hb0] at HN
  have HD : Hid (∀ (W : World) (b : Bool) (n k i : Nat) (hi : i < [xa, xb, xc].length), NumS w W [xa, xb, xc] b n → n < 1000000000 → k + i = [xa, xb, xc].length → Calls Tryd.prog 36 #[.int .i64 (k : Int), .pointer (some ⟨w.heap.size, 0, none⟩), .pointer (some ⟨w.heap.size + 1 + 1, 0, none⟩), .pointer (some ⟨w.heap.size + 1, 0, none⟩)] W fun e w' => e = .returned (.tuple #[]) ∧ NumS w w' [xa, xb, xc] (b && decide (dgt [xa, xb, xc][i] ≤ 9)) (10 * n + dgt [xa, xb, xc][i])) := Lib.hid (fun W b n k i hi h hn hk => digit_any h (by simp) hn k i hi hk)
  have D0 : Hid (∀ (W : World) (b : Bool) (n : Nat), NumS w W [xa, xb, xc] b n → n < 1000000000 → Calls Tryd.prog 36 #[.int .i64 3, .pointer (some ⟨w.heap.size, 0, none⟩), .pointer (some ⟨w.heap.size + 1 + 1, 0, none⟩), .pointer (some ⟨w.heap.size + 1, 0, none⟩)] W fun e w' => e = .returned (.tuple #[]) ∧ NumS w w' [xa, xb, xc] (b && decide (dgt xa ≤ 9)) (10 * n + dgt xa)) := Lib.hid (fun W b n h hn => HD.out W b n 3 0 (by simp) h hn (by simp))
  have D1 : Hid (∀ (W : World) (b : Bool) (n : Nat), NumS w W [xa, xb, xc] b n → n < 1000000000 → Calls Tryd.prog 36 #[.int .i64 2, .pointer (some ⟨w.heap.size, 0, none⟩), .pointer (some ⟨w.heap.size + 1 + 1, 0, none⟩), .pointer (some ⟨w.heap.size + 1, 0, none⟩)] W fun e w' => e = .returned (.tuple #[]) ∧ NumS w w' [xa, xb, xc] (b && decide (dgt xb ≤ 9)) (10 * n + dgt xb)) := Lib.hid (fun W b n h hn => HD.out W b n 2 1 (by simp) h hn (by simp))
  have D2 : Hid (∀ (W : World) (b : Bool) (n : Nat), NumS w W [xa, xb, xc] b n → n < 1000000000 → Calls Tryd.prog 36 #[.int .i64 1, .pointer (some ⟨w.heap.size, 0, none⟩), .pointer (some ⟨w.heap.size + 1 + 1, 0, none⟩), .pointer (some ⟨w.heap.size + 1, 0, none⟩)] W fun e w' => e = .returned (.tuple #[]) ∧ NumS w w' [xa, xb, xc] (b && decide (dgt xc ≤ 9)) (10 * n + dgt xc)) := Lib.hid (fun W b n h hn => HD.out W b n 1 2 (by simp) h hn (by simp))
  have HFN : Hid (∀ nf bf, nf = nF [xa, xb, xc] → bf = (b0 && allD [xa, xb, xc]) → NumR [xa, xb, xc] most nf (bf && decide (nf ≤ most))) := Lib.hid (fun nf bf h1 h2 => by rw [h1, h2]; exact HN.out)
  have HCE : Hid (∀ (W : World) b n, NumS w W [xa, xb, xc] b n → W.cell? ⟨w.heap.size, 0, none⟩ = some (.string (bsA [xa, xb, xc])) ∧ W.cell? ⟨w.heap.size + 1, 0, none⟩ = some (.int .u64 (n : Int)) ∧ W.cell? ⟨w.heap.size + 1 + 1, 0, none⟩ = some (.bool b)) := Lib.hid (fun W b n h => h.cells)
  clear hb0 HD
  clear hpf
  generalize bsA [xa, xb, xc] = B at *
  have hda := hd xa
  have hdb := hd xb
  have hdc := hd xc
  go_enter Tryd.func24, Tryd.ntmps24
  go_upto_region 3 with (go_at_call 35; (with_reducible refine (HPF.out _).mono ?_); rintro e w1 ⟨rfl, rfl⟩)
  have HS := HS0
  clear HS0
  generalize ((w.alloc (.cells #[.string B] 9)).alloc (.cells #[.int .u64 0] 48)).alloc (.cells #[.bool b0] 4) = W1 at HS ⊢
  have cs := (HCE.out _ _ _ HS.out).1
  go_upto_region 12 with fail
  go_wp2_with (go_at_call 36; refine Hid.out ?_)
  refine Lib.hid ?_
  (with_reducible refine (D0.out _ _ _ HS.out (by omega)).mono ?_)
  rintro e w2 ⟨rfl, h2⟩
  obtain ⟨n1, hn⟩ : ∃ n, n = 10 * 0 + dgt xa := ⟨_, rfl⟩
  obtain ⟨b1x, hb⟩ : ∃ b, b = (b0 && decide (dgt xa ≤ 9)) := ⟨_, rfl⟩
  rw [← hn, ← hb] at h2
  have HN1 := Lib.hid hn
  have HB1 := Lib.hid hb
  have hlt1 : n1 < 1000 := by omega
  replace HS := Lib.hid h2
  clear h2 hn hb
  go_upto_region 13 with fail
  go_wp2_with (go_at_call 36; refine Hid.out ?_)
  refine Lib.hid ?_
  (with_reducible refine (D1.out _ _ _ HS.out (by omega)).mono ?_)
  rintro e w3 ⟨rfl, h2⟩
  obtain ⟨n2, hn⟩ : ∃ n, n = 10 * n1 + dgt xb := ⟨_, rfl⟩
  obtain ⟨b2x, hb⟩ : ∃ b, b = (b1x && decide (dgt xb ≤ 9)) := ⟨_, rfl⟩
  rw [← hn, ← hb] at h2
  have HN2 := Lib.hid hn
  have HB2 := Lib.hid hb
  have hlt2 : n2 < 10300 := by omega
  replace HS := Lib.hid h2
  clear h2 hn hb
  go_upto_region 14 with fail
  go_wp2_with (go_at_call 36; refine Hid.out ?_)
  refine Lib.hid ?_
  (with_reducible refine (D2.out _ _ _ HS.out (by omega)).mono ?_)
  rintro e w4 ⟨rfl, h2⟩
  obtain ⟨n3, hn⟩ : ∃ n, n = 10 * n2 + dgt xc := ⟨_, rfl⟩
  obtain ⟨b3x, hb⟩ : ∃ b, b = (b2x && decide (dgt xc ≤ 9)) := ⟨_, rfl⟩
  rw [← hn, ← hb] at h2
  have HN3 := Lib.hid hn
  have HB3 := Lib.hid hb
  have hlt3 : n3 < 103300 := by omega
  replace HS := Lib.hid h2
  clear h2 hn hb
  go_upto_region 16 with fail
  have hfin := HFN.out n3 b3x (by have e1 := HN1.out; have e2 := HN2.out; have e3 := HN3.out; simp [nF]; omega) (by have e1 := HB1.out; have e2 := HB2.out; have e3 := HB3.out; rw [e3, e2, e1]; simp [allD, Bool.and_assoc])
  obtain ⟨_, cn, co⟩ := HCE.out _ _ _ HS.out
  have HBF : Hid (∀ k, Below w.heap.size w (w4.drewN k)) := Lib.hid (fun k => below_drewN HS.out.bel k)
  clear HFN HCE HS HPF cs D0 D1 D2 HN1 HB1 HN2 HB2 HN3 HB3
  have HFI := Lib.hid hfin
  clear hfin
  generalize n3 = nf at *
  generalize b3x = bf at *
  have hq : (bf = false) ∨ (bf = true ∧ (nf : Int) ≤ (most : Int)) ∨ (bf = true ∧ ¬ (nf : Int) ≤ (most : Int)) := by
    cases bf
    · exact .inl rfl
    · by_cases h : (nf : Int) ≤ (most : Int)
      · exact .inr (.inl ⟨rfl, h⟩)
      · exact .inr (.inr ⟨rfl, h⟩)
  rcases hq with rfl | ⟨rfl, hm⟩ | ⟨rfl, hm⟩
  · have HR : Hid (NumR [xa, xb, xc] most nf false) := Lib.hid (by have := HFI.out; simpa using this)
    clear HFI
    go_wp2
    go_quiet (fail)
    go_wp2
    go_ret2
    exact ⟨⟨_, _, rfl, by omega, HR.out⟩, HBF.out _⟩
  · have HR : Hid (NumR [xa, xb, xc] most nf true) := Lib.hid (by have := HFI.out; simpa [show nf ≤ most by omega] using this)
    clear HFI
    go_wp2
    go_quiet (fail)
    go_wp2
    go_ret2
    exact ⟨⟨_, _, rfl, by omega, HR.out⟩, HBF.out _⟩
  · have HR : Hid (NumR [xa, xb, xc] most nf (decide (nf ≤ most))) := Lib.hid (by have := HFI.out; simpa using this)
    clear HFI
    go_wp2
    go_quiet (fail)
    go_wp2
    go_ret2
    exact ⟨⟨_, _, rfl, by omega, HR.out⟩, HBF.out _⟩

theorem number_4 (xa xb xc xd : UInt8) (most : Nat) (w : World) : Calls Tryd.prog 24 #[.string (bsA [xa, xb, xc, xd]), .int .u64 (most : Int)] w fun e w' => NumP2 [xa, xb, xc, xd] most e ∧ Below w.heap.size w w' := by
  have hmf : ∀ (fn : Fn) (first cap : Array Value) (w : World), (Instr.makeFunc fn first cap).run Tryd.prog w = .ok (.func fn first cap) w := fun _ _ _ _ => rfl
  have HN := Lib.hid (num_spec [xa, xb, xc, xd] most (by simp))
  have HPF := Lib.hid (fun W => Tryd.strings_HasPrefix (bsA [xa, xb, xc, xd]) ⟨#[48]⟩ W)
  have hsz : (bsA [xa, xb, xc, xd]).size = 4 := bsA_size _
  obtain ⟨b0, hb0⟩ : ∃ b0, b0 = firstOk [xa, xb, xc, xd] := ⟨_, rfl⟩
  have hpf : Lib.hasPrefix (bsA [xa, xb, xc, xd]).data.toList (⟨#[48]⟩ : ByteArray).data.toList = !b0 := by
    rw [hb0]
    unfold firstOk
    simp [bsA]
  rw [hpf] at HPF
  have HS0 := Lib.hid (num_start w [xa, xb, xc, xd] b0)
  have hd : ∀ c : UInt8, dgt c < 256 := fun c => by unfold dgt; omega
  rw [← hb0] at HN
  have HD : Hid (∀ (W : World) (b : Bool) (n k i : Nat) (hi : i < [xa, xb, xc, xd].length), NumS w W [xa, xb, xc, xd] b n → n < 1000000000 → k + i = [xa, xb, xc, xd].length → Calls Tryd.prog 36 #[.int .i64 (k : Int), .pointer (some ⟨w.heap.size, 0, none⟩), .pointer (some ⟨w.heap.size + 1 + 1, 0, none⟩), .pointer (some ⟨w.heap.size + 1, 0, none⟩)] W fun e w' => e = .returned (.tuple #[]) ∧ NumS w w' [xa, xb, xc, xd] (b && decide (dgt [xa, xb, xc, xd][i] ≤ 9)) (10 * n + dgt [xa, xb, xc, xd][i])) := Lib.hid (fun W b n k i hi h hn hk => digit_any h (by simp) hn k i hi hk)
  have D0 : Hid (∀ (W : World) (b : Bool) (n : Nat), NumS w W [xa, xb, xc, xd] b n → n < 1000000000 → Calls Tryd.prog 36 #[.int .i64 4, .pointer (some ⟨w.heap.size, 0, none⟩), .pointer (some ⟨w.heap.size + 1 + 1, 0, none⟩), .pointer (some ⟨w.heap.size + 1, 0, none⟩)] W fun e w' => e = .returned (.tuple #[]) ∧ NumS w w' [xa, xb, xc, xd] (b && decide (dgt xa ≤ 9)) (10 * n + dgt xa)) := Lib.hid (fun W b n h hn => HD.out W b n 4 0 (by simp) h hn (by simp))
  have D1 : Hid (∀ (W : World) (b : Bool) (n : Nat), NumS w W [xa, xb, xc, xd] b n → n < 1000000000 → Calls Tryd.prog 36 #[.int .i64 3, .pointer (some ⟨w.heap.size, 0, none⟩), .pointer (some ⟨w.heap.size + 1 + 1, 0, none⟩), .pointer (some ⟨w.heap.size + 1, 0, none⟩)] W fun e w' => e = .returned (.tuple #[]) ∧ NumS w w' [xa, xb, xc, xd] (b && decide (dgt xb ≤ 9)) (10 * n + dgt xb)) := Lib.hid (fun W b n h hn => HD.out W b n 3 1 (by simp) h hn (by simp))
  have D2 : Hid (∀ (W : World) (b : Bool) (n : Nat), NumS w W [xa, xb, xc, xd] b n → n < 1000000000 → Calls Tryd.prog 36 #[.int .i64 2, .pointer (some ⟨w.heap.size, 0, none⟩), .pointer (some ⟨w.heap.size + 1 + 1, 0, none⟩), .pointer (some ⟨w.heap.size + 1, 0, none⟩)] W fun e w' => e = .returned (.tuple #[]) ∧ NumS w w' [xa, xb, xc, xd] (b && decide (dgt xc ≤ 9)) (10 * n + dgt xc)) := Lib.hid (fun W b n h hn => HD.out W b n 2 2 (by simp) h hn (by simp))
  have D3 : Hid (∀ (W : World) (b : Bool) (n : Nat), NumS w W [xa, xb, xc, xd] b n → n < 1000000000 → Calls Tryd.prog 36 #[.int .i64 1, .pointer (some ⟨w.heap.size, 0, none⟩), .pointer (some ⟨w.heap.size + 1 + 1, 0, none⟩), .pointer (some ⟨w.heap.size + 1, 0, none⟩)] W fun e w' => e = .returned (.tuple #[]) ∧ NumS w w' [xa, xb, xc, xd] (b && decide (dgt xd ≤ 9)) (10 * n + dgt xd)) := Lib.hid (fun W b n h hn => HD.out W b n 1 3 (by simp) h hn (by simp))
  have HFN : Hid (∀ nf bf, nf = nF [xa, xb, xc, xd] → bf = (b0 && allD [xa, xb, xc, xd]) → NumR [xa, xb, xc, xd] most nf (bf && decide (nf ≤ most))) := Lib.hid (fun nf bf h1 h2 => by rw [h1, h2]; exact HN.out)
  have HCE : Hid (∀ (W : World) b n, NumS w W [xa, xb, xc, xd] b n → W.cell? ⟨w.heap.size, 0, none⟩ = some (.string (bsA [xa, xb, xc, xd])) ∧ W.cell? ⟨w.heap.size + 1, 0, none⟩ = some (.int .u64 (n : Int)) ∧ W.cell? ⟨w.heap.size + 1 + 1, 0, none⟩ = some (.bool b)) := Lib.hid (fun W b n h => h.cells)
  clear hb0 HD
  clear hpf
  generalize bsA [xa, xb, xc, xd] = B at *
  have hda := hd xa
  have hdb := hd xb
  have hdc := hd xc
  have hdd := hd xd
  go_enter Tryd.func24, Tryd.ntmps24
  go_upto_region 3 with (go_at_call 35; (with_reducible refine (HPF.out _).mono ?_); rintro e w1 ⟨rfl, rfl⟩)
  have HS := HS0
  clear HS0
  generalize ((w.alloc (.cells #[.string B] 9)).alloc (.cells #[.int .u64 0] 48)).alloc (.cells #[.bool b0] 4) = W1 at HS ⊢
  have cs := (HCE.out _ _ _ HS.out).1
  go_upto_region 11 with fail
  go_wp2_with (go_at_call 36; refine Hid.out ?_)
  refine Lib.hid ?_
  (with_reducible refine (D0.out _ _ _ HS.out (by omega)).mono ?_)
  rintro e w2 ⟨rfl, h2⟩
  obtain ⟨n1, hn⟩ : ∃ n, n = 10 * 0 + dgt xa := ⟨_, rfl⟩
  obtain ⟨b1x, hb⟩ : ∃ b, b = (b0 && decide (dgt xa ≤ 9)) := ⟨_, rfl⟩
  rw [← hn, ← hb] at h2
  have HN1 := Lib.hid hn
  have HB1 := Lib.hid hb
  have hlt1 : n1 < 1000 := by omega
  replace HS := Lib.hid h2
  clear h2 hn hb
  go_upto_region 12 with fail
  go_wp2_with (go_at_call 36; refine Hid.out ?_)
  refine Lib.hid ?_
  (with_reducible refine (D1.out _ _ _ HS.out (by omega)).mono ?_)
  rintro e w3 ⟨rfl, h2⟩
  obtain ⟨n2, hn⟩ : ∃ n, n = 10 * n1 + dgt xb := ⟨_, rfl⟩
  obtain ⟨b2x, hb⟩ : ∃ b, b = (b1x && decide (dgt xb ≤ 9)) := ⟨_, rfl⟩
  rw [← hn, ← hb] at h2
  have HN2 := Lib.hid hn
  have HB2 := Lib.hid hb
  have hlt2 : n2 < 10300 := by omega
  replace HS := Lib.hid h2
  clear h2 hn hb
  go_upto_region 13 with fail
  go_wp2_with (go_at_call 36; refine Hid.out ?_)
  refine Lib.hid ?_
  (with_reducible refine (D2.out _ _ _ HS.out (by omega)).mono ?_)
  rintro e w4 ⟨rfl, h2⟩
  obtain ⟨n3, hn⟩ : ∃ n, n = 10 * n2 + dgt xc := ⟨_, rfl⟩
  obtain ⟨b3x, hb⟩ : ∃ b, b = (b2x && decide (dgt xc ≤ 9)) := ⟨_, rfl⟩
  rw [← hn, ← hb] at h2
  have HN3 := Lib.hid hn
  have HB3 := Lib.hid hb
  have hlt3 : n3 < 103300 := by omega
  replace HS := Lib.hid h2
  clear h2 hn hb
  go_upto_region 14 with fail
  go_wp2_with (go_at_call 36; refine Hid.out ?_)
  refine Lib.hid ?_
  (with_reducible refine (D3.out _ _ _ HS.out (by omega)).mono ?_)
  rintro e w5 ⟨rfl, h2⟩
  obtain ⟨n4, hn⟩ : ∃ n, n = 10 * n3 + dgt xd := ⟨_, rfl⟩
  obtain ⟨b4x, hb⟩ : ∃ b, b = (b3x && decide (dgt xd ≤ 9)) := ⟨_, rfl⟩
  rw [← hn, ← hb] at h2
  have HN4 := Lib.hid hn
  have HB4 := Lib.hid hb
  have hlt4 : n4 < 1033300 := by omega
  replace HS := Lib.hid h2
  clear h2 hn hb
  go_upto_region 16 with fail
  have hfin := HFN.out n4 b4x (by have e1 := HN1.out; have e2 := HN2.out; have e3 := HN3.out; have e4 := HN4.out; simp [nF]; omega) (by have e1 := HB1.out; have e2 := HB2.out; have e3 := HB3.out; have e4 := HB4.out; rw [e4, e3, e2, e1]; simp [allD, Bool.and_assoc])
  obtain ⟨_, cn, co⟩ := HCE.out _ _ _ HS.out
  have HBF : Hid (∀ k, Below w.heap.size w (w5.drewN k)) := Lib.hid (fun k => below_drewN HS.out.bel k)
  clear HFN HCE HS HPF cs D0 D1 D2 D3 HN1 HB1 HN2 HB2 HN3 HB3 HN4 HB4
  have HFI := Lib.hid hfin
  clear hfin
  generalize n4 = nf at *
  generalize b4x = bf at *
  have hq : (bf = false) ∨ (bf = true ∧ (nf : Int) ≤ (most : Int)) ∨ (bf = true ∧ ¬ (nf : Int) ≤ (most : Int)) := by
    cases bf
    · exact .inl rfl
    · by_cases h : (nf : Int) ≤ (most : Int)
      · exact .inr (.inl ⟨rfl, h⟩)
      · exact .inr (.inr ⟨rfl, h⟩)
  rcases hq with rfl | ⟨rfl, hm⟩ | ⟨rfl, hm⟩
  · have HR : Hid (NumR [xa, xb, xc, xd] most nf false) := Lib.hid (by have := HFI.out; simpa using this)
    clear HFI
    go_wp2
    go_quiet (fail)
    go_wp2
    go_ret2
    exact ⟨⟨_, _, rfl, by omega, HR.out⟩, HBF.out _⟩
  · have HR : Hid (NumR [xa, xb, xc, xd] most nf true) := Lib.hid (by have := HFI.out; simpa [show nf ≤ most by omega] using this)
    clear HFI
    go_wp2
    go_quiet (fail)
    go_wp2
    go_ret2
    exact ⟨⟨_, _, rfl, by omega, HR.out⟩, HBF.out _⟩
  · have HR : Hid (NumR [xa, xb, xc, xd] most nf (decide (nf ≤ most))) := Lib.hid (by have := HFI.out; simpa using this)
    clear HFI
    go_wp2
    go_quiet (fail)
    go_wp2
    go_ret2
    exact ⟨⟨_, _, rfl, by omega, HR.out⟩, HBF.out _⟩

theorem number_5 (xa xb xc xd xe : UInt8) (most : Nat) (w : World) : Calls Tryd.prog 24 #[.string (bsA [xa, xb, xc, xd, xe]), .int .u64 (most : Int)] w fun e w' => NumP2 [xa, xb, xc, xd, xe] most e ∧ Below w.heap.size w w' := by
  have hmf : ∀ (fn : Fn) (first cap : Array Value) (w : World), (Instr.makeFunc fn first cap).run Tryd.prog w = .ok (.func fn first cap) w := fun _ _ _ _ => rfl
  have HN := Lib.hid (num_spec [xa, xb, xc, xd, xe] most (by simp))
  have HPF := Lib.hid (fun W => Tryd.strings_HasPrefix (bsA [xa, xb, xc, xd, xe]) ⟨#[48]⟩ W)
  have hsz : (bsA [xa, xb, xc, xd, xe]).size = 5 := bsA_size _
  obtain ⟨b0, hb0⟩ : ∃ b0, b0 = firstOk [xa, xb, xc, xd, xe] := ⟨_, rfl⟩
  have hpf : Lib.hasPrefix (bsA [xa, xb, xc, xd, xe]).data.toList (⟨#[48]⟩ : ByteArray).data.toList = !b0 := by
    rw [hb0]
    unfold firstOk
    simp [bsA]
  rw [hpf] at HPF
  have HS0 := Lib.hid (num_start w [xa, xb, xc, xd, xe] b0)
  have hd : ∀ c : UInt8, dgt c < 256 := fun c => by unfold dgt; omega
  rw [← hb0] at HN
  have HD : Hid (∀ (W : World) (b : Bool) (n k i : Nat) (hi : i < [xa, xb, xc, xd, xe].length), NumS w W [xa, xb, xc, xd, xe] b n → n < 1000000000 → k + i = [xa, xb, xc, xd, xe].length → Calls Tryd.prog 36 #[.int .i64 (k : Int), .pointer (some ⟨w.heap.size, 0, none⟩), .pointer (some ⟨w.heap.size + 1 + 1, 0, none⟩), .pointer (some ⟨w.heap.size + 1, 0, none⟩)] W fun e w' => e = .returned (.tuple #[]) ∧ NumS w w' [xa, xb, xc, xd, xe] (b && decide (dgt [xa, xb, xc, xd, xe][i] ≤ 9)) (10 * n + dgt [xa, xb, xc, xd, xe][i])) := Lib.hid (fun W b n k i hi h hn hk => digit_any h (by simp) hn k i hi hk)
  have D0 : Hid (∀ (W : World) (b : Bool) (n : Nat), NumS w W [xa, xb, xc, xd, xe] b n → n < 1000000000 → Calls Tryd.prog 36 #[.int .i64 5, .pointer (some ⟨w.heap.size, 0, none⟩), .pointer (some ⟨w.heap.size + 1 + 1, 0, none⟩), .pointer (some ⟨w.heap.size + 1, 0, none⟩)] W fun e w' => e = .returned (.tuple #[]) ∧ NumS w w' [xa, xb, xc, xd, xe] (b && decide (dgt xa ≤ 9)) (10 * n + dgt xa)) := Lib.hid (fun W b n h hn => HD.out W b n 5 0 (by simp) h hn (by simp))
  have D1 : Hid (∀ (W : World) (b : Bool) (n : Nat), NumS w W [xa, xb, xc, xd, xe] b n → n < 1000000000 → Calls Tryd.prog 36 #[.int .i64 4, .pointer (some ⟨w.heap.size, 0, none⟩), .pointer (some ⟨w.heap.size + 1 + 1, 0, none⟩), .pointer (some ⟨w.heap.size + 1, 0, none⟩)] W fun e w' => e = .returned (.tuple #[]) ∧ NumS w w' [xa, xb, xc, xd, xe] (b && decide (dgt xb ≤ 9)) (10 * n + dgt xb)) := Lib.hid (fun W b n h hn => HD.out W b n 4 1 (by simp) h hn (by simp))
  have D2 : Hid (∀ (W : World) (b : Bool) (n : Nat), NumS w W [xa, xb, xc, xd, xe] b n → n < 1000000000 → Calls Tryd.prog 36 #[.int .i64 3, .pointer (some ⟨w.heap.size, 0, none⟩), .pointer (some ⟨w.heap.size + 1 + 1, 0, none⟩), .pointer (some ⟨w.heap.size + 1, 0, none⟩)] W fun e w' => e = .returned (.tuple #[]) ∧ NumS w w' [xa, xb, xc, xd, xe] (b && decide (dgt xc ≤ 9)) (10 * n + dgt xc)) := Lib.hid (fun W b n h hn => HD.out W b n 3 2 (by simp) h hn (by simp))
  have D3 : Hid (∀ (W : World) (b : Bool) (n : Nat), NumS w W [xa, xb, xc, xd, xe] b n → n < 1000000000 → Calls Tryd.prog 36 #[.int .i64 2, .pointer (some ⟨w.heap.size, 0, none⟩), .pointer (some ⟨w.heap.size + 1 + 1, 0, none⟩), .pointer (some ⟨w.heap.size + 1, 0, none⟩)] W fun e w' => e = .returned (.tuple #[]) ∧ NumS w w' [xa, xb, xc, xd, xe] (b && decide (dgt xd ≤ 9)) (10 * n + dgt xd)) := Lib.hid (fun W b n h hn => HD.out W b n 2 3 (by simp) h hn (by simp))
  have D4 : Hid (∀ (W : World) (b : Bool) (n : Nat), NumS w W [xa, xb, xc, xd, xe] b n → n < 1000000000 → Calls Tryd.prog 36 #[.int .i64 1, .pointer (some ⟨w.heap.size, 0, none⟩), .pointer (some ⟨w.heap.size + 1 + 1, 0, none⟩), .pointer (some ⟨w.heap.size + 1, 0, none⟩)] W fun e w' => e = .returned (.tuple #[]) ∧ NumS w w' [xa, xb, xc, xd, xe] (b && decide (dgt xe ≤ 9)) (10 * n + dgt xe)) := Lib.hid (fun W b n h hn => HD.out W b n 1 4 (by simp) h hn (by simp))
  have HFN : Hid (∀ nf bf, nf = nF [xa, xb, xc, xd, xe] → bf = (b0 && allD [xa, xb, xc, xd, xe]) → NumR [xa, xb, xc, xd, xe] most nf (bf && decide (nf ≤ most))) := Lib.hid (fun nf bf h1 h2 => by rw [h1, h2]; exact HN.out)
  have HCE : Hid (∀ (W : World) b n, NumS w W [xa, xb, xc, xd, xe] b n → W.cell? ⟨w.heap.size, 0, none⟩ = some (.string (bsA [xa, xb, xc, xd, xe])) ∧ W.cell? ⟨w.heap.size + 1, 0, none⟩ = some (.int .u64 (n : Int)) ∧ W.cell? ⟨w.heap.size + 1 + 1, 0, none⟩ = some (.bool b)) := Lib.hid (fun W b n h => h.cells)
  clear hb0 HD
  clear hpf
  generalize bsA [xa, xb, xc, xd, xe] = B at *
  have hda := hd xa
  have hdb := hd xb
  have hdc := hd xc
  have hdd := hd xd
  have hde := hd xe
  go_enter Tryd.func24, Tryd.ntmps24
  go_upto_region 3 with (go_at_call 35; (with_reducible refine (HPF.out _).mono ?_); rintro e w1 ⟨rfl, rfl⟩)
  have HS := HS0
  clear HS0
  generalize ((w.alloc (.cells #[.string B] 9)).alloc (.cells #[.int .u64 0] 48)).alloc (.cells #[.bool b0] 4) = W1 at HS ⊢
  have cs := (HCE.out _ _ _ HS.out).1
  go_upto_region 10 with fail
  go_wp2_with (go_at_call 36; refine Hid.out ?_)
  refine Lib.hid ?_
  (with_reducible refine (D0.out _ _ _ HS.out (by omega)).mono ?_)
  rintro e w2 ⟨rfl, h2⟩
  obtain ⟨n1, hn⟩ : ∃ n, n = 10 * 0 + dgt xa := ⟨_, rfl⟩
  obtain ⟨b1x, hb⟩ : ∃ b, b = (b0 && decide (dgt xa ≤ 9)) := ⟨_, rfl⟩
  rw [← hn, ← hb] at h2
  have HN1 := Lib.hid hn
  have HB1 := Lib.hid hb
  have hlt1 : n1 < 1000 := by omega
  replace HS := Lib.hid h2
  clear h2 hn hb
  go_upto_region 11 with fail
  go_wp2_with (go_at_call 36; refine Hid.out ?_)
  refine Lib.hid ?_
  (with_reducible refine (D1.out _ _ _ HS.out (by omega)).mono ?_)
  rintro e w3 ⟨rfl, h2⟩
  obtain ⟨n2, hn⟩ : ∃ n, n = 10 * n1 + dgt xb := ⟨_, rfl⟩
  obtain ⟨b2x, hb⟩ : ∃ b, b = (b1x && decide (dgt xb ≤ 9)) := ⟨_, rfl⟩
  rw [← hn, ← hb] at h2
  have HN2 := Lib.hid hn
  have HB2 := Lib.hid hb
  have hlt2 : n2 < 10300 := by omega
  replace HS := Lib.hid h2
  clear h2 hn hb
  go_upto_region 12 with fail
  go_wp2_with (go_at_call 36; refine Hid.out ?_)
  refine Lib.hid ?_
  (with_reducible refine (D2.out _ _ _ HS.out (by omega)).mono ?_)
  rintro e w4 ⟨rfl, h2⟩
  obtain ⟨n3, hn⟩ : ∃ n, n = 10 * n2 + dgt xc := ⟨_, rfl⟩
  obtain ⟨b3x, hb⟩ : ∃ b, b = (b2x && decide (dgt xc ≤ 9)) := ⟨_, rfl⟩
  rw [← hn, ← hb] at h2
  have HN3 := Lib.hid hn
  have HB3 := Lib.hid hb
  have hlt3 : n3 < 103300 := by omega
  replace HS := Lib.hid h2
  clear h2 hn hb
  go_upto_region 13 with fail
  go_wp2_with (go_at_call 36; refine Hid.out ?_)
  refine Lib.hid ?_
  (with_reducible refine (D3.out _ _ _ HS.out (by omega)).mono ?_)
  rintro e w5 ⟨rfl, h2⟩
  obtain ⟨n4, hn⟩ : ∃ n, n = 10 * n3 + dgt xd := ⟨_, rfl⟩
  obtain ⟨b4x, hb⟩ : ∃ b, b = (b3x && decide (dgt xd ≤ 9)) := ⟨_, rfl⟩
  rw [← hn, ← hb] at h2
  have HN4 := Lib.hid hn
  have HB4 := Lib.hid hb
  have hlt4 : n4 < 1033300 := by omega
  replace HS := Lib.hid h2
  clear h2 hn hb
  go_upto_region 14 with fail
  go_wp2_with (go_at_call 36; refine Hid.out ?_)
  refine Lib.hid ?_
  (with_reducible refine (D4.out _ _ _ HS.out (by omega)).mono ?_)
  rintro e w6 ⟨rfl, h2⟩
  obtain ⟨n5, hn⟩ : ∃ n, n = 10 * n4 + dgt xe := ⟨_, rfl⟩
  obtain ⟨b5x, hb⟩ : ∃ b, b = (b4x && decide (dgt xe ≤ 9)) := ⟨_, rfl⟩
  rw [← hn, ← hb] at h2
  have HN5 := Lib.hid hn
  have HB5 := Lib.hid hb
  have hlt5 : n5 < 10333300 := by omega
  replace HS := Lib.hid h2
  clear h2 hn hb
  go_upto_region 16 with fail
  have hfin := HFN.out n5 b5x (by have e1 := HN1.out; have e2 := HN2.out; have e3 := HN3.out; have e4 := HN4.out; have e5 := HN5.out; simp [nF]; omega) (by have e1 := HB1.out; have e2 := HB2.out; have e3 := HB3.out; have e4 := HB4.out; have e5 := HB5.out; rw [e5, e4, e3, e2, e1]; simp [allD, Bool.and_assoc])
  obtain ⟨_, cn, co⟩ := HCE.out _ _ _ HS.out
  have HBF : Hid (∀ k, Below w.heap.size w (w6.drewN k)) := Lib.hid (fun k => below_drewN HS.out.bel k)
  clear HFN HCE HS HPF cs D0 D1 D2 D3 D4 HN1 HB1 HN2 HB2 HN3 HB3 HN4 HB4 HN5 HB5
  have HFI := Lib.hid hfin
  clear hfin
  generalize n5 = nf at *
  generalize b5x = bf at *
  have hq : (bf = false) ∨ (bf = true ∧ (nf : Int) ≤ (most : Int)) ∨ (bf = true ∧ ¬ (nf : Int) ≤ (most : Int)) := by
    cases bf
    · exact .inl rfl
    · by_cases h : (nf : Int) ≤ (most : Int)
      · exact .inr (.inl ⟨rfl, h⟩)
      · exact .inr (.inr ⟨rfl, h⟩)
  rcases hq with rfl | ⟨rfl, hm⟩ | ⟨rfl, hm⟩
  · have HR : Hid (NumR [xa, xb, xc, xd, xe] most nf false) := Lib.hid (by have := HFI.out; simpa using this)
    clear HFI
    go_wp2
    go_quiet (fail)
    go_wp2
    go_ret2
    exact ⟨⟨_, _, rfl, by omega, HR.out⟩, HBF.out _⟩
  · have HR : Hid (NumR [xa, xb, xc, xd, xe] most nf true) := Lib.hid (by have := HFI.out; simpa [show nf ≤ most by omega] using this)
    clear HFI
    go_wp2
    go_quiet (fail)
    go_wp2
    go_ret2
    exact ⟨⟨_, _, rfl, by omega, HR.out⟩, HBF.out _⟩
  · have HR : Hid (NumR [xa, xb, xc, xd, xe] most nf (decide (nf ≤ most))) := Lib.hid (by have := HFI.out; simpa using this)
    clear HFI
    go_wp2
    go_quiet (fail)
    go_wp2
    go_ret2
    exact ⟨⟨_, _, rfl, by omega, HR.out⟩, HBF.out _⟩
end Go.Proofs.YtieeffebecghiaaDoor
