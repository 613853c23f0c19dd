/- Walk of LabelUnder. Conditions: what comes in fits 2^47 bytes. -/
import Derived.Test.YtjiiignbejbiiaaLla
namespace Go.Proofs.Ytjiiignbejbiiaa
open Go.Shelf Go.RowKit Go.Lib Go.Great
set_option maxRecDepth 100000
set_option maxHeartbeats 2000000
theorem lunder_walk (a b c : List UInt8) (ha : a.length ≤ 140737488355328) (hb : b.length ≤ 140737488355328) (hc : c.length ≤ 140737488355328) (w : World) :
    Calls Try.prog 6 #[.string (bstr a), .string (bstr b), .string (bstr c)] w fun e w' => e = .returned (.bool true) ∧ Below w.heap.size w w' := by
  have hsa := bstr_size a
  have hsb := bstr_size b
  have hsc := bstr_size c
  have HB := Lib.hid (Below.refl w.heap.size w)
  have HB0 := HB.out
  have HLI : Hid (∀ W, Below w.heap.size w W → Calls Try.prog 10 #[] W fun e w' => e = .returned (.bool true) ∧ Below w.heap.size w w') := Lib.hid (fun W hW => (lives_any W).mono (by rintro e w' ⟨rfl, h⟩; exact ⟨rfl, hW.trans (h.mono hW.size)⟩))
  have HGA : Hid (∀ W, Below w.heap.size w W → Calls Try.prog 13 #[.string (bstr a)] W fun e w' => e = .returned (.bool (goodL a)) ∧ Below w.heap.size w w') := Lib.hid (fun W hW => (goodp_any a W).mono (by rintro e w' ⟨rfl, h⟩; exact ⟨rfl, hW.trans (h.mono hW.size)⟩))
  have HAA : Hid (∀ W, Below w.heap.size w W → Calls Try.prog 21 #[.string (bstr a), .string (bstr a)] W fun e w' => e = .returned (.bool (underL a a)) ∧ Below w.heap.size w w') := Lib.hid (fun W hW => (under_any a a W).mono (by rintro e w' ⟨rfl, h⟩; exact ⟨rfl, hW.trans (h.mono hW.size)⟩))
  have HAB : Hid (∀ W, Below w.heap.size w W → Calls Try.prog 21 #[.string (bstr a), .string (bstr b)] W fun e w' => e = .returned (.bool (underL a b)) ∧ Below w.heap.size w w') := Lib.hid (fun W hW => (under_any a b W).mono (by rintro e w' ⟨rfl, h⟩; exact ⟨rfl, hW.trans (h.mono hW.size)⟩))
  have HBC : Hid (∀ W, Below w.heap.size w W → Calls Try.prog 21 #[.string (bstr b), .string (bstr c)] W fun e w' => e = .returned (.bool (underL b c)) ∧ Below w.heap.size w w') := Lib.hid (fun W hW => (under_any b c W).mono (by rintro e w' ⟨rfl, h⟩; exact ⟨rfl, hW.trans (h.mono hW.size)⟩))
  have HAC : Hid (∀ W, Below w.heap.size w W → Calls Try.prog 21 #[.string (bstr a), .string (bstr c)] W fun e w' => e = .returned (.bool (underL a c)) ∧ Below w.heap.size w w') := Lib.hid (fun W hW => (under_any a c W).mono (by rintro e w' ⟨rfl, h⟩; exact ⟨rfl, hW.trans (h.mono hW.size)⟩))
  have HBA : Hid (∀ W, Below w.heap.size w W → Calls Try.prog 21 #[.string (bstr b), .string (bstr a)] W fun e w' => e = .returned (.bool (underL b a)) ∧ Below w.heap.size w w') := Lib.hid (fun W hW => (under_any b a W).mono (by rintro e w' ⟨rfl, h⟩; exact ⟨rfl, hW.trans (h.mono hW.size)⟩))
  have hself : underL a a = goodL a := under_self a
  have HTR := Lib.hid (fun (h1 : underL a b = true) (h2 : underL b c = true) => under_trans h1 h2)
  have HSA := Lib.hid (fun (h1 : underL a b = true) (h2 : underL b a = true) => under_same h1 h2)
  by_cases hbig : a.length + b.length + c.length ≤ 1500
  · have hn : ¬ (1500 : Int) < (a.length : Int) + (b.length : Int) + (c.length : Int) := by omega
    have HSM : Hid (∀ W, Below w.heap.size w W → Calls Try.prog 20 #[.string (bstr a), .string (bstr b)] W fun e w' => e = .returned (.bool (foldL a == foldL b)) ∧ Below w.heap.size w w') := Lib.hid (fun W hW => (same_any a b (by omega) (by omega) W).mono (by rintro e w' ⟨rfl, h⟩; exact ⟨rfl, hW.trans (h.mono hW.size)⟩))
    rw [hself] at HAA
    clear hself HB
    generalize goodL a = ga at *
    generalize underL a b = ab at *
    generalize underL b c = bc at *
    generalize underL a c = ac at *
    generalize underL b a = ba at *
    generalize foldL a = fa at *
    generalize foldL b = fb at *
    generalize bstr a = A at *
    generalize bstr b = B at *
    generalize bstr c = C at *
    generalize a.length = la at *
    generalize b.length = lb at *
    generalize c.length = lc at *
    have hgg : (ga != ga) = false := by cases ga <;> rfl
    cases ab
    · clear HTR HSA
      go_enter Try.func6, Try.ntmps6
      go_wp2_with (first | (go_at_call 10; (with_reducible refine (HLI.out _ (by assumption)).mono ?_); rintro e w1 ⟨rfl, hb1⟩) | (go_at_call 13; (with_reducible refine (HGA.out _ (by assumption)).mono ?_); rintro e w1 ⟨rfl, hb1⟩) | (go_at_call 21; (with_reducible refine (HAA.out _ (by assumption)).mono ?_); rintro e w1 ⟨rfl, hb1⟩) | (go_at_call 21; (with_reducible refine (HAB.out _ (by assumption)).mono ?_); rintro e w1 ⟨rfl, hb1⟩) | (go_at_call 21; (with_reducible refine (HBC.out _ (by assumption)).mono ?_); rintro e w1 ⟨rfl, hb1⟩) | (go_at_call 21; (with_reducible refine (HAC.out _ (by assumption)).mono ?_); rintro e w1 ⟨rfl, hb1⟩) | (go_at_call 21; (with_reducible refine (HBA.out _ (by assumption)).mono ?_); rintro e w1 ⟨rfl, hb1⟩) | (go_at_call 20; (with_reducible refine (HSM.out _ (by assumption)).mono ?_); rintro e w1 ⟨rfl, hb1⟩))
      go_ret
      exact ⟨rfl, by assumption⟩
    · cases bc
      · clear HTR
        cases ba
        · clear HSA
          go_enter Try.func6, Try.ntmps6
          go_wp2_with (first | (go_at_call 10; (with_reducible refine (HLI.out _ (by assumption)).mono ?_); rintro e w1 ⟨rfl, hb1⟩) | (go_at_call 13; (with_reducible refine (HGA.out _ (by assumption)).mono ?_); rintro e w1 ⟨rfl, hb1⟩) | (go_at_call 21; (with_reducible refine (HAA.out _ (by assumption)).mono ?_); rintro e w1 ⟨rfl, hb1⟩) | (go_at_call 21; (with_reducible refine (HAB.out _ (by assumption)).mono ?_); rintro e w1 ⟨rfl, hb1⟩) | (go_at_call 21; (with_reducible refine (HBC.out _ (by assumption)).mono ?_); rintro e w1 ⟨rfl, hb1⟩) | (go_at_call 21; (with_reducible refine (HAC.out _ (by assumption)).mono ?_); rintro e w1 ⟨rfl, hb1⟩) | (go_at_call 21; (with_reducible refine (HBA.out _ (by assumption)).mono ?_); rintro e w1 ⟨rfl, hb1⟩) | (go_at_call 20; (with_reducible refine (HSM.out _ (by assumption)).mono ?_); rintro e w1 ⟨rfl, hb1⟩))
          go_ret
          exact ⟨rfl, by assumption⟩
        · have hfe : (fa == fb) = true := by rw [HSA.out rfl rfl]; simp
          rw [hfe] at HSM
          clear HSA hfe
          go_enter Try.func6, Try.ntmps6
          go_wp2_with (first | (go_at_call 10; (with_reducible refine (HLI.out _ (by assumption)).mono ?_); rintro e w1 ⟨rfl, hb1⟩) | (go_at_call 13; (with_reducible refine (HGA.out _ (by assumption)).mono ?_); rintro e w1 ⟨rfl, hb1⟩) | (go_at_call 21; (with_reducible refine (HAA.out _ (by assumption)).mono ?_); rintro e w1 ⟨rfl, hb1⟩) | (go_at_call 21; (with_reducible refine (HAB.out _ (by assumption)).mono ?_); rintro e w1 ⟨rfl, hb1⟩) | (go_at_call 21; (with_reducible refine (HBC.out _ (by assumption)).mono ?_); rintro e w1 ⟨rfl, hb1⟩) | (go_at_call 21; (with_reducible refine (HAC.out _ (by assumption)).mono ?_); rintro e w1 ⟨rfl, hb1⟩) | (go_at_call 21; (with_reducible refine (HBA.out _ (by assumption)).mono ?_); rintro e w1 ⟨rfl, hb1⟩) | (go_at_call 20; (with_reducible refine (HSM.out _ (by assumption)).mono ?_); rintro e w1 ⟨rfl, hb1⟩))
          go_ret
          exact ⟨rfl, by assumption⟩
      · obtain rfl : ac = true := HTR.out rfl rfl
        clear HTR
        cases ba
        · clear HSA
          go_enter Try.func6, Try.ntmps6
          go_wp2_with (first | (go_at_call 10; (with_reducible refine (HLI.out _ (by assumption)).mono ?_); rintro e w1 ⟨rfl, hb1⟩) | (go_at_call 13; (with_reducible refine (HGA.out _ (by assumption)).mono ?_); rintro e w1 ⟨rfl, hb1⟩) | (go_at_call 21; (with_reducible refine (HAA.out _ (by assumption)).mono ?_); rintro e w1 ⟨rfl, hb1⟩) | (go_at_call 21; (with_reducible refine (HAB.out _ (by assumption)).mono ?_); rintro e w1 ⟨rfl, hb1⟩) | (go_at_call 21; (with_reducible refine (HBC.out _ (by assumption)).mono ?_); rintro e w1 ⟨rfl, hb1⟩) | (go_at_call 21; (with_reducible refine (HAC.out _ (by assumption)).mono ?_); rintro e w1 ⟨rfl, hb1⟩) | (go_at_call 21; (with_reducible refine (HBA.out _ (by assumption)).mono ?_); rintro e w1 ⟨rfl, hb1⟩) | (go_at_call 20; (with_reducible refine (HSM.out _ (by assumption)).mono ?_); rintro e w1 ⟨rfl, hb1⟩))
          go_ret
          exact ⟨rfl, by assumption⟩
        · have hfe : (fa == fb) = true := by rw [HSA.out rfl rfl]; simp
          rw [hfe] at HSM
          clear HSA hfe
          go_enter Try.func6, Try.ntmps6
          go_wp2_with (first | (go_at_call 10; (with_reducible refine (HLI.out _ (by assumption)).mono ?_); rintro e w1 ⟨rfl, hb1⟩) | (go_at_call 13; (with_reducible refine (HGA.out _ (by assumption)).mono ?_); rintro e w1 ⟨rfl, hb1⟩) | (go_at_call 21; (with_reducible refine (HAA.out _ (by assumption)).mono ?_); rintro e w1 ⟨rfl, hb1⟩) | (go_at_call 21; (with_reducible refine (HAB.out _ (by assumption)).mono ?_); rintro e w1 ⟨rfl, hb1⟩) | (go_at_call 21; (with_reducible refine (HBC.out _ (by assumption)).mono ?_); rintro e w1 ⟨rfl, hb1⟩) | (go_at_call 21; (with_reducible refine (HAC.out _ (by assumption)).mono ?_); rintro e w1 ⟨rfl, hb1⟩) | (go_at_call 21; (with_reducible refine (HBA.out _ (by assumption)).mono ?_); rintro e w1 ⟨rfl, hb1⟩) | (go_at_call 20; (with_reducible refine (HSM.out _ (by assumption)).mono ?_); rintro e w1 ⟨rfl, hb1⟩))
          go_ret
          exact ⟨rfl, by assumption⟩
  · have hn : (1500 : Int) < (a.length : Int) + (b.length : Int) + (c.length : Int) := by omega
    clear HGA HAA HAB HBC HAC HBA HTR HSA hself HB
    generalize bstr a = A at *
    generalize bstr b = B at *
    generalize bstr c = C at *
    generalize a.length = la at *
    generalize b.length = lb at *
    generalize c.length = lc at *
    go_enter Try.func6, Try.ntmps6
    go_wp2_with (go_at_call 10; (with_reducible refine (HLI.out _ (by assumption)).mono ?_); rintro e w1 ⟨rfl, hb1⟩)
    go_ret
    exact ⟨rfl, by assumption⟩
end Go.Proofs.Ytjiiignbejbiiaa
