/- Walk of LabelBytes. No condition. -/
import Derived.Test.YtjiiignbejbiiaaLla
namespace Go.Proofs.Ytjiiignbejbiiaa
open Go.Shelf Go.RowKit Go.Lib Go.Great
set_option maxRecDepth 100000
set_option maxHeartbeats 2000000
theorem lbytes_walk (s : List UInt8) (A : Option Addr) (c : Nat) (b : List UInt8) (k : Int) (hc : b.length ≤ c) (w : World) (hA : BAt w w.heap.size A b) :
    Calls Try.prog 4 #[.string (bstr s), .slice A b.length c, .int .i64 k] w fun e w' => e = .returned (.bool true) ∧ Below w.heap.size w w' := by
  have hss := bstr_size s
  have HB := Lib.hid (Below.refl w.heap.size w)
  have HB0 := HB.out
  have HLI : Hid (∀ W, Below w.heap.size w W → Calls Try.prog 10 #[] W fun e w' => e = .returned (.bool true) ∧ Below w.heap.size w w') := Lib.hid (fun W hW => (lives_any W).mono (by rintro e w' ⟨rfl, h⟩; exact ⟨rfl, hW.trans (h.mono hW.size)⟩))
  by_cases hbig : s.length ≤ 600 ∧ b.length ≤ 2000
  · obtain ⟨h1, h2⟩ := hbig
    have h1' : ¬ (600 : Int) < (s.length : Int) := by omega
    have h2' : ¬ (2000 : Int) < (b.length : Int) := by omega
    have HW : Hid (∀ W, Below w.heap.size w W → Calls Try.prog 23 #[.string (bstr s)] W fun e w' => ∃ v, e = .returned (.tuple #[v, .int .i64 (wireT s).2]) ∧ IsB v (wireT s).1 w' ∧ Below w.heap.size w w') := Lib.hid (fun W hW => (wire_any s W).mono (by
      rintro e w' ⟨v, rfl, h3, h4⟩
      exact ⟨v, rfl, h3, hW.trans (h4.mono hW.size)⟩))
    have HRW : Hid (∀ W v, IsB v (wireT s).1 W → Below w.heap.size w W → Calls Try.prog 24 #[.string (bstr s)] W fun e w' => ∃ v2, e = .returned (.tuple #[v2, .int .i64 (wireT s).2]) ∧ IsB v2 (wireT s).1 w' ∧ IsB v (wireT s).1 w' ∧ Below w.heap.size w w') := Lib.hid (fun W v hv hW => (rwire_any s (by omega) W).mono (by
      rintro e w' ⟨v2, rfl, h3, h4⟩
      exact ⟨v2, rfl, h3, hv.below h4, hW.trans (h4.mono hW.size)⟩))
    have HU : Hid (∀ W v v2, IsB v (wireT s).1 W → IsB v2 (wireT s).1 W → Below w.heap.size w W → Calls Try.prog 25 #[.slice A b.length c, .int .i64 k] W fun e w' => e = .returned (tellsU (unwireL b k)) ∧ IsB v (wireT s).1 w' ∧ IsB v2 (wireT s).1 w' ∧ Below w.heap.size w w') := Lib.hid (fun W v v2 hv hv2 hW => (unwire_any A c b k (by omega) hc W ((hA.below hW).more hW.size)).mono (by
      rintro e w' ⟨rfl, h4⟩
      exact ⟨rfl, hv.below h4, hv2.below h4, hW.trans (h4.mono hW.size)⟩))
    have HRU : Hid (∀ W v v2, IsB v (wireT s).1 W → IsB v2 (wireT s).1 W → Below w.heap.size w W → Calls Try.prog 26 #[.slice A b.length c, .int .i64 k] W fun e w' => e = .returned (tellsU (unwireL b k)) ∧ IsB v (wireT s).1 w' ∧ IsB v2 (wireT s).1 w' ∧ Below w.heap.size w w') := Lib.hid (fun W v v2 hv hv2 hW => (runwire_any A c b k (by omega) hc W ((hA.below hW).more hW.size)).mono (by
      rintro e w' ⟨rfl, h4⟩
      exact ⟨rfl, hv.below h4, hv2.below h4, hW.trans (h4.mono hW.size)⟩))
    unfold tellsU at HU HRU
    clear HB hA
    generalize (wireT s).1 = X at *
    generalize (wireT s).2 = E at *
    generalize bstr (unwireL b k).1 = N at *
    generalize (unwireL b k).2.1 = T at *
    generalize (unwireL b k).2.2 = U at *
    generalize bstr s = SB at *
    generalize s.length = ls at *
    generalize b.length = lb at *
    go_enter Try.func4, Try.ntmps4
    go_wp2_with (first
      | (go_at_call 10; (with_reducible refine (HLI.out _ (by assumption)).mono ?_); rintro e w5 ⟨rfl, hb5⟩)
      | (go_at_call 23; (with_reducible refine (HW.out _ HB0).mono ?_); rintro e w1 ⟨v, rfl, hv1, hb1⟩)
      | (go_at_call 24; (with_reducible refine (HRW.out _ _ hv1 hb1).mono ?_); rintro e w2 ⟨v2, rfl, hv22, hv12, hb2⟩)
      | (go_at_call 25; (with_reducible refine (HU.out _ _ _ hv12 hv22 hb2).mono ?_); rintro e w3 ⟨rfl, hv13, hv23, hb3⟩)
      | (go_at_call 26; (with_reducible refine (HRU.out _ _ _ hv13 hv23 hb3).mono ?_); rintro e w4 ⟨rfl, hv14, hv24, hb4⟩; have hcv1 := hv14.conv; have hcv2 := hv24.conv))
    go_ret
    exact ⟨rfl, by assumption⟩
  · have hn : (600 : Int) < (s.length : Int) ∨ ¬ (600 : Int) < (s.length : Int) ∧ (2000 : Int) < (b.length : Int) := by omega
    clear HB hbig hA
    generalize bstr s = SB at *
    generalize s.length = ls at *
    generalize b.length = lb at *
    rcases hn with hn | ⟨hn, hn2⟩
    · go_enter Try.func4, Try.ntmps4
      go_wp2_with (go_at_call 10; (with_reducible refine (HLI.out _ (by assumption)).mono ?_); rintro e w1 ⟨rfl, hb1⟩)
      go_ret
      exact ⟨rfl, by assumption⟩
    · go_enter Try.func4, Try.ntmps4
      go_wp2_with (go_at_call 10; (with_reducible refine (HLI.out _ (by assumption)).mono ?_); rintro e w1 ⟨rfl, hb1⟩)
      go_ret
      exact ⟨rfl, by assumption⟩
end Go.Proofs.Ytjiiignbejbiiaa
