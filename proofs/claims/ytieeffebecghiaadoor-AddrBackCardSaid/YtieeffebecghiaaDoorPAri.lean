/- Plain facts of addresses for the three statements of layer addr. Conditions: host below 2^32, port below 2^16. -/
import Derived.Test.YtieeffebecghiaaDoorPArh
namespace Go.Proofs.YtieeffebecghiaaDoor
open Go.RowKit Go.Lib Go.Great

theorem adT_inj {h p h' p' : Nat} (hh : h < 4294967296) (hp : p < 65536) (hh' : h' < 4294967296) (hp' : p' < 65536) (e : adT h p = adT h' p') : h = h' ∧ p = p' := by
  obtain ⟨_, a, b, c, d, e1, _, _, _, _, k1⟩ := parse_nums hh hp e
  obtain ⟨_, a', b', c', d', e2, _, _, _, _, k2⟩ := parse_nums hh' hp' rfl
  rw [e1] at e2
  simp only [List.cons.injEq, and_true] at e2
  obtain ⟨rfl, rfl, rfl, rfl, rfl⟩ := e2
  exact ⟨k1.symm.trans k2, rfl⟩
theorem ParseIs.unique {s : List UInt8} {v v' : Value} (a : ParseIs s v) (b : ParseIs s v') : v = v' := by
  rcases a with ⟨h, p, h1, h2, h3, h4, h5, rfl⟩ | ⟨a1, rfl⟩
  · rcases b with ⟨h', p', k1, k2, k3, k4, k5, rfl⟩ | ⟨b1, rfl⟩
    · obtain ⟨rfl, rfl⟩ := adT_inj h1 h2 k1 k2 (h5.trans k5.symm)
      rfl
    · exact absurd h5 (b1 h p h1 h2 h3 h4)
  · rcases b with ⟨h', p', k1, k2, k3, k4, k5, rfl⟩ | ⟨b1, rfl⟩
    · exact absurd k5 (a1 h' p' k1 k2 k3 k4)
    · rfl
theorem ParseIs.text {h p : Nat} {v : Value} (hh : h < 4294967296) (hp : p < 65536) (h0 : h ≠ 0) (p0 : p ≠ 0) (a : ParseIs (adT h p) v) : v = .tuple #[.agg (adr h p), .int .i64 0] :=
  a.unique (.inl ⟨h, p, hh, hp, h0, p0, rfl, rfl⟩)
theorem adB_take (h p : Nat) (hh : h < 4294967296) : getN ((adB h p).take 4) = h := by
  unfold adB
  rw [List.take_append_of_le_length (by rw [putB_length]; exact Nat.le_refl _), putB_all, getN_putB]
  exact Nat.mod_eq_of_lt hh
theorem adB_drop (h p : Nat) (hp : p < 65536) : getN (((adB h p).drop 4).take 2) = p := by
  unfold adB
  rw [List.drop_append_of_le_length (by rw [putB_length]; exact Nat.le_refl _), List.drop_of_length_le (by rw [putB_length]; exact Nat.le_refl _), List.nil_append, putB_all, getN_putB]
  exact Nat.mod_eq_of_lt hp
theorem adB_inj {h p h' p' : Nat} (hh : h < 4294967296) (hp : p < 65536) (hh' : h' < 4294967296) (hp' : p' < 65536) (e : adB h p = adB h' p') : h = h' ∧ p = p' := by
  have a := adB_take h p hh
  have b := adB_drop h p hp
  rw [e] at a b
  exact ⟨a.symm.trans (adB_take h' p' hh'), b.symm.trans (adB_drop h' p' hp')⟩
theorem readV_adB {h p : Nat} (hh : h < 4294967296) (hp : p < 65536) (h0 : h ≠ 0) (p0 : p ≠ 0) : readV (adB h p) = .tuple #[.agg (adr h p), .int .i64 0] := by
  unfold readV
  rw [adB_take h p hh, adB_drop h p hp, if_pos ⟨adB_length h p, h0, p0⟩]
/-- What Read tells: a good address with just those bytes, or none. -/
theorem readV_is (xs : List UInt8) : (∃ h p : Nat, h < 4294967296 ∧ p < 65536 ∧ h ≠ 0 ∧ p ≠ 0 ∧ adB h p = xs ∧ readV xs = .tuple #[.agg (adr h p), .int .i64 0]) ∨ readV xs = .tuple #[.agg (adr 0 0), .int .i64 10] := by
  by_cases hx : xs.length = 6 ∧ getN (xs.take 4) ≠ 0 ∧ getN ((xs.drop 4).take 2) ≠ 0
  · refine .inl ⟨getN (xs.take 4), getN ((xs.drop 4).take 2), ?_, ?_, hx.2.1, hx.2.2, ?_, by unfold readV; rw [if_pos hx]⟩
    · have := getN_lt (xs.take 4)
      rw [List.length_take, hx.1] at this
      simpa using this
    · have := getN_lt ((xs.drop 4).take 2)
      rw [List.length_take, List.length_drop, hx.1] at this
      simpa using this
    · unfold adB
      rw [putB_getN 4 _ (by rw [List.length_take, hx.1]; rfl), putB_getN 2 _ (by rw [List.length_take, List.length_drop, hx.1]; rfl), List.take_of_length_le (l := xs.drop 4) (by rw [List.length_drop, hx.1]; decide), List.take_append_drop]
  · exact .inr (by unfold readV; rw [if_neg hx])
theorem sgnN_zero (a b : Nat) : sgnN a b = 0 ↔ a = b := by
  unfold sgnN
  split
  · exact ⟨fun h => absurd h (by decide), fun h => by omega⟩
  · split
    · exact ⟨fun h => absurd h (by decide), fun h => by omega⟩
    · exact ⟨fun _ => by omega, fun _ => rfl⟩
end Go.Proofs.YtieeffebecghiaaDoor
