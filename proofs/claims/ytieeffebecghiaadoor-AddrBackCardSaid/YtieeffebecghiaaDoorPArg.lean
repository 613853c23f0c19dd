/- The text of an address, and what is reckoned out of its numbers: plain lemmas. No condition. -/
import Derived.Test.YtieeffebecghiaaDoorPArf
namespace Go.Proofs.YtieeffebecghiaaDoor
open Go.RowKit

theorem preT_len' (bs : List UInt8) (j : Nat) : (preT bs (j + 1)).length ≤ 4 * j + 3 := by
  induction j with
  | zero =>
    have := dec_byte (bs.getD 0 0)
    simp only [preT, List.length_append, List.length_nil, Nat.lt_irrefl, if_false]
    omega
  | succ j ih =>
    have := dec_byte (bs.getD (j + 1) 0)
    rw [preT, List.length_append, List.length_append]
    split <;> simp only [List.length_cons, List.length_nil] <;> omega
theorem adT_len (h p : Nat) (hp : p < 65536) : (adT h p).length ≤ 21 := by
  have h1 : (preT (adB h p) 4).length ≤ 4 * 3 + 3 := preT_len' (adB h p) 3
  have h2 := decL_len 4 p (by omega)
  unfold adT
  simp only [List.length_append, List.length_cons, List.length_nil]
  omega
theorem adT_numsL (h p : Nat) (hp : p < 65536) : (numsL (adT h p)).1 = [((adB h p).getD 0 0).toNat, ((adB h p).getD 1 0).toNat, ((adB h p).getD 2 0).toNat, ((adB h p).getD 3 0).toNat, p] := by
  have hb : ∀ i, ((adB h p).getD i 0).toNat ≤ 999999 := fun i => by have := ((adB h p).getD i 0).toNat_lt; omega
  rw [adT_nums, nums_text _ _ _ _ _ (hb 0) (hb 1) (hb 2) (hb 3) (by omega)]
/-- The host that four numbers make. -/
def hostN (L : List Nat) : Nat := L.foldl (fun a n => (a * 256 + n) % 4294967296) 0
theorem byte_of (N i : Nat) (hi : i < 4) : ((putB N 4).getD i 0).toNat = N / 2 ^ (8 * (3 - i)) % 256 := by
  unfold putB
  rw [List.getD_eq_getElem?_getD, List.getElem?_map, List.getElem?_range hi]
  simp only [Option.map_some, Option.getD_some, UInt8.toNat_ofNat']
theorem adB_host (h p : Nat) (hh : h < 4294967296) : hostN [((adB h p).getD 0 0).toNat, ((adB h p).getD 1 0).toNat, ((adB h p).getD 2 0).toNat, ((adB h p).getD 3 0).toNat] = h := by
  have e : ∀ i, i < 4 → (adB h p).getD i 0 = (putB h 4).getD i 0 := fun i hi => by
    unfold adB
    rw [List.getD_eq_getElem?_getD, List.getD_eq_getElem?_getD, List.getElem?_append_left (by rw [putB_length]; exact hi)]
  rw [e 0 (by omega), e 1 (by omega), e 2 (by omega), e 3 (by omega), byte_of h 0 (by omega), byte_of h 1 (by omega), byte_of h 2 (by omega), byte_of h 3 (by omega)]
  simp only [hostN, List.foldl_cons, List.foldl_nil]
  omega
/-- What Parse tells. -/
def ParseIs (s : List UInt8) (v : Value) : Prop :=
  (∃ h p : Nat, h < 4294967296 ∧ p < 65536 ∧ h ≠ 0 ∧ p ≠ 0 ∧ adT h p = s ∧ v = .tuple #[.agg (adr h p), .int .i64 0]) ∨ ((∀ h p : Nat, h < 4294967296 → p < 65536 → h ≠ 0 → p ≠ 0 → adT h p ≠ s) ∧ v = .tuple #[.agg (adr 0 0), .int .i64 10])
theorem parse_no {s : List UInt8} (h : ∀ h p : Nat, h < 4294967296 → p < 65536 → adT h p ≠ s) : ParseIs s (.tuple #[.agg (adr 0 0), .int .i64 10]) := .inr ⟨fun a b h1 h2 _ _ => h a b h1 h2, rfl⟩
/-- What the numbers of an address's text are. -/
theorem parse_nums {s : List UInt8} {h p : Nat} (hh : h < 4294967296) (hp : p < 65536) (e : adT h p = s) : s.length ≤ 21 ∧ ∃ a b c d : Nat, (numsL s).1 = [a, b, c, d, p] ∧ a ≤ 255 ∧ b ≤ 255 ∧ c ≤ 255 ∧ d ≤ 255 ∧ hostN [a, b, c, d] = h := by
  have hb : ∀ i, ((adB h p).getD i 0).toNat ≤ 255 := fun i => by have := ((adB h p).getD i 0).toNat_lt; omega
  refine ⟨by rw [← e]; exact adT_len h p hp, _, _, _, _, by rw [← e]; exact adT_numsL h p hp, hb 0, hb 1, hb 2, hb 3, adB_host h p hh⟩
end Go.Proofs.YtieeffebecghiaaDoor
