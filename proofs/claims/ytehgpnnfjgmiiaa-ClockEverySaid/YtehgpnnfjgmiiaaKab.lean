/- Rows of ticks; First of the program and of the reference. Conditions: at most 100,000 ticks. -/
import Derived.Test.YtehgpnnfjgmiiaaKaa
namespace Go.Proofs.Ytehgpnnfjgmiiaa
open Go.RowKit Go.Lib Go.Great
set_option maxRecDepth 100000
set_option maxHeartbeats 1000000
/-- A slice's address that leads to the ticks L below B. -/
def UAt (w : World) (B : Nat) (A : Option Addr) (L : List Nat) : Prop := L = [] ∨ ∃ g o, A = some ⟨g, o, none⟩ ∧ g < B ∧ ∀ j, j < L.length → w.cell? ⟨g, o + j, none⟩ = some (.int .u64 (L[j]! : Int))
theorem UAt.below {w w' : World} {B : Nat} {A : Option Addr} {L : List Nat} (h : UAt w B A L) (hb : Below B w w') : UAt w' B A L := by
  rcases h with h | ⟨g, o, rfl, hg, hc⟩
  · exact .inl h
  · exact .inr ⟨g, o, rfl, hg, fun j hj => (hb.cell (p := ⟨g, o + j, none⟩) hg).trans (hc j hj)⟩
theorem UAt.more {w : World} {B B' : Nat} {A : Option Addr} {L : List Nat} (h : UAt w B A L) (hB : B ≤ B') : UAt w B' A L := by
  rcases h with h | ⟨g, o, rfl, hg, hc⟩
  · exact .inl h
  · exact .inr ⟨g, o, rfl, by omega, hc⟩
def firstK (L : List Nat) : Nat := L.foldl min 18446744073709551615
theorem firstK_take {L : List Nat} {k : Nat} (h : k < L.length) : firstK (L.take (k + 1)) = min (firstK (L.take k)) L[k]! := by
  unfold firstK
  rw [List.take_add_one, List.foldl_append, List.getElem?_eq_getElem h]
  simp [h]
theorem min_int (a b : Nat) : ((min a b : Nat) : Int) = min (a : Int) (b : Int) := by omega
theorem first_any (A : Option Addr) (c : Nat) (L : List Nat) (w : World) (hL : L.length ≤ 100000) (hA : UAt w w.heap.size A L) : Calls Try.prog 13 #[.slice A L.length c] w fun e w' => e = .returned (.int .u64 (firstK L : Int)) ∧ Below w.heap.size w w' := by
  have HA := Lib.hid hA
  have HT : Hid (∀ k, k < L.length → firstK (L.take (k + 1)) = min (firstK (L.take k)) L[k]!) := Lib.hid (fun k h => firstK_take h)
  have HE : Hid (firstK (L.take L.length) = firstK L) := Lib.hid (by rw [List.take_length])
  obtain ⟨n, hn⟩ : ∃ n, n = L.length := ⟨_, rfl⟩
  rw [← hn] at hL HT HE ⊢
  have HN := Lib.hid hn
  have R0 : Hid (∃ k : Nat, (Value.int .i64 0) = .int .i64 (k : Int) ∧ (Value.int .u64 18446744073709551615) = .int .u64 (firstK (L.take k) : Int) ∧ k ≤ n ∧ Below w.heap.size w w) := Lib.hid ⟨0, rfl, rfl, by omega, Below.refl _ _⟩
  clear hA hn
  go_enter Try.func13, Try.ntmps13
  go_wp2
  go_loopw [3, 8] (fun m i wr => ∃ k : Nat, i = .int .i64 (k : Int) ∧ m = .int .u64 (firstK (L.take k) : Int) ∧ k ≤ n ∧ Below w.heap.size w wr) (fun _ i _ => n - (RowKit.intOf i).toNat)
  case atStart => exact R0.out
  case round =>
    obtain ⟨k, rfl, rfl, hk, hb⟩ := hrel
    clear R0
    have HB := Lib.hid hb
    by_cases hlt : k < n
    · have hlt' : (k : Int) < (n : Int) := by omega
      rcases HA.out.below hb with h0 | ⟨g, o, rfl, hg, hc⟩
      · rw [h0] at HN; have := HN.out; simp at this; omega
      have q := hc k (by have := HN.out; omega)
      have ht := HT.out k hlt
      have hti := min_int (firstK (L.take k)) L[k]!
      rw [← ht] at hti
      have HTI := Lib.hid hti
      have HREL : Hid (∀ wx, Below w.heap.size w wx → ∃ j : Nat, (Value.int .i64 ((k : Int) + 1)) = .int .i64 (j : Int) ∧ (Value.int .u64 (firstK (L.take (k + 1)) : Int)) = .int .u64 (firstK (L.take j) : Int) ∧ j ≤ n ∧ Below w.heap.size w wx) := Lib.hid (fun wx hx => ⟨k + 1, by go_num, rfl, by omega, hx⟩)
      generalize firstK (L.take (k + 1)) = v at *
      generalize firstK (L.take k) = u at *
      generalize L[k]! = x at *
      clear hc hb hg ht hti
      by_cases hux : u ≤ x
      · have hm1 : min (u : Int) (x : Int) = (u : Int) := by omega
        have hv : v = u := by have := HTI.out; omega
        subst hv
        go_wp2
        go_roundw
        case rel => exact HREL.out _ HB.out
        case measure => simp [RowKit.intOf]; omega
      · have hv : v = x := by have := HTI.out; omega
        subst hv
        go_wp2
        go_roundw
        case rel => exact HREL.out _ HB.out
        case measure => simp [RowKit.intOf]; omega
    · obtain rfl : k = n := by omega
      have hlt' : ¬ (k : Int) < (k : Int) := by omega
      rw [HE.out]
      clear hb
      go_wp2
      go_ret
      exact ⟨rfl, HB.out⟩
theorem rfirst_any (A : Option Addr) (c : Nat) (L : List Nat) (w : World) (hL : L.length ≤ 100000) (hA : UAt w w.heap.size A L) : Calls Try.prog 14 #[.slice A L.length c] w fun e w' => e = .returned (.int .u64 (firstK L : Int)) ∧ Below w.heap.size w w' := by
  have HA := Lib.hid hA
  have HT : Hid (∀ k, k < L.length → firstK (L.take (k + 1)) = min (firstK (L.take k)) L[k]!) := Lib.hid (fun k h => firstK_take h)
  have HE : Hid (firstK (L.take L.length) = firstK L) := Lib.hid (by rw [List.take_length])
  obtain ⟨n, hn⟩ : ∃ n, n = L.length := ⟨_, rfl⟩
  rw [← hn] at hL HT HE ⊢
  have HN := Lib.hid hn
  have R0 : Hid (∃ k : Nat, (Value.int .i64 0) = .int .i64 (k : Int) ∧ (Value.int .u64 18446744073709551615) = .int .u64 (firstK (L.take k) : Int) ∧ k ≤ n ∧ Below w.heap.size w w) := Lib.hid ⟨0, rfl, rfl, by omega, Below.refl _ _⟩
  clear hA hn
  go_enter Try.func14, Try.ntmps14
  go_wp2
  go_loopw [3, 4] (fun m i wr => ∃ k : Nat, i = .int .i64 (k : Int) ∧ m = .int .u64 (firstK (L.take k) : Int) ∧ k ≤ n ∧ Below w.heap.size w wr) (fun _ i _ => n - (RowKit.intOf i).toNat)
  case atStart => exact R0.out
  case round =>
    obtain ⟨k, rfl, rfl, hk, hb⟩ := hrel
    clear R0
    have HB := Lib.hid hb
    by_cases hlt : k < n
    · have hlt' : (k : Int) < (n : Int) := by omega
      rcases HA.out.below hb with h0 | ⟨g, o, rfl, hg, hc⟩
      · rw [h0] at HN; have := HN.out; simp at this; omega
      have q := hc k (by have := HN.out; omega)
      have ht := HT.out k hlt
      have hti := min_int (firstK (L.take k)) L[k]!
      rw [← ht] at hti
      have HTI := Lib.hid hti
      have HREL : Hid (∀ wx, Below w.heap.size w wx → ∃ j : Nat, (Value.int .i64 ((k : Int) + 1)) = .int .i64 (j : Int) ∧ (Value.int .u64 (firstK (L.take (k + 1)) : Int)) = .int .u64 (firstK (L.take j) : Int) ∧ j ≤ n ∧ Below w.heap.size w wx) := Lib.hid (fun wx hx => ⟨k + 1, by go_num, rfl, by omega, hx⟩)
      generalize firstK (L.take (k + 1)) = v at *
      generalize firstK (L.take k) = u at *
      generalize L[k]! = x at *
      clear hc hb hg ht hti
      by_cases hux : u ≤ x
      · have hm1 : min (u : Int) (x : Int) = (u : Int) := by omega
        have hv : v = u := by have := HTI.out; omega
        subst hv
        go_wp2
        go_roundw
        case rel => exact HREL.out _ HB.out
        case measure => simp [RowKit.intOf]; omega
      · have hv : v = x := by have := HTI.out; omega
        subst hv
        go_wp2
        go_roundw
        case rel => exact HREL.out _ HB.out
        case measure => simp [RowKit.intOf]; omega
    · obtain rfl : k = n := by omega
      have hlt' : ¬ (k : Int) < (k : Int) := by omega
      rw [HE.out]
      clear hb
      go_wp2
      go_ret
      exact ⟨rfl, HB.out⟩
end Go.Proofs.Ytehgpnnfjgmiiaa
