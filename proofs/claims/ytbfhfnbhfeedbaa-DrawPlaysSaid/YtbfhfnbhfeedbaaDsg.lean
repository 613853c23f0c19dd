/- New at any slice; Ints of the statements. Conditions: the bytes are at most 900,000. -/
import Derived.Test.YtbfhfnbhfeedbaaDsf
namespace Go.Proofs.Ytbfhfnbhfeedbaa
set_option maxRecDepth 100000
set_option maxHeartbeats 1000000
open Go.RowKit Go.Lib Go.Great
theorem cloneB_empty (a : Addr) (c : Nat) (w : World) : Calls Try.prog 55 #[.slice (some a) 0 c] w fun e w' => ∃ A' n' c', e = .returned (.slice A' n' c') ∧ w'.ownsRow w.heap.size 5 1 (.slice A' n' c') ([] : List UInt8).length (bcells []) ∧ Below w.heap.size w w' := by
  have HO1 : Hid ((w.alloc (.cells #[] 5)).ownsRow w.heap.size 5 1 (.slice (some ⟨w.heap.size, 0, none⟩) 0 0) ([] : List UInt8).length (bcells [])) := Lib.hid ⟨by simp [bcells], .inr ⟨w.heap.size, 0, #[], rfl, Nat.le_refl _, heap_alloc_new w (.cells #[] 5), Nat.le_refl _, by simp [maxLen], rfl, rfl⟩⟩
  have HS : Hid (∀ W, Src Try.prog 1 22 (.slice (some a) 0 c) ([] : List UInt8).length (bcells []) W) := Lib.hid (fun W => Src.ofSlice W undBs a 0 c (bcells []) (by simp [bcells]) (fun j u hu => by simp [bcells] at hu) (bcells_oneC []))
  have HF : Hid (∀ v w2, w2.ownsRow w.heap.size 5 1 v (([] : List UInt8) ++ []).length (bcells ([] ++ [])) → (w.alloc (.cells #[] 5)).grownBy w2 (some w.heap.size) → ∃ A' n' c', v = .slice A' n' c' ∧ w2.ownsRow w.heap.size 5 1 (.slice A' n' c') ([] : List UInt8).length (bcells []) ∧ Below w.heap.size w w2) := Lib.hid (fun v w2 o g => by
    obtain ⟨A, c, rfl⟩ := own_slice o
    exact ⟨_, _, _, rfl, o, ((Below.refl w.heap.size w).alloc (Nat.le_refl _) _).grown g (by simp) (fun k hk => by injection hk with hk; omega)⟩)
  obtain ⟨ab, ao, asp⟩ := a
  have heq : ∀ w, (binOp .eql 22 (.slice (some ⟨ab, ao, asp⟩) 0 c) (.slice none 0 0)).run Try.prog w = .ok (.bool false) w := fun w => by kernel_rfl
  go_enter Try.func55, Try.ntmps55
  go_wp2_with (refine wpList_append_bytes rfl (.tmp 5) (.tmp 6) rfl w.heap.size (.slice (some ⟨w.heap.size, 0, none⟩) 0 0) [] rfl HO1.out _ [] rfl (HS.out _) (by simp) (by simp) ?_; intro v2 w2 ho2 hg2)
  obtain ⟨A', n', c', rfl, h1, h2⟩ := HF.out _ _ ho2 hg2
  go_ret
  exact ⟨A', n', c', rfl, h1, h2⟩
theorem new_any {w : World} {A : Option Addr} {bs : List UInt8} (c : Nat) (hA : BAt w w.heap.size A bs) (hl : bs.length ≤ 900000) : Calls Try.prog 11 #[.slice A bs.length c] w (NewIs w bs) := by
  rcases hA with rfl | ⟨g, off, rfl, h⟩
  · cases A with
    | none => exact nnew_any c (.inl rfl) (.inl rfl) hl
    | some a =>
      have HC := Lib.hid (cloneB_empty a c w)
      have HN : Hid (∀ v w1, Below w.heap.size w w1 → w1.ownsRow w.heap.size 5 1 v ([] : List UInt8).length (bcells []) → NewIs w [] (.returned (.pointer (some ⟨w1.heap.size, 0, none⟩))) (w1.alloc (.cells #[.bool true, v] 51))) := Lib.hid (fun v w1 hb ho => new_of w1 hb ho hl)
      clear hl
      simp only [List.length_nil]
      go_enter Try.func11, Try.ntmps11
      go_wp2_with (go_at_call 55; (with_reducible refine HC.out.mono ?_); rintro e w1 ⟨A1, n1, c1, rfl, ho, hb⟩)
      go_ret
      exact HN.out _ w1 hb ho
  · exact nnew_any c (.inr ⟨g, off, rfl, h⟩) (.inr ⟨g, off, rfl⟩) hl

/-- The address A leads to the numbers L, in a block below B. -/
def NAt (w : World) (B : Nat) (A : Option Addr) (L : List Nat) : Prop := L = [] ∨ ∃ g off, A = some ⟨g, off, none⟩ ∧ g < B ∧ ∀ (j n : Nat), L[j]? = some n → w.cell? ⟨g, off + j, none⟩ = some (.int .i64 (n : Int))
section
variable {w w' : World} {B B' : Nat} {A : Option Addr} {L : List Nat}
theorem NAt.below (h : NAt w B A L) (hb : Below B w w') : NAt w' B A L := by
  rcases h with rfl | ⟨g, off, rfl, hg, hc⟩
  · exact .inl rfl
  · exact .inr ⟨g, off, rfl, hg, fun j n hn => by rw [World.cell?_of_block (w := w) (w' := w') (a := ⟨g, off + j, none⟩) (hb.block g hg)]; exact hc j n hn⟩
theorem NAt.more (h : NAt w B A L) (hB : B ≤ B') : NAt w B' A L := by
  rcases h with rfl | ⟨g, off, rfl, hg, hc⟩
  · exact .inl rfl
  · exact .inr ⟨g, off, rfl, by omega, hc⟩
theorem NAt.some_ (h : NAt w B A L) (hL : 0 < L.length) : ∃ g off, A = some ⟨g, off, none⟩ ∧ g < B ∧ ∀ (j n : Nat), L[j]? = some n → w.cell? ⟨g, off + j, none⟩ = some (.int .i64 (n : Int)) := by
  rcases h with rfl | h
  · simp at hL
  · exact h
/-- A row of one's own, as a slice. -/
theorem nat_own {base n : Nat} {v : Value} (h : w.ownsRow base 3 1 v n (intsL L)) : ∃ A c, v = .slice A L.length c ∧ L.length ≤ c ∧ NAt w w.heap.size A L := by
  have hl := h.1
  rw [intsL_length, Nat.mul_one] at hl
  rcases h.2 with ⟨rfl, h0⟩ | ⟨g, cap, cur, rfl, hb, hg, hc, _⟩
  · have hL : L = [] := List.eq_nil_of_length_eq_zero (by omega)
    subst hL
    exact ⟨none, 0, rfl, Nat.le_refl _, .inl rfl⟩
  · refine ⟨_, cap, by rw [hl], by omega, .inr ⟨g, 0, rfl, (Array.getElem?_eq_some_iff.1 hg).1, fun j m hm => ?_⟩⟩
    have := h.cells (g := g) rfl j (.int .i64 (m : Int)) (by simp [intsL, hm])
    rwa [Addr.add_mid] at this
end
def InRel2 (W : World) (n : Nat) (i : Value) (wr : World) : Prop := ∃ j : Nat, j ≤ n ∧ i = .int .i64 (j : Int) ∧ Below W.heap.size W wr
theorem ints_same (A1 A2 : Option Addr) (c1 c2 : Nat) (L : List Nat) (w : World) (hL : L.length ≤ 100000) (h1 : NAt w w.heap.size A1 L) (h2 : NAt w w.heap.size A2 L) :
    Calls Try.prog 26 #[.slice A1 L.length c1, .slice A2 L.length c2] w fun e w' => e = .returned (.bool true) ∧ Below w.heap.size w w' := by
  have H1 := Lib.hid h1
  have H2 := Lib.hid h2
  obtain ⟨n, hn⟩ : ∃ n, n = L.length := ⟨_, rfl⟩
  rw [← hn] at hL ⊢
  have HN := Lib.hid hn
  have R0 : Hid (InRel2 w n (.int .i64 0) w) := Lib.hid ⟨0, by omega, rfl, Below.refl _ _⟩
  clear h1 h2 hn
  go_enter Try.func26, Try.ntmps26
  go_upto_region 4 with fail
  go_loopw [13] (InRel2 w n) (fun i _ => n - (RowKit.intOf i).toNat)
  case atStart => exact R0.out
  case round =>
    obtain ⟨j, hj, rfl, hb⟩ := hrel
    clear R0
    have HB := Lib.hid hb
    by_cases hlt : j < n
    · obtain ⟨x, hx⟩ : ∃ x, L[j]? = some x := ⟨L[j]'(by have := HN.out; omega), List.getElem?_eq_getElem _⟩
      obtain ⟨g1, o1, rfl, hg1, hc1⟩ := (H1.out.below hb).some_ (by have := HN.out; omega)
      obtain ⟨g2, o2, rfl, hg2, hc2⟩ := (H2.out.below hb).some_ (by have := HN.out; omega)
      have k1 := hc1 j x hx
      have k2 := hc2 j x hx
      have HREL : Hid (∀ m, InRel2 w n (.int .i64 ((j : Int) + 1)) (wr.drewN m)) := Lib.hid (fun m => ⟨j + 1, by omega, by go_num, below_drewN HB.out m⟩)
      clear hc1 hc2 hx hb hg1 hg2 HB
      go_wp2
      go_quiet (fail)
      go_wp2
      go_roundw
      case rel => exact HREL.out _
      case measure => simp [RowKit.intOf]; omega
    · clear hb
      go_wp2
      go_ret
      exact ⟨rfl, HB.out⟩
end Go.Proofs.Ytbfhfnbhfeedbaa
