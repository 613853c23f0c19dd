/- Contract of Unwire of package label. Conditions: at most 100,000 bytes. -/
import Derived.Test.YtjiiignbejbiiaaXLcl
namespace Go.Proofs.Ytjiiignbejbiiaa
open Go.Shelf Go.RowKit Go.Lib Go.Great
set_option maxRecDepth 100000
set_option maxHeartbeats 1000000
theorem join_any (A : Option Addr) (c : Nat) (L : List (List UInt8)) (w : World) (hA : SAt w w.heap.size A L) (hc : L.length ≤ c) (hl : sizeD L ≤ 1000000) : Calls Try.prog 45 #[.slice A L.length c, .string ⟨#[46]⟩] w fun e w' => e = .returned (.string (bstr (joinD L))) ∧ Below w.heap.size w w' := by
  have hle := sizeD_le L
  rcases hA with rfl | ⟨g, off, rfl, hg, hr⟩
  · refine (Try.strings_Join_none A c ⟨#[46]⟩ w).mono ?_
    rintro e w' ⟨he, rfl⟩
    exact ⟨he, Below.refl _ _⟩
  · by_cases hL : L = []
    · subst hL
      refine (Try.strings_Join_none (some ⟨g, off, none⟩) c ⟨#[46]⟩ w).mono ?_
      rintro e w' ⟨he, rfl⟩
      exact ⟨he, Below.refl _ _⟩
    · have hm : (L.map bstr).map (·.data.toList) = L := by
        rw [List.map_map]
        have : ((fun x : ByteArray => x.data.toList) ∘ bstr) = id := by funext x; simp [bstr]
        rw [this, List.map_id]
      have hj : Lib.join ((L.map bstr).map (·.data.toList)) (⟨#[46]⟩ : ByteArray).data.toList = joinD L := by rw [hm]; exact joinD_lib L
      have hlen := joinD_length L hL
      have h := Try.strings_Join g off c (L.map bstr) ⟨#[46]⟩ w (fun j x hx => by
        rw [List.getElem?_map] at hx
        cases hLj : L[j]? with
        | none => rw [hLj] at hx; cases hx
        | some p =>
          rw [hLj] at hx
          injection hx with hx
          subst hx
          obtain ⟨hj, rfl⟩ := List.getElem?_eq_some_iff.1 hLj
          exact hr j hj) hg (by rw [List.length_map]; omega) (by rw [List.length_map]; exact hc) (by rw [hj]; omega)
      rw [List.length_map, hj] at h
      exact h
/-- What Unwire tells. -/
def tellsU (x : List UInt8 × Int × Int) : Value := .tuple #[.string (bstr x.1), .int .i64 x.2.1, .int .i64 x.2.2]
theorem unwire_range (A : Option Addr) (c : Nat) (b : List UInt8) (k : Int) (hk : k < 0 ∨ (b.length : Int) ≤ k) (w : World) : Calls Try.prog 25 #[.slice A b.length c, .int .i64 k] w fun e w' => e = .returned (tellsU (unwireL b k)) ∧ Below w.heap.size w w' := by
  rw [unwireL, if_pos hk]
  generalize b.length = n at *
  have he : tellsU ([], 0, 30) = .tuple #[.string ⟨#[]⟩, .int .i64 0, .int .i64 30] := rfl
  rw [he]
  by_cases h : k < 0
  · clear hk
    go_enter Try.func25, Try.ntmps25
    go_wp2
    refine bodyPost_ret (v := .tuple #[.string ⟨#[]⟩, .int .i64 0, .int .i64 30]) (results_3 (p := 4) (q := 5) (r := 6) rfl _ _ _ _ _ rfl rfl rfl) rfl ?_
    exact ⟨rfl, Below.refl _ _⟩
  · have h2 : (n : Int) ≤ k := by omega
    clear hk
    go_enter Try.func25, Try.ntmps25
    go_wp2
    refine bodyPost_ret (v := .tuple #[.string ⟨#[]⟩, .int .i64 0, .int .i64 30]) (results_3 (p := 4) (q := 5) (r := 6) rfl _ _ _ _ _ rfl rfl rfl) rfl ?_
    exact ⟨rfl, Below.refl _ _⟩
theorem unwire_in (A : Option Addr) (c : Nat) (b : List UInt8) (k : Nat) (hk : k < b.length) (hl : b.length ≤ 100000) (hc : b.length ≤ c) (w : World) (hA : BAt w w.heap.size A b) : Calls Try.prog 25 #[.slice A b.length c, .int .i64 (k : Int)] w fun e w' => e = .returned (tellsU (unwireL b (k : Int))) ∧ Below w.heap.size w w' := by
  obtain ⟨m, hm⟩ : ∃ m, m = min (b.length - k) 255 := ⟨_, rfl⟩
  obtain ⟨x, hx⟩ : ∃ x, x = (b.drop k).take 255 := ⟨_, rfl⟩
  have hxl : x.length = m := by rw [hx, hm, List.length_take, List.length_drop]; omega
  have hU : unwireL b (k : Int) = pickU (k : Int) (rd x) := by
    rw [hx, unwireL_take, unwireL, if_neg (by omega), Int.toNat_natCast]
  have hB : BAt w w.heap.size (headA (cutA A c k) (c - k)) x := by
    have h1 := (hA.cut (c := c) (k := k) (by omega) hc).head (k := 255) (c := c - k) (by rw [List.length_drop]; omega)
    rw [← hx] at h1
    exact h1
  have HR : Hid (Calls Try.prog 44 #[.slice (headA (cutA A c k) (c - k)) m (c - k)] w fun e w' => ReadP x w e w') := Lib.hid (by
    have := read_any (headA (cutA A c k) (c - k)) (c - k) x (by omega) (by omega) w hB
    rwa [hxl] at this)
  have hs1 : ∀ W, (Instr.slice 29 (.slice A b.length c) (some (.int .i64 (k : Int))) none none).run Try.prog W = .ok (.slice (cutA A c k) (b.length - k) (c - k)) W := fun W => run_cut A b.length c k (by omega) W
  have hs2 : ∀ W, (Instr.slice 29 (.slice (cutA A c k) (b.length - k) (c - k)) none (some (.int .i64 (m : Int))) none).run Try.prog W = .ok (.slice (headA (cutA A c k) (c - k)) m (c - k)) W := fun W => run_head (cutA A c k) (b.length - k) (c - k) m (by omega) W
  obtain ⟨n, hn⟩ : ∃ n, n = b.length := ⟨_, rfl⟩
  rw [hU]
  rw [← hn] at hs1 hs2 hk hl hc hm ⊢
  have hmin : min ((n : Int) - (k : Int)) 255 = (m : Int) := by omega
  clear hU hB hA hx hn hm
  cases hrd : rd x with
  | none =>
    have HR2 : Hid (Calls Try.prog 44 #[.slice (headA (cutA A c k) (c - k)) m (c - k)] w fun e w' => ∃ (A2 : Option Addr) (c2 ln : Nat) (L : List (List UInt8)) (sz : Int), e = .returned (.tuple #[.slice A2 ln c2, .int .i64 sz, .bool false]) ∧ Below w.heap.size w w' ∧ (∀ W, W = w' → Calls Try.prog 45 #[.slice A2 ln c2, .string ⟨#[46]⟩] W fun e w2 => e = .returned (.string (bstr (joinD L))) ∧ Below w.heap.size w w2)) := Lib.hid (HR.out.mono (by
      rintro e w' ⟨v, L, sz, ok, rfl, h1, h2, h3, h4⟩
      rw [hrd] at h4
      obtain rfl : ok = false := h4
      obtain ⟨A2, c2, rfl, h5, h6⟩ := h1.at_
      exact ⟨A2, c2, L.length, L, sz, rfl, h3, fun W e => by
        subst e
        exact (join_any A2 c2 L W h6 h5 (by omega)).mono (by rintro e w2 ⟨rfl, hb⟩; exact ⟨rfl, h3.trans (hb.mono h3.size)⟩)⟩))
    clear HR hrd hxl
    rw [show tellsU (pickU (k : Int) none) = .tuple #[.string ⟨#[]⟩, .int .i64 0, .int .i64 10] from rfl]
    go_enter Try.func25, Try.ntmps25
    go_upto_region 3 with fail
    go_wp2_with (first
      | (go_at_call 44; (with_reducible refine HR2.out.mono ?_); rintro e w1 ⟨A2, c2, ln, L, sz, rfl, hb1, HJ⟩)
      | (go_at_call 45; (with_reducible refine (HJ _ rfl).mono ?_); rintro e w2 ⟨rfl, hb2⟩))
    refine bodyPost_ret (v := .tuple #[.string ⟨#[]⟩, .int .i64 0, .int .i64 10]) (results_3 (p := 4) (q := 5) (r := 6) rfl _ _ _ _ _ rfl rfl rfl) rfl ?_
    exact ⟨rfl, hb2⟩
  | some y =>
    obtain ⟨r1, r2, r3, r4⟩ := rd_some _ _ y.1 y.2 (Nat.le_refl _) hrd
    have HR2 : Hid (Calls Try.prog 44 #[.slice (headA (cutA A c k) (c - k)) m (c - k)] w fun e w' => ∃ (A2 : Option Addr) (c2 ln : Nat), e = .returned (.tuple #[.slice A2 ln c2, .int .i64 (y.2 : Int), .bool true]) ∧ Below w.heap.size w w' ∧ (∀ W, W = w' → Calls Try.prog 45 #[.slice A2 ln c2, .string ⟨#[46]⟩] W fun e w2 => e = .returned (.string (bstr (joinD y.1))) ∧ Below w.heap.size w w2)) := Lib.hid (HR.out.mono (by
      rintro e w' ⟨v, L, sz, ok, rfl, h1, h2, h3, h4⟩
      rw [hrd] at h4
      obtain ⟨rfl, rfl, rfl⟩ := h4
      obtain ⟨A2, c2, rfl, h5, h6⟩ := h1.at_
      exact ⟨A2, c2, y.1.length, rfl, h3, fun W e => by
        subst e
        exact (join_any A2 c2 y.1 W h6 h5 (by omega)).mono (by rintro e w2 ⟨rfl, hb⟩; exact ⟨rfl, h3.trans (hb.mono h3.size)⟩)⟩))
    have HG : Hid (∀ W, Below w.heap.size w W → Calls Try.prog 13 #[.string (bstr (joinD y.1))] W fun e w' => e = .returned (.bool (goodL (joinD y.1))) ∧ Below w.heap.size w w') := Lib.hid (fun W hW => (goodp_any (joinD y.1) W).mono (by rintro e w' ⟨rfl, h⟩; exact ⟨rfl, hW.trans (h.mono hW.size)⟩))
    obtain ⟨sz, hsz⟩ : ∃ sz, sz = y.2 := ⟨_, rfl⟩
    have hsz2 : sz ≤ 255 := by rw [hsz]; rw [hxl] at r4; omega
    simp only [pickU]
    rw [← hsz] at HR2 ⊢
    generalize joinD y.1 = J at *
    clear HR hrd hxl r1 r2 r3 r4 hsz
    generalize goodL J = gj at HG ⊢
    cases gj with
    | true =>
      rw [if_pos rfl]
      have hte : tellsU (J, (k : Int) + (sz : Int), 0) = .tuple #[.string (bstr J), .int .i64 ((k : Int) + (sz : Int)), .int .i64 0] := rfl
      rw [hte]
      generalize bstr J = JB at *
      clear hte
      go_enter Try.func25, Try.ntmps25
      go_upto_region 3 with fail
      go_wp2_with (first
        | (go_at_call 44; (with_reducible refine HR2.out.mono ?_); rintro e w1 ⟨A2, c2, ln, rfl, hb1, HJ⟩)
        | (go_at_call 45; (with_reducible refine (HJ _ rfl).mono ?_); rintro e w2 ⟨rfl, hb2⟩)
        | (go_at_call 13; (with_reducible refine (HG.out _ hb2).mono ?_); rintro e w3 ⟨rfl, hb3⟩))
      refine bodyPost_ret (v := .tuple #[.string JB, .int .i64 ((k : Int) + (sz : Int)), .int .i64 0]) (results_3 (p := 4) (q := 5) (r := 6) rfl _ _ _ _ _ rfl rfl rfl) rfl ?_
      exact ⟨rfl, hb3⟩
    | false =>
      rw [if_neg (by simp), show tellsU ([], 0, 10) = .tuple #[.string ⟨#[]⟩, .int .i64 0, .int .i64 10] from rfl]
      generalize bstr J = JB at *
      go_enter Try.func25, Try.ntmps25
      go_upto_region 3 with fail
      go_wp2_with (first
        | (go_at_call 44; (with_reducible refine HR2.out.mono ?_); rintro e w1 ⟨A2, c2, ln, rfl, hb1, HJ⟩)
        | (go_at_call 45; (with_reducible refine (HJ _ rfl).mono ?_); rintro e w2 ⟨rfl, hb2⟩)
        | (go_at_call 13; (with_reducible refine (HG.out _ hb2).mono ?_); rintro e w3 ⟨rfl, hb3⟩))
      refine bodyPost_ret (v := .tuple #[.string ⟨#[]⟩, .int .i64 0, .int .i64 10]) (results_3 (p := 4) (q := 5) (r := 6) rfl _ _ _ _ _ rfl rfl rfl) rfl ?_
      exact ⟨rfl, hb3⟩
theorem unwire_any (A : Option Addr) (c : Nat) (b : List UInt8) (k : Int) (hl : b.length ≤ 100000) (hc : b.length ≤ c) (w : World) (hA : BAt w w.heap.size A b) : Calls Try.prog 25 #[.slice A b.length c, .int .i64 k] w fun e w' => e = .returned (tellsU (unwireL b k)) ∧ Below w.heap.size w w' := by
  by_cases h : k < 0 ∨ (b.length : Int) ≤ k
  · exact unwire_range A c b k h w
  · obtain ⟨j, rfl⟩ : ∃ j : Nat, k = (j : Int) := ⟨k.toNat, by omega⟩
    exact unwire_in A c b j (by omega) hl hc w hA
end Go.Proofs.Ytjiiignbejbiiaa
