/- Contracts of Fold and Same of package label. Conditions: at most 100,000 bytes. -/
import Derived.Lib.ConvBytes
import Derived.Test.YtjiiignbejbiiaaXLcg
namespace Go.Proofs.Ytjiiignbejbiiaa
open Go.Shelf Go.RowKit Go.Lib Go.Great
set_option maxRecDepth 100000
set_option maxHeartbeats 1000000
/-- The bytes stand in the block g, and may be written. -/
structure BytesIn (w : World) (g : Nat) (ys : List UInt8) (W : World) : Prop where
  cell : ∀ j (h : j < ys.length), W.cell? ⟨g, j, none⟩ = some (.int .u8 (ys[j].toNat : Int))
  free : ∀ j, j < ys.length → W.frozen? ⟨g, j, none⟩ = false
  bel : Below w.heap.size w W
  lt : g < W.heap.size
theorem BytesIn.set {w W : World} {g i : Nat} {ys : List UInt8} (h : BytesIn w g ys W) (hg : w.heap.size ≤ g) (hi : i < ys.length) (c : UInt8) : BytesIn w g (ys.set i c) (W.setCell ⟨g, i, none⟩ (.int .u8 (c.toNat : Int))) :=
  ⟨fun j hj => by
    rw [List.length_set] at hj
    by_cases e : i = j
    · subst e
      rw [World.cell?_setCell_same' _ _ _ (by rw [h.cell i hi]; rfl)]
      simp
    · rw [World.cell?_setCell_other _ ⟨g, i, none⟩ ⟨g, j, none⟩ _ (fun he => e (by injection he)), h.cell j hj]
      simp [e],
   fun j hj => by rw [World.frozen?_setCell]; exact h.free j (by simpa using hj), h.bel.setCell (p := ⟨g, i, none⟩) hg _, by rw [World.size_setCell]; exact h.lt⟩
theorem BytesIn.bat {w W : World} {g : Nat} {ys : List UInt8} (h : BytesIn w g ys W) : BAt W W.heap.size (some ⟨g, 0, none⟩) ys :=
  .inr ⟨g, 0, rfl, h.lt, fun j hj => by rw [Nat.zero_add]; exact h.cell j hj⟩
theorem str_in (xs : List UInt8) (w : World) : ∃ c W', (convert 9 29 (.string (bstr xs))).run Try.prog w = .ok (.slice (some ⟨w.heap.size, 0, none⟩) xs.length c) W' ∧ BytesIn w w.heap.size xs W' ∧ xs.length ≤ c := by
  have hr := Lib.run_convert_string_bytes (P := Try.prog) w 9 29 5 (bstr xs) Try.underlying9 Try.underlying29 Try.underlying5
  refine ⟨_, _, hr, ⟨fun j hj => ?_, fun j hj => ?_, ?_, ?_⟩, ?_⟩
  · rw [Lib.bytesWorld_cell w 5 (bstr xs) j hj]
    simp [bstr, List.getElem?_eq_getElem hj]
  · have hz := bstr_size xs
    simp [World.frozen?, bytesWorld_at_new, bytesCells]
    omega
  · refine ⟨rfl, rfl, rfl, by rw [Lib.bytesWorld_size]; omega, fun k hk => Lib.bytesWorld_at_old w 5 (bstr xs) k hk⟩
  · rw [Lib.bytesWorld_size]; omega
  · exact grownCap_ge w xs.length 0 5
def FoldR (s : List UInt8) (w : World) (i : Value) (wr : World) : Prop := ∃ k : Nat, i = .int .i64 (k : Int) ∧ k ≤ s.length ∧ BytesIn w w.heap.size (foldL (s.take k) ++ s.drop k) wr
theorem foldC_eq (c : UInt8) : (65 ≤ c.toNat ∧ c.toNat ≤ 90 → ((c.toNat : Int) - 65 + 97) % 256 = ((foldC c).toNat : Int)) ∧ (¬ (65 ≤ c.toNat ∧ c.toNat ≤ 90) → foldC c = c) := by
  have h8 := c.toNat_lt
  refine ⟨fun h => ?_, fun h => by rw [foldC, if_neg h]⟩
  have e : (foldC c).toNat = c.toNat + 32 := by
    rw [foldC, if_pos h, UInt8.toNat_add]
    simp
    omega
  rw [e]
  omega
theorem fold_step (s : List UInt8) (k : Nat) (hk : k < s.length) : (foldL (s.take k) ++ s.drop k).set k (foldC s[k]) = foldL (s.take (k + 1)) ++ s.drop (k + 1) := by
  have hl : (foldL (s.take k)).length = k := by rw [foldL_length, List.length_take]; omega
  rw [List.set_append_right _ _ (by omega), hl, Nat.sub_self, List.drop_eq_getElem_cons hk, List.set_cons_zero, List.take_succ_eq_append_getElem hk, show foldL (s.take k ++ [s[k]]) = foldL (s.take k) ++ [foldC s[k]] by simp only [foldL, List.map_append, List.map_cons, List.map_nil], List.append_assoc]
  rfl
theorem fold_at (s : List UInt8) (k : Nat) (hk : k < s.length) : (foldL (s.take k) ++ s.drop k)[k]'(by simp [foldL_length]; omega) = s[k] := by
  have hl : (foldL (s.take k)).length = k := by rw [foldL_length, List.length_take]; omega
  rw [List.getElem_append_right (by omega)]
  simp [hl]
theorem fold_any (s : List UInt8) (hs : s.length ≤ 100000) (w : World) : Calls Try.prog 18 #[.string (bstr s)] w fun e w' => e = .returned (.string (bstr (foldL s))) ∧ Below w.heap.size w w' := by
  obtain ⟨c, W1, hcv, hB1, hc⟩ := str_in s w
  have R0 : Hid (FoldR s w (.int .i64 0) W1) := Lib.hid ⟨0, rfl, by omega, by simpa [foldL] using hB1⟩
  have HCONV : Hid (∀ W, BytesIn w w.heap.size (foldL s) W → (convert 29 9 (.slice (some ⟨w.heap.size, 0, none⟩) s.length c)).run Try.prog W = .ok (.string (bstr (foldL s))) W) := Lib.hid (fun W h => by
    have := run_convert_bat (P := Try.prog) 29 9 5 c Try.underlying29 Try.underlying5 Try.underlying9 h.bat
    rwa [foldL_length] at this)
  have HCAP := Lib.hid (fun c W => cap_any c W)
  obtain ⟨n, hn⟩ : ∃ n, n = s.length := ⟨_, rfl⟩
  have HN := Lib.hid hn
  rw [← hn] at hcv HCONV hs hc
  clear hB1 hn
  generalize hS : bstr s = S at *
  generalize hT : bstr (foldL s) = T at *
  clear hS hT
  go_enter Try.func18, Try.ntmps18
  go_upto_region 3 with fail
  go_loopw [10] (FoldR s w) (fun i _ => n - (RowKit.intOf i).toNat)
  case atStart => exact R0.out
  case round =>
    obtain ⟨k, rfl, hk, hB⟩ := hrel
    rw [← HN.out] at hk
    clear R0 hcv
    by_cases hlt : k < n
    · have hlt' : (k : Int) < (n : Int) := by omega
      have hls : k < s.length := by rw [← HN.out]; exact hlt
      have hll : k < (foldL (s.take k) ++ s.drop k).length := by rw [List.length_append, foldL_length, List.length_take, List.length_drop]; omega
      have hget := hB.cell k hll
      rw [fold_at s k hls] at hget
      have hfree := hB.free k hll
      have HB2 := Lib.hid (hB.set (Nat.le_refl _) hll (foldC s[k]))
      rw [fold_step s k hls] at HB2
      have HSAME : Hid (foldC s[k] = s[k] → BytesIn w w.heap.size (foldL (s.take (k + 1)) ++ s.drop (k + 1)) wr) := Lib.hid (fun e => by
        rw [← fold_step s k hls, e]
        have : (foldL (s.take k) ++ s.drop k).set k s[k] = foldL (s.take k) ++ s.drop k := by
          rw [← fold_at s k hls, List.set_getElem_self]
        rw [this]
        exact hB)
      have HQ := Lib.hid (foldC_eq s[k])
      have hbyte := s[k].toNat_lt
      have HK1 : Hid (k + 1 ≤ s.length) := Lib.hid hls
      clear hB hll hk
      generalize s[k] = ch at *
      clear hls
      cases hcb : capB ch
      · have HF : Hid (foldC ch = ch) := Lib.hid (HQ.out.2 (fun h => by simp [capB] at hcb; omega))
        have HCB := Lib.hid hcb
        clear hcb
        go_wp2_with (go_at_call 42; (with_reducible refine (HCAP.out _ _).mono ?_); rw [HCB.out]; rintro e w1 ⟨rfl, rfl⟩)
        go_roundw
        case rel => exact ⟨k + 1, by simp, HK1.out, HSAME.out HF.out⟩
        case measure => simp [RowKit.intOf]; omega
      · have hwr := HQ.out.1 (by simp [capB] at hcb; omega)
        have HCB := Lib.hid hcb
        clear hcb
        go_wp2_with (go_at_call 42; (with_reducible refine (HCAP.out _ _).mono ?_); rw [HCB.out]; rintro e w1 ⟨rfl, rfl⟩)
        go_roundw
        case rel => exact ⟨k + 1, by simp, HK1.out, HB2.out⟩
        case measure => simp [RowKit.intOf]; omega
    · obtain rfl : k = n := by omega
      have hB' : BytesIn w w.heap.size (foldL s) wr := by
        rw [HN.out, List.take_length, List.drop_length, List.append_nil] at hB
        exact hB
      have HBW := Lib.hid hB'.bel
      have hcv2 := HCONV.out wr hB'
      clear hB hB' HCONV
      go_wp2
      go_ret
      exact ⟨rfl, HBW.out⟩
end Go.Proofs.Ytjiiignbejbiiaa
