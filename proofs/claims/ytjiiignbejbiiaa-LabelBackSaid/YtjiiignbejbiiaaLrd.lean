/- Contract of Fold of signpostref09. Conditions: at most 100,000 bytes. -/
import Derived.Test.YtjiiignbejbiiaaLrc
namespace Go.Proofs.Ytjiiignbejbiiaa
open Go.Shelf Go.RowKit Go.Lib Go.Great
set_option maxRecDepth 100000
set_option maxHeartbeats 1000000
theorem foldC_eq2 (c : UInt8) : (65 ≤ c.toNat ∧ c.toNat ≤ 90 → (c.toNat : Int) + 97 - 65 = ((foldC c).toNat : Int)) := by
  intro h
  have := (foldC_eq c).1 h
  rw [← this]
  omega
theorem rfold_any (s : List UInt8) (hs : s.length ≤ 100000) (w : World) : Calls Try.prog 19 #[.string (bstr s)] w fun e w' => e = .returned (.string (bstr (foldL s))) ∧ Below w.heap.size w w' := by
  obtain ⟨c, W1, hcv, hB1, hc⟩ := str_in s w
  have R0 : Hid (FoldR s w (.int .i64 0) W1) := Lib.hid ⟨0, rfl, by omega, by simpa [foldL] using hB1⟩
  have HCONV : Hid (∀ W, BytesIn w w.heap.size (foldL s) W → (convert 29 9 (.slice (some ⟨w.heap.size, 0, none⟩) s.length c)).run Try.prog W = .ok (.string (bstr (foldL s))) W) := Lib.hid (fun W h => by
    have := run_convert_bat (P := Try.prog) 29 9 5 c Try.underlying29 Try.underlying5 Try.underlying9 h.bat
    rwa [foldL_length] at this)
  obtain ⟨n, hn⟩ : ∃ n, n = s.length := ⟨_, rfl⟩
  have HN := Lib.hid hn
  rw [← hn] at hcv HCONV hs hc
  clear hB1 hn
  generalize hS : bstr s = S at *
  generalize hT : bstr (foldL s) = T at *
  clear hS hT
  go_enter Try.func19, Try.ntmps19
  go_upto_region 3 with fail
  go_loopw [4] (FoldR s w) (fun i _ => n - (RowKit.intOf i).toNat)
  case atStart => exact R0.out
  case round =>
    obtain ⟨k, rfl, hk, hB⟩ := hrel
    rw [← HN.out] at hk
    clear R0 hcv
    by_cases hlt : k < n
    · have hlt' : (k : Int) < (n : Int) := by omega
      have hls : k < s.length := by rw [← HN.out]; exact hlt
      have hll : k < (foldL (s.take k) ++ s.drop k).length := by rw [List.length_append, foldL_length, List.length_take, List.length_drop]; omega
      have hget := hB.cell k hll
      rw [fold_at s k hls] at hget
      have hfree := hB.free k hll
      have HB2 := Lib.hid (hB.set (Nat.le_refl _) hll (foldC s[k]))
      rw [fold_step s k hls] at HB2
      have HSAME : Hid (foldC s[k] = s[k] → BytesIn w w.heap.size (foldL (s.take (k + 1)) ++ s.drop (k + 1)) wr) := Lib.hid (fun e => by
        rw [← fold_step s k hls, e]
        have : (foldL (s.take k) ++ s.drop k).set k s[k] = foldL (s.take k) ++ s.drop k := by
          rw [← fold_at s k hls, List.set_getElem_self]
        rw [this]
        exact hB)
      have HQ := Lib.hid (foldC_eq s[k])
      have HQ2 := Lib.hid (foldC_eq2 s[k])
      have hbyte := s[k].toNat_lt
      have HK1 : Hid (k + 1 ≤ s.length) := Lib.hid hls
      clear hB hll hk
      generalize s[k] = ch at *
      clear hls
      by_cases h65 : 65 ≤ ch.toNat
      · have h65' : (65 : Int) ≤ (ch.toNat : Int) := by omega
        by_cases h90 : ch.toNat ≤ 90
        · have h90' : (ch.toNat : Int) ≤ 90 := by omega
          have hwr := HQ2.out ⟨h65, h90⟩
          clear h65 h90
          go_wp2
          exact ⟨⟨k + 1, by simp, HK1.out, HB2.out⟩, by simp [RowKit.intOf]; omega⟩
        · have h90' : ¬ (ch.toNat : Int) ≤ 90 := by omega
          have HF : Hid (foldC ch = ch) := Lib.hid (HQ.out.2 (fun h => h90 h.2))
          clear h65 h90
          go_wp2
          exact ⟨⟨k + 1, by simp, HK1.out, HSAME.out HF.out⟩, by simp [RowKit.intOf]; omega⟩
      · have h65' : ¬ (65 : Int) ≤ (ch.toNat : Int) := by omega
        have HF : Hid (foldC ch = ch) := Lib.hid (HQ.out.2 (fun h => h65 h.1))
        clear h65
        go_wp2
        exact ⟨⟨k + 1, by simp, HK1.out, HSAME.out HF.out⟩, by simp [RowKit.intOf]; omega⟩
    · obtain rfl : k = n := by omega
      have hB' : BytesIn w w.heap.size (foldL s) wr := by
        rw [HN.out, List.take_length, List.drop_length, List.append_nil] at hB
        exact hB
      have HBW := Lib.hid hB'.bel
      have hcv2 := HCONV.out wr hB'
      clear hB hB' HCONV
      go_wp2
      go_ret
      exact ⟨rfl, HBW.out⟩
end Go.Proofs.Ytjiiignbejbiiaa
