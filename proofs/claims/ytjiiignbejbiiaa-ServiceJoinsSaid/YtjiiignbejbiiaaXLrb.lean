/- Contract of Parts of signpostref09. Conditions: at most 100,000 bytes. -/
import Derived.Test.YtjiiignbejbiiaaXLcl
namespace Go.Proofs.Ytjiiignbejbiiaa
open Go.Shelf Go.RowKit Go.Lib Go.Great
set_option maxRecDepth 100000
set_option maxHeartbeats 1000000
theorem bstr_cut (s : List UInt8) (a b : Nat) : (bstr s).extract a b = bstr ((s.take b).drop a) := by
  apply ByteArray.ext
  apply Array.ext'
  simp [bstr, ByteArray.data_extract, List.drop_take]
/-- Where Parts stands: within the text, or behind it. -/
def RPartsR (s : List UInt8) (w : World) (v f i : Value) (wr : World) : Prop :=
  ∃ (L : List (List UInt8)) (a k : Nat), f = .int .i64 (a : Int) ∧ i = .int .i64 (k : Int) ∧ OwnT w.heap.size v L wr ∧ Below w.heap.size w wr ∧ L.length ≤ k ∧
    ((k ≤ s.length ∧ a ≤ k ∧ L ++ splitD (s.drop a) = splitD s ∧ ∀ j, a ≤ j → j < k → s[j]! ≠ 46) ∨ (k = s.length + 1 ∧ L = splitD s))
theorem nodot_cut (s : List UInt8) (a k : Nat) (ha : a ≤ k) (hk : k ≤ s.length) (h : ∀ j, a ≤ j → j < k → s[j]! ≠ 46) : ∀ c ∈ (s.take k).drop a, c ≠ 46 := by
  intro c hc
  obtain ⟨i, hi, rfl⟩ := List.mem_iff_getElem.1 hc
  rw [List.length_drop, List.length_take] at hi
  have := h (a + i) (by omega) (by omega)
  rw [getElem!_pos s (a + i) (by omega)] at this
  simpa using this
theorem split_mid (s : List UInt8) (a k : Nat) (ha : a ≤ k) (hk : k < s.length) (hd : s[k]! = 46) (h : ∀ j, a ≤ j → j < k → s[j]! ≠ 46) : splitD (s.drop a) = (s.take k).drop a :: splitD (s.drop (k + 1)) := by
  rw [← splitD_dot _ _ (nodot_cut s a k ha (by omega) h)]
  congr 1
  rw [getElem!_pos s k hk] at hd
  rw [← hd, ← List.drop_eq_getElem_cons hk]
  rw [List.drop_take]
  conv => lhs; rw [← List.take_append_drop (k - a) (s.drop a), List.drop_drop, show a + (k - a) = k by omega]
theorem split_last (s : List UInt8) (a : Nat) (ha : a ≤ s.length) (h : ∀ j, a ≤ j → j < s.length → s[j]! ≠ 46) : splitD (s.drop a) = [(s.take s.length).drop a] := by
  rw [← splitD_none _ (nodot_cut s a s.length ha (Nat.le_refl _) h), List.take_length]
theorem rparts_any (s : List UInt8) (hs : s.length ≤ 100000) (w : World) : Calls Try.prog 17 #[.string (bstr s)] w fun e w' => ∃ v, e = .returned v ∧ OwnT w.heap.size v (splitD s) w' ∧ Below w.heap.size w w' := by
  obtain ⟨i0, hi, hz0, hz1, hz2⟩ := info_parts info9
  have hsz := bstr_size s
  have HG := Lib.hid (bstr_get s)
  have HX := Lib.hid (bstr_cut s)
  have R0 : Hid (RPartsR s w (.slice none 0 0) (.int .i64 0) (.int .i64 0) w) := Lib.hid ⟨[], 0, 0, rfl, rfl, OwnT.nil, Below.refl _ _, by simp, .inl ⟨by omega, by omega, by simp, fun j h1 h2 => absurd h2 (by omega)⟩⟩
  obtain ⟨n, hn⟩ : ∃ n, n = s.length := ⟨_, rfl⟩
  have HN := Lib.hid hn
  rw [← hn] at hsz hs
  clear hn
  generalize bstr s = B at *
  go_enter Try.func17, Try.ntmps17
  go_upto_region 4 with fail
  go_loopw [3, 4, 5] (RPartsR s w) (fun _ _ i _ => n + 1 - (RowKit.intOf i).toNat)
  case atStart => exact R0.out
  case round =>
    obtain ⟨L, a, k, rfl, rfl, hO, hb, hL, hcase⟩ := hrel
    clear R0
    have HO := Lib.hid hO
    have HBW := Lib.hid hb
    clear hO hb
    rcases hcase with ⟨hk, ha, hsp, hno⟩ | ⟨hk, rfl⟩
    · rw [← HN.out] at hk
      have hk' : (k : Int) ≤ (n : Int) := by omega
      have HSP := Lib.hid hsp
      have HNO := Lib.hid hno
      clear hsp hno
      have hext := HX.out a k
      by_cases hend : k = n
      · subst hend
        have HNX : Hid (L ++ [(s.take k).drop a] = splitD s) := Lib.hid (by
          rw [← HSP.out, split_last s a (by rw [← HN.out]; exact ha) (fun j h1 h2 => HNO.out j h1 (by rw [HN.out]; exact h2)), ← HN.out])
        have HK := Lib.hid HN.out
        have hak : (a : Int) ≤ (k : Int) := by omega
        clear HSP HNO HG HX
        generalize (s.take k).drop a = p at *
        go_wp2_with (at_builtin; refine wpList_append_src _ rfl (.tmp 22) (.tmp 27) 25 25 rfl w.heap.size 9 i0 _ 16 Try.underlying25 hi hz0 hz1 hz2 rfl _ _ _ rfl (World.ownsRow.alloc HO.out _) _ 1 [.string (bstr p)] rfl (src_str _ _) (by simp only [maxLen]; omega) (by omega) (by have := HBW.out.size; simp; omega) ?_; intro v2 w2 hown2 hg2 _)
        refine ⟨⟨L ++ [p], k + 1, k + 1, by simp, by simp, by unfold OwnT; simpa [encT] using hown2, HBW.out.trans (app_below HO.out HBW.out.size hg2), by simp; omega, .inr ⟨by rw [← HK.out], HNX.out⟩⟩, by simp [RowKit.intOf]⟩
      · have hlt : k < n := by omega
        have hlt' : (k : Int) < (n : Int) := by omega
        have hne : ((k : Int) == (n : Int)) = false := by simp; omega
        have hget := HG.out k (by omega)
        have hls : k < s.length := by rw [← HN.out]; exact hlt
        have hak : (a : Int) ≤ (k : Int) := by omega
        by_cases hd : s[k]! = 46
        · have HNX : Hid ((L ++ [(s.take k).drop a]) ++ splitD (s.drop (k + 1)) = splitD s) := Lib.hid (by
            rw [← HSP.out, split_mid s a k ha hls hd HNO.out]
            simp)
          rw [hd] at hget
          have HK := Lib.hid hls
          clear HSP HNO HG HX hd hls hend
          generalize (s.take k).drop a = p at *
          go_wp2_with (at_builtin; refine wpList_append_src _ rfl (.tmp 22) (.tmp 27) 25 25 rfl w.heap.size 9 i0 _ 16 Try.underlying25 hi hz0 hz1 hz2 rfl _ _ _ rfl (World.ownsRow.alloc HO.out _) _ 1 [.string (bstr p)] rfl (src_str _ _) (by simp only [maxLen]; omega) (by omega) (by have := HBW.out.size; simp; omega) ?_; intro v2 w2 hown2 hg2 _)
          refine ⟨⟨L ++ [p], k + 1, k + 1, by simp, by simp, by unfold OwnT; simpa [encT] using hown2, HBW.out.trans (app_below HO.out HBW.out.size hg2), by simp; omega, .inl ⟨HK.out, by omega, HNX.out, fun j h1 h2 => absurd h2 (by omega)⟩⟩, by simp [RowKit.intOf]; omega⟩
        · have HC : Hid ((s[k]!).toNat = 46 → False) := Lib.hid (fun h => hd (UInt8.toNat_inj.1 (by rw [h]; rfl)))
          have HD := Lib.hid hd
          have HK := Lib.hid hls
          have hsk : (((s[k]!).toNat : Int) == 46) = false := by
            rw [beq_eq_false_iff_ne]
            intro h
            exact HC.out (by omega)
          have HNO2 : Hid (∀ j, a ≤ j → j < k + 1 → s[j]! ≠ 46) := Lib.hid (fun j h1 h2 => by
            by_cases e : j = k
            · subst e; exact hd
            · exact HNO.out j h1 (by omega))
          clear HG HX hd hls hend HNO
          generalize s[k]! = ch at *
          go_wp2
          refine ⟨⟨L, a, k + 1, rfl, by simp, HO.out, HBW.out, by omega, .inl ⟨HK.out, by omega, HSP.out, HNO2.out⟩⟩, by simp [RowKit.intOf]; omega⟩
    · rw [← HN.out] at hk
      have hk' : ¬ (k : Int) ≤ (n : Int) := by omega
      clear HG HX
      go_wp2
      go_ret
      exact ⟨_, rfl, HO.out, HBW.out⟩
end Go.Proofs.Ytjiiignbejbiiaa
