/- Contract of Fold of signpostref09. Conditions: at most 100,000 bytes. Contracts of Texts of the statements. Conditions: at most 100,000 bytes. Contract of Wire of signpostref09. Conditions: at most 100,000 bytes. -/
import Derived.Test.YtjiiignbejbiiaaXLrc
import Derived.Deep.Cut
import Derived.Deep.QuietTactic
import Derived.Test.YtjiiignbejbiiaaXLpb
section
namespace Go.Proofs.Ytjiiignbejbiiaa
open Go.Shelf Go.RowKit Go.Lib Go.Great
set_option maxRecDepth 100000
set_option maxHeartbeats 1000000
theorem foldC_eq2 (c : UInt8) : (65 ≤ c.toNat ∧ c.toNat ≤ 90 → (c.toNat : Int) + 97 - 65 = ((foldC c).toNat : Int)) := by
  intro h
  have := (foldC_eq c).1 h
  rw [← this]
  omega
theorem rfold_any (s : List UInt8) (hs : s.length ≤ 100000) (w : World) : Calls Try.prog 19 #[.string (bstr s)] w fun e w' => e = .returned (.string (bstr (foldL s))) ∧ Below w.heap.size w w' := by
  obtain ⟨c, W1, hcv, hB1, hc⟩ := str_in s w
  have R0 : Hid (FoldR s w (.int .i64 0) W1) := Lib.hid ⟨0, rfl, by omega, by simpa [foldL] using hB1⟩
  have HCONV : Hid (∀ W, BytesIn w w.heap.size (foldL s) W → (convert 29 9 (.slice (some ⟨w.heap.size, 0, none⟩) s.length c)).run Try.prog W = .ok (.string (bstr (foldL s))) W) := Lib.hid (fun W h => by
    have := run_convert_bat (P := Try.prog) 29 9 5 c Try.underlying29 Try.underlying5 Try.underlying9 h.bat
    rwa [foldL_length] at this)
  obtain ⟨n, hn⟩ : ∃ n, n = s.length := ⟨_, rfl⟩
  have HN := Lib.hid hn
  rw [← hn] at hcv HCONV hs hc
  clear hB1 hn
  generalize hS : bstr s = S at *
  generalize hT : bstr (foldL s) = T at *
  clear hS hT
  go_enter Try.func19, Try.ntmps19
  go_upto_region 3 with fail
  go_loopw [4] (FoldR s w) (fun i _ => n - (RowKit.intOf i).toNat)
  case atStart => exact R0.out
  case round =>
    obtain ⟨k, rfl, hk, hB⟩ := hrel
    rw [← HN.out] at hk
    clear R0 hcv
    by_cases hlt : k < n
    · have hlt' : (k : Int) < (n : Int) := by omega
      have hls : k < s.length := by rw [← HN.out]; exact hlt
      have hll : k < (foldL (s.take k) ++ s.drop k).length := by rw [List.length_append, foldL_length, List.length_take, List.length_drop]; omega
      have hget := hB.cell k hll
      rw [fold_at s k hls] at hget
      have hfree := hB.free k hll
      have HB2 := Lib.hid (hB.set (Nat.le_refl _) hll (foldC s[k]))
      rw [fold_step s k hls] at HB2
      have HSAME : Hid (foldC s[k] = s[k] → BytesIn w w.heap.size (foldL (s.take (k + 1)) ++ s.drop (k + 1)) wr) := Lib.hid (fun e => by
        rw [← fold_step s k hls, e]
        have : (foldL (s.take k) ++ s.drop k).set k s[k] = foldL (s.take k) ++ s.drop k := by
          rw [← fold_at s k hls, List.set_getElem_self]
        rw [this]
        exact hB)
      have HQ := Lib.hid (foldC_eq s[k])
      have HQ2 := Lib.hid (foldC_eq2 s[k])
      have hbyte := s[k].toNat_lt
      have HK1 : Hid (k + 1 ≤ s.length) := Lib.hid hls
      clear hB hll hk
      generalize s[k] = ch at *
      clear hls
      by_cases h65 : 65 ≤ ch.toNat
      · have h65' : (65 : Int) ≤ (ch.toNat : Int) := by omega
        by_cases h90 : ch.toNat ≤ 90
        · have h90' : (ch.toNat : Int) ≤ 90 := by omega
          have hwr := HQ2.out ⟨h65, h90⟩
          clear h65 h90
          go_wp2
          exact ⟨⟨k + 1, by simp, HK1.out, HB2.out⟩, by simp [RowKit.intOf]; omega⟩
        · have h90' : ¬ (ch.toNat : Int) ≤ 90 := by omega
          have HF : Hid (foldC ch = ch) := Lib.hid (HQ.out.2 (fun h => h90 h.2))
          clear h65 h90
          go_wp2
          exact ⟨⟨k + 1, by simp, HK1.out, HSAME.out HF.out⟩, by simp [RowKit.intOf]; omega⟩
      · have h65' : ¬ (65 : Int) ≤ (ch.toNat : Int) := by omega
        have HF : Hid (foldC ch = ch) := Lib.hid (HQ.out.2 (fun h => h65 h.1))
        clear h65
        go_wp2
        exact ⟨⟨k + 1, by simp, HK1.out, HSAME.out HF.out⟩, by simp [RowKit.intOf]; omega⟩
    · obtain rfl : k = n := by omega
      have hB' : BytesIn w w.heap.size (foldL s) wr := by
        rw [HN.out, List.take_length, List.drop_length, List.append_nil] at hB
        exact hB
      have HBW := Lib.hid hB'.bel
      have hcv2 := HCONV.out wr hB'
      clear hB hB' HCONV
      go_wp2
      go_ret
      exact ⟨rfl, HBW.out⟩
end Go.Proofs.Ytjiiignbejbiiaa
end
section
namespace Go.Proofs.Ytjiiignbejbiiaa
open Go.Shelf Go.RowKit Go.Lib Go.Great
set_option maxRecDepth 100000
set_option maxHeartbeats 1000000
def TextsR (L M : List (List UInt8)) (w : World) (i : Value) (wr : World) : Prop := ∃ k : Nat, i = .int .i64 (k : Int) ∧ k ≤ L.length ∧ (∀ j, j < k → L[j]! = M[j]!) ∧ Below w.heap.size w wr
theorem texts_any (A A2 : Option Addr) (c c2 : Nat) (L M : List (List UInt8)) (hL : L.length ≤ 1000000) (hM : M.length ≤ 1000000) (w : World) (h1 : SAt w w.heap.size A L) (h2 : SAt w w.heap.size A2 M) : Calls Try.prog 15 #[.slice A L.length c, .slice A2 M.length c2] w fun e w' => e = .returned (.bool (decide (L = M))) ∧ Below w.heap.size w w' := by
  have HEX : Hid (L.length = M.length → (∀ j, j < L.length → L[j]! = M[j]!) → L = M) := Lib.hid (fun hl h => List.ext_getElem hl (fun i hi hi2 => by
    have := h i hi
    rwa [getElem!_pos L i hi, getElem!_pos M i hi2] at this))
  obtain ⟨l, hl⟩ : ∃ l, l = L.length := ⟨_, rfl⟩
  obtain ⟨m, hm⟩ : ∃ m, m = M.length := ⟨_, rfl⟩
  have HL := Lib.hid hl
  have HM := Lib.hid hm
  have H1 := Lib.hid h1
  have H2 := Lib.hid h2
  rw [← hl] at hL HEX ⊢
  rw [← hm] at hM HEX ⊢
  clear hl hm h1 h2
  by_cases hlm : l = m
  · subst hlm
    have R0 : Hid (TextsR L M w (.int .i64 0) w) := Lib.hid ⟨0, rfl, by omega, fun j h1 => absurd h1 (by omega), Below.refl _ _⟩
    go_enter Try.func15, Try.ntmps15
    go_upto_region 4 with fail
    go_loopw [13] (TextsR L M w) (fun i _ => l - (RowKit.intOf i).toNat)
    case atStart => exact R0.out
    case round =>
      obtain ⟨k, rfl, hk, hF, hb⟩ := hrel
      rw [← HL.out] at hk
      clear R0
      have HF := Lib.hid hF
      have HBW := Lib.hid hb
      clear hF hb
      by_cases hlt : k < l
      · have hlt' : (k : Int) < (l : Int) := by omega
        have hkL : k < L.length := by rw [← HL.out]; omega
        have hkM : k < M.length := by rw [← HM.out]; omega
        rcases H1.out.below HBW.out with h0 | ⟨g1, o1, rfl, hg1, hcell1⟩
        · exact absurd (congrArg List.length h0) (by rw [← HL.out]; simp; omega)
        rcases H2.out.below HBW.out with h0 | ⟨g2, o2, rfl, hg2, hcell2⟩
        · exact absurd (congrArg List.length h0) (by rw [← HM.out]; simp; omega)
        have hc1 := hcell1 k hkL
        have hc2 := hcell2 k hkM
        have hgx : L[k]! = L[k] := getElem!_pos L k hkL
        have hgy : M[k]! = M[k] := getElem!_pos M k hkM
        have HNX : Hid (L[k] = M[k] → ∀ nq, TextsR L M w (.int .i64 ((k : Int) + 1)) (wr.drewN nq)) := Lib.hid (fun h nq => ⟨k + 1, by simp, by rw [← HL.out]; omega, fun j h2 => by
          by_cases e : j = k
          · subst e; rw [hgx, hgy]; exact h
          · exact HF.out j (by omega), below_drewN HBW.out nq⟩)
        have HST : Hid (L[k] ≠ M[k] → decide (L = M) = false) := Lib.hid (fun h => decide_eq_false (fun hs => h (by subst hs; rfl)))
        have hbl := bstr_list
        clear hcell1 hcell2 hgx hgy HF H1 H2
        unfold encT at hc1 hc2
        generalize L[k] = p at *
        generalize M[k] = q at *
        clear hkL hkM
        by_cases hpq : p = q
        · have hpb : (p == q) = true := by simpa using hpq
          have HNX2 := Lib.hid (HNX.out hpq)
          clear hpq HNX HST
          go_upto_region 6 with fail
          go_quiet (fail)
          go_wp2
          go_roundw
          case rel => exact HNX2.out _
          case measure => simp [RowKit.intOf]; omega
        · have hpb : (p == q) = false := by simpa using hpq
          have HF2 := Lib.hid (HST.out hpq)
          clear hpq HNX HST
          go_upto_region 6 with fail
          go_quiet (fail)
          go_wp2
          go_ret
          exact ⟨by rw [HF2.out]; rfl, below_drewN HBW.out _⟩
      · obtain rfl : k = l := by omega
        have HT : Hid (decide (L = M) = true) := Lib.hid (decide_eq_true (HEX.out (by trivial) HF.out))
        have hlt' : ¬ (k : Int) < (k : Int) := by omega
        clear HF
        go_wp2
        go_ret
        exact ⟨by rw [HT.out]; rfl, HBW.out⟩
  · have HF2 : Hid (decide (L = M) = false) := Lib.hid (decide_eq_false (fun h => hlm (by rw [HL.out, HM.out, h])))
    have hne : ((l : Int) == (m : Int)) = false := by simp; omega
    go_enter Try.func15, Try.ntmps15
    go_wp2
    go_ret
    exact ⟨by rw [HF2.out]; rfl, Below.refl _ _⟩
end Go.Proofs.Ytjiiignbejbiiaa
end
section
namespace Go.Proofs.Ytjiiignbejbiiaa
open Go.Shelf Go.RowKit Go.Lib Go.Great
set_option maxRecDepth 100000
set_option maxHeartbeats 1000000
theorem results_2b {fn : Func} {p q : Tmp} (h : fn.results = #[.tmp p, .tmp q]) {P : Program} (tmps : Array Value) (w : World) (u v : Value) (hp : tmps.getD p undef = u) (hq : tmps.getD q undef = v) : (results fn tmps).run P w = .ok (.tuple #[u, v]) w := by
  have hp' : tmps[p]?.getD undef = u := by simpa using hp
  have hq' : tmps[q]?.getD undef = v := by simpa using hq
  simp [results, h, hp', hq']
theorem rwire_bad (s : List UInt8) (ls : s.length ≤ 100000) (hs : goodL s = false) (w : World) : Calls Try.prog 24 #[.string (bstr s)] w fun e w' => e = .returned (.tuple #[.slice none 0 0, .int .i64 40]) ∧ Below w.heap.size w w' := by
  have HG := Lib.hid (rgood_any s ls w)
  rw [hs] at HG
  generalize bstr s = S at *
  clear hs
  go_enter Try.func24, Try.ntmps24
  go_wp2_with (go_at_call 14; (with_reducible refine HG.out.mono ?_); rintro e w1 ⟨rfl, hb1⟩)
  refine bodyPost_ret (v := .tuple #[.slice none 0 0, .int .i64 40]) (results_2b (p := 2) (q := 3) rfl _ _ _ _ rfl rfl) rfl ?_
  exact ⟨rfl, hb1⟩
def RWireR (L : List (List UInt8)) (w w1 : World) (v i : Value) (wr : World) : Prop := ∃ k : Nat, i = .int .i64 (k : Int) ∧ k ≤ L.length ∧ wr.ownsRow w1.heap.size 5 1 v (flatP (L.take k)).length (bcells (flatP (L.take k))) ∧ Below w1.heap.size w1 wr
theorem byteCells_b (x : List UInt8) : byteCells (bstr x) = bcells x := by simp [byteCells, bstr, bcells]
theorem flat_next (L : List (List UInt8)) (k : Nat) (hk : k < L.length) : flatP (L.take (k + 1)) = flatP (L.take k) ++ UInt8.ofNat L[k].length :: L[k] := by
  rw [List.take_succ_eq_append_getElem hk, flatP_append, flatP_one]
theorem sizeD_take (L : List (List UInt8)) (k : Nat) : sizeD (L.take k) ≤ sizeD L := by
  conv => rhs; rw [← List.take_append_drop k L, sizeD_append]
  omega
theorem app_below0 {W w1 : World} {n₀ : Nat} {e : TypeId} {size : Nat} {v : Value} {k : Nat} {xs : List Value} (hrow : W.ownsRow n₀ e size v k xs) (hn₀ : n₀ ≤ W.heap.size) (hgrow : W.grownBy w1 v.ownBlock) : Below n₀ W w1 := by
  refine (Below.refl n₀ W).grown hgrow hn₀ fun j ej => ?_
  rcases hrow.2 with ⟨rfl, _⟩ | ⟨g, cap, cur, rfl, hb, _, _⟩
  · simp [Value.ownBlock] at ej
  · obtain rfl : g = j := by simpa [Value.ownBlock] using ej
    exact hb
theorem byte_len2 (n : Nat) (h : n ≤ 254) : (n : Int) = ((UInt8.ofNat n).toNat : Int) := by
  rw [UInt8.toNat_ofNat']
  omega
theorem rwire_good (s : List UInt8) (hs : goodL s = true) (w : World) : Calls Try.prog 24 #[.string (bstr s)] w fun e w' => ∃ v, e = .returned (.tuple #[v, .int .i64 0]) ∧ w'.ownsRow w.heap.size 5 1 v (wireL s).length (bcells (wireL s)) ∧ Below w.heap.size w w' := by
  have ls : s.length ≤ 253 := ((goodL_iff s).1 hs).2
  obtain ⟨i0, hi, hz0, hz1, hz2⟩ := info_parts info5
  have HG : Hid (Calls Try.prog 14 #[.string (bstr s)] w fun e w' => e = .returned (.bool true) ∧ Below w.heap.size w w') := Lib.hid (hs ▸ rgood_any s (by omega) w)
  have HP : Hid (∀ W, Below w.heap.size w W → Calls Try.prog 17 #[.string (bstr s)] W fun e w' => ∃ A c, e = .returned (.slice A (splitD s).length c) ∧ (splitD s).length ≤ c ∧ SAt w' w'.heap.size A (splitD s) ∧ Below w.heap.size w w') := Lib.hid (fun W hW => (rparts_at s (by omega) W).mono (by
    rintro e w' ⟨A, c, rfl, h1, h2, h3⟩
    exact ⟨A, c, rfl, h1, h2, hW.trans (h3.mono hW.size)⟩))
  have HSZ := Lib.hid (sizeD_split s)
  have HW : Hid (wireL s = flatP (splitD s) ++ [0]) := Lib.hid rfl
  have HLE := sizeD_le (splitD s)
  rw [sizeD_split] at HLE
  generalize wireL s = WL at *
  generalize splitD s = L at *
  generalize bstr s = S at *
  obtain ⟨l, hl⟩ : ∃ l, l = L.length := ⟨_, rfl⟩
  have HL := Lib.hid hl
  rw [← hl] at HP HLE
  clear hl hs
  go_enter Try.func24, Try.ntmps24
  go_upto_region 6 with (first
    | (go_at_call 14; (with_reducible refine HG.out.mono ?_); rintro e w0 ⟨rfl, hb0⟩)
    | (go_at_call 17; (with_reducible refine (HP.out _ hb0).mono ?_); rintro e w1 ⟨A, c, rfl, hc1, hA1, hb1⟩))
  have R0 : Hid (RWireR L w w1 (.slice none 0 0) (.int .i64 0) w1) := Lib.hid ⟨0, rfl, by omega, ⟨rfl, .inl ⟨rfl, rfl⟩⟩, Below.refl _ _⟩
  have HA1 := Lib.hid hA1
  have HB1 := Lib.hid hb1
  clear HG HP hA1 hb0 hb1
  go_loopw [4, 6] (RWireR L w w1) (fun _ i _ => l - (RowKit.intOf i).toNat)
  case atStart => exact R0.out
  case round =>
    obtain ⟨k, rfl, hk, hrow, hb⟩ := hrel
    rw [← HL.out] at hk
    clear R0
    have hfl : (flatP (L.take k)).length ≤ 254 := by
      rw [flatP_length]
      have h1 := sizeD_take L k
      have h2 := HSZ.out
      omega
    have HBW := Lib.hid hb
    by_cases hlt : k < l
    · have hlt' : (k : Int) < (l : Int) := by omega
      have hkL : k < L.length := by rw [← HL.out]; omega
      rcases HA1.out.below hb with h0 | ⟨g1, o1, rfl, hg1, hcell⟩
      · exact absurd (congrArg List.length h0) (by rw [← HL.out]; simp; omega)
      have hcc := hcell k hkL
      have HCK : Hid (∀ W, Below w1.heap.size wr W → W.cell? ⟨g1, o1 + k, none⟩ = some (encT L[k])) := Lib.hid (fun W hW => (hW.cell (p := ⟨g1, o1 + k, none⟩) hg1).trans hcc)
      have HFN := Lib.hid (flat_next L k hkL)
      have hpl : L[k].length ≤ 254 := by
        have h1 := sizeD_take L (k + 1)
        have h2 := HSZ.out
        rw [List.take_succ_eq_append_getElem hkL, sizeD_append, sizeD_cons] at h1
        omega
      unfold encT at hcc HCK
      have hszp := bstr_size L[k]
      have HBL := Lib.hid (byte_len2 L[k].length hpl)
      have HBC := Lib.hid (byteCells_b L[k])
      clear hcell hb
      generalize flatP (L.take k) = F at *
      generalize L[k] = p at *
      obtain ⟨fl, hfe⟩ : ∃ fl, fl = F.length := ⟨_, rfl⟩
      rw [← hfe] at hrow hfl
      have HFE := Lib.hid hfe
      clear hfe hkL
      go_wp2_with (first
        | (at_builtin; refine wpList_append_src _ rfl (.tmp 18) (.tmp 25) 29 29 rfl w1.heap.size 5 i0 _ 1 Try.underlying29 hi hz0 hz1 hz2 rfl _ _ _ rfl (hrow.alloc _) _ 1 (bcells [UInt8.ofNat p.length]) rfl (src_one Try.underlying29 _ _ _ _ HBL.out) (by simp only [maxLen]; omega) (by omega) (by have := HBW.out.size; simp; omega) ?_; intro v2 w2 hown2 hg2 _; have hb2 := app_below hrow HBW.out.size hg2; have hcc2 := HCK.out _ hb2)
        | (at_builtin; refine wpList_append_src _ rfl (.tmp 27) (.tmp 31) 29 9 rfl w1.heap.size 5 i0 _ 1 Try.underlying29 hi hz0 hz1 hz2 rfl _ _ _ rfl hown2 _ (bstr p).size (byteCells (bstr p)) rfl (Src.ofString _ Try.underlying9 _) (by simp only [maxLen]; omega) (by omega) (by have := HBW.out.size; have := hb2.size; omega) ?_; intro v3 w3 hown3 hg3 _; have hb3 := app_below0 hown2 (by have := HBW.out.size; have := hb2.size; omega) hg3))
      have hrow3 : w3.ownsRow w1.heap.size 5 1 v3 (flatP (L.take (k + 1))).length (bcells (flatP (L.take (k + 1)))) := by
        have hfn := HFN.out
        rw [hfn]
        rw [hszp, HBC.out, HFE.out] at hown3
        have e1 : bcells F ++ bcells [UInt8.ofNat p.length] ++ bcells p = bcells (F ++ UInt8.ofNat p.length :: p) := by simp [bcells]
        have e2 : F.length + 1 + p.length = (F ++ UInt8.ofNat p.length :: p).length := by simp; omega
        rw [e1, e2] at hown3
        exact hown3
      exact ⟨⟨k + 1, by simp, by rw [← HL.out]; omega, hrow3, (HBW.out.trans hb2).trans hb3⟩, by simp [RowKit.intOf]; omega⟩
    · obtain rfl : k = l := by omega
      have hnl : ¬ (k : Int) < (k : Int) := by omega
      have hw1 : w.heap.size ≤ w1.heap.size := HB1.out.size
      rw [HL.out, List.take_length] at hrow
      rw [HL.out, List.take_length] at hfl
      have HWL : Hid (WL.length = (flatP L).length + 1 ∧ bcells WL = bcells (flatP L) ++ bcells [0]) := Lib.hid (by rw [HW.out]; exact ⟨by simp, bcells_append _ _⟩)
      generalize flatP L = F at *
      obtain ⟨fl, hfe⟩ : ∃ fl, fl = F.length := ⟨_, rfl⟩
      rw [← hfe] at hrow hfl
      have HFE := Lib.hid hfe
      clear hfe hb HW
      go_wp2_with (at_builtin; refine wpList_append_src _ rfl (.tmp 33) (.tmp 34) 29 29 rfl w1.heap.size 5 i0 _ 1 Try.underlying29 hi hz0 hz1 hz2 rfl _ _ _ rfl (hrow.alloc _) _ 1 (bcells [0]) rfl (src_one Try.underlying29 _ _ _ _ rfl) (by simp only [maxLen]; omega) (by omega) (by have := HBW.out.size; simp; omega) ?_; intro v2 w2 hown2 hg2 _; have hb2 := app_below hrow HBW.out.size hg2)
      refine bodyPost_ret (v := .tuple #[v2, .int .i64 0]) (results_2b (p := 2) (q := 3) rfl _ _ _ _ rfl rfl) rfl ?_
      rw [HFE.out, ← HWL.out.1, ← HWL.out.2] at hown2
      exact ⟨_, rfl, ownsRow_base_a hown2 hw1, HB1.out.trans ((HBW.out.trans hb2).mono hw1)⟩
end Go.Proofs.Ytjiiignbejbiiaa
end
