/- Merge of the reference. Conditions: at most 10,000 instances each, targets of at most 100,000 bytes. Live and Sweep of the reference. Conditions: at most 10,000 instances. -/
import Derived.Test.YtkceipkgebgigaaGreatXZae
import Derived.Test.YtkceipkgebgigaaGreatXOhd
import Derived.Test.YtkceipkgebgigaaGreatXIig
section
namespace Go.Proofs.YtkceipkgebgigaaGreat
open Go.Shelf Go.RowKit Go.Lib Go.Great
set_option maxRecDepth 100000
set_option maxHeartbeats 400000
/-- A slice that may be read. -/
def SlR (w : World) (M : List Ins) (W : World) (v : Value) : Prop := ∃ A c, v = .slice A M.length c ∧ IAt W W.heap.size A M ∧ (A = none ∨ ∃ g off, A = some ⟨g, off, none⟩) ∧ Below w.heap.size w W
theorem SlR.bel {w W W' : World} {M : List Ins} {v : Value} (h : SlR w M W v) (hb : Below W.heap.size W W') : SlR w M W' v := by
  obtain ⟨A, c, e, hA, hA2, hw⟩ := h
  exact ⟨A, c, e, (hA.below hb).more hb.size, hA2, hw.trans (hb.mono hw.size)⟩
theorem SlR.be {w W : World} {M : List Ins} {v : Value} (h : SlR w M W v) : Below w.heap.size w W := by
  obtain ⟨A, c, e, hA, hA2, hw⟩ := h
  exact hw
theorem rmerge_bad (A : Option Addr) (c n : Nat) (a : List Ins) (w : World) (X : Value) (hA : IAt w w.heap.size A a) (hA2 : A = none ∨ ∃ g off, A = some ⟨g, off, none⟩) (hl : a.length ≤ 10000) (hta : ∀ y ∈ a, y.tgt.length ≤ 100000)
    (hg : goodR a = false ∨ (goodR a = true ∧ ∀ W, Below w.heap.size w W → Calls Tryz.prog 14 #[X] W fun e w' => e = .returned (.bool false) ∧ Below W.heap.size W w')) :
    Calls Tryz.prog 17 #[.slice A a.length c, X] w fun e w' => ∃ v, e = .returned v ∧ SlR w a w' v := by
  have HGA : Hid (Calls Tryz.prog 14 #[.slice A a.length c] w fun e w' => e = .returned (.bool (goodR a)) ∧ Below w.heap.size w w') := Lib.hid (rgd_any A c a w hl hta hA)
  have HF : Hid (∀ W, Below w.heap.size w W → SlR w a W (.slice A a.length c)) := Lib.hid (fun W hW => ⟨A, c, rfl, (hA.below hW).more hW.size, hA2, hW⟩)
  generalize a.length = m at *
  clear hA hA2
  rcases hg with hg | ⟨hg, hb⟩
  · rw [hg] at HGA
    clear hg
    go_enter Tryz.func17, Tryz.ntmps17
    go_wp2_with (first
      | (go_at_call 14; (with_reducible refine HGA.out.mono ?_); rintro e w1 ⟨rfl, hb1⟩))
    go_ret
    exact ⟨_, rfl, HF.out _ hb1⟩
  · rw [hg] at HGA
    have HGB := Lib.hid hb
    clear hg hb
    go_enter Tryz.func17, Tryz.ntmps17
    go_upto_region 1 with fail
    go_wp2_with (first
      | (go_at_call 14; (with_reducible refine HGA.out.mono ?_); rintro e w1 ⟨rfl, hb1⟩; clear HGA; have hgb := Lib.hid (HGB.out _ hb1))
      | (go_at_call 14; (with_reducible refine hgb.out.mono ?_); rintro e w2 ⟨rfl, hb2⟩))
    go_ret
    exact ⟨_, rfl, HF.out _ (hb1.trans (hb2.mono hb1.size))⟩
theorem rmerge_fold (A B : Option Addr) (c d : Nat) (a b : List Ins) (w : World) (hga : goodR a = true) (hgb : goodR b = true)
    (hA : IAt w w.heap.size A a) (hA2 : A = none ∨ ∃ g off, A = some ⟨g, off, none⟩) (hB : IAt w w.heap.size B b) :
    Calls Tryz.prog 17 #[.slice A a.length c, .slice B b.length d] w fun e w' => ∃ v, e = .returned v ∧ SlR w (mergeL a b) w' v := by
  have hla := ((goodR_iff a).1 hga).1
  have hlb := ((goodR_iff b).1 hgb).1
  have HGA : Hid (Calls Tryz.prog 14 #[.slice A a.length c] w fun e w' => e = .returned (.bool true) ∧ Below w.heap.size w w') := Lib.hid (by
    have := rgd_any A c a w (by omega) (fun y hy => by have := good_tgt hga y hy; omega) hA
    rw [hga] at this
    exact this)
  have HGB : Hid (∀ W, Below w.heap.size w W → Calls Tryz.prog 14 #[.slice B b.length d] W fun e w' => e = .returned (.bool true) ∧ Below w.heap.size w w') := Lib.hid (fun W hW => (rgd_any B d b W (by omega) (fun y hy => by have := good_tgt hgb y hy; omega) ((hB.below hW).more hW.size)).mono (by rintro e w' ⟨rfl, hb⟩; exact ⟨by rw [hgb], hW.trans (hb.mono hW.size)⟩))
  have R0 : Hid (∀ W, Below w.heap.size w W → SlR w (foldK a b 0) W (.slice A a.length c)) := Lib.hid (fun W hW => ⟨A, c, rfl, (hA.below hW).more hW.size, hA2, hW⟩)
  obtain ⟨n, hn⟩ : ∃ n, n = b.length := ⟨_, rfl⟩
  have HLD : Hid (∀ k, k < n → ∃ g off, B = some ⟨g, off, none⟩ ∧ ∀ W, Below w.heap.size w W → (loadVar 29 ⟨g, off + k * 28, none⟩).run Tryz.prog W = .ok (.agg (encI b[k]!).toArray) W) := Lib.hid (fun k hk => by
    rcases hB with rfl | ⟨g, off, rfl, hg, hr⟩
    · simp at hn; omega
    · exact ⟨g, off, rfl, fun W hW => row_load hr hg hW (by omega)⟩)
  have HPUT : Hid (∀ k, k < n → ∀ W v, SlR w (foldK a b k) W v → Calls Tryz.prog 7 #[v, .agg (encI b[k]!).toArray] W fun e w' => ∃ v' r, e = .returned (.tuple #[v', .bool r]) ∧ SlR w (foldK a b (k + 1)) w' v') := Lib.hid (fun k hk W v h => by
    obtain ⟨A', c', rfl, hi, hi2, hw⟩ := h
    have hgk : goodR (foldK a b k) = true := fold_good _ hga (fun x hx => goodR_all hgb x (List.mem_of_mem_take hx))
    have hx : goodI b[k]! = true := goodR_all hgb _ (by rw [getElem!_pos b k (by omega)]; exact List.getElem_mem _)
    have hlk := ((goodR_iff _).1 hgk).1
    refine (rput_any A' c' (foldK a b k) b[k]! W (by omega) (fun y hy => by have := good_tgt hgk y hy; omega) (by have := goodI_len hx; omega) hi hi2).mono ?_
    rintro e w' ⟨A2, c2, rfl, hj, hj2, hb2⟩
    rw [← foldK_succ a b k (by omega)] at hj ⊢
    exact ⟨_, _, rfl, A2, c2, rfl, hj, hj2, hw.trans (hb2.mono hw.size)⟩)
  have HEND : Hid (∀ W v, SlR w (foldK a b n) W v → SlR w (mergeL a b) W v) := Lib.hid (fun W v h => by
    rw [merge_is hga hgb]
    unfold foldK at h
    rw [hn, List.take_length] at h
    exact h)
  rw [← hn] at HGB hlb ⊢
  generalize a.length = m at *
  clear hA hA2 hB hga hgb hla hn
  go_enter Tryz.func17, Tryz.ntmps17
  go_upto_region 3 with (first
    | (go_at_call 14; (with_reducible refine HGA.out.mono ?_); rintro e w2 ⟨rfl, hb2⟩; clear HGA)
    | (go_at_call 14; (with_reducible refine (HGB.out _ hb2).mono ?_); rintro e w3 ⟨rfl, hb3⟩))
  have HO3 := Lib.hid (R0.out _ hb3)
  clear hb2 hb3 HGB R0
  go_wp2
  go_loopw [0, 5] (fun s0 i wr => ∃ (k : Nat) (v : Value), s0 = v ∧ i = .int .i64 (k : Int) ∧ k ≤ n ∧ SlR w (foldK a b k) wr v) (fun _ i _ => n - (RowKit.intOf i).toNat)
  case atStart => exact ⟨0, _, rfl, rfl, by omega, HO3.out⟩
  case round =>
    obtain ⟨k, v, e0, rfl, hk, ho⟩ := hrel
    obtain rfl := e0.symm
    clear HO3
    by_cases hlt : k < n
    · have hlt' : (k : Int) < (n : Int) := by omega
      obtain ⟨g, off, rfl, hld⟩ := HLD.out k hlt
      have hld := Lib.hid (hld wr ho.be)
      have HP := Lib.hid (HPUT.out k hlt _ _ ho)
      clear HLD HPUT HEND ho
      generalize b[k]! = x at *
      go_wp2_with (first
        | ((with_reducible refine wpList_loadV (op := ⟨some 26, _, _, _, _, _⟩) rfl 29 (.tmp 25) rfl _ ?_ _ hld.out ?_); rfl)
        | (go_at_call 7; (with_reducible refine HP.out.mono ?_); rintro e w4 ⟨v4, r4, rfl, ho4⟩))
      go_roundw
      case rel => exact ⟨k + 1, _, rfl, by go_num, by omega, ho4⟩
      case measure => simp [RowKit.intOf]; omega
    · obtain rfl : k = n := by omega
      have HE := Lib.hid (HEND.out _ _ ho)
      clear HLD HPUT HEND ho
      go_wp2
      go_ret
      exact ⟨_, rfl, HE.out⟩
theorem rmerge_any (A B : Option Addr) (c d : Nat) (a b : List Ins) (w : World) (ha : a.length ≤ 10000) (hb : b.length ≤ 10000) (hta : ∀ y ∈ a, y.tgt.length ≤ 100000) (htb : ∀ y ∈ b, y.tgt.length ≤ 100000)
    (hA : IAt w w.heap.size A a) (hA2 : A = none ∨ ∃ g off, A = some ⟨g, off, none⟩) (hB : IAt w w.heap.size B b) :
    Calls Tryz.prog 17 #[.slice A a.length c, .slice B b.length d] w fun e w' => ∃ v, e = .returned v ∧ SlR w (mergeL a b) w' v := by
  have he : ¬ (goodR a = true ∧ goodR b = true) → mergeL a b = a := fun h => by
    unfold mergeL
    rw [if_neg (by rw [Bool.and_eq_true]; exact h)]
  cases hga : goodR a with
  | false =>
    rw [he (by rw [hga]; simp)]
    exact rmerge_bad A c b.length a w _ hA hA2 ha hta (.inl hga)
  | true =>
    cases hgb : goodR b with
    | false =>
      rw [he (by rw [hgb]; simp)]
      exact rmerge_bad A c b.length a w _ hA hA2 ha hta (.inr ⟨hga, fun W hW => by
        have := rgd_any B d b W hb htb ((hB.below hW).more hW.size)
        rw [hgb] at this
        exact this⟩)
    | true => exact rmerge_fold A B c d a b w hga hgb hA hA2 hB
end Go.Proofs.YtkceipkgebgigaaGreat
end
section
namespace Go.Proofs.YtkceipkgebgigaaGreat
open Go.Shelf Go.RowKit Go.Lib Go.Great
set_option maxRecDepth 100000
set_option maxHeartbeats 400000
def liveI (now : Nat) (x : Ins) : Bool := aliveI x now && !x.gone
def swepI (now : Nat) (x : Ins) : Bool := !overI x now
theorem rlive_any (A : Option Addr) (c : Nat) (L : List Ins) (now : Nat) (w : World) (hl : L.length ≤ 10000) (hA : IAt w w.heap.size A L) :
    Calls Tryz.prog 19 #[.slice A L.length c, .int .u64 (now : Int)] w fun e w' => ∃ v, e = .returned v ∧ OwnR w (L.filter (liveI now)) w' v := by
  have HLD : Hid (∀ k, k < L.length → ∃ g off, A = some ⟨g, off, none⟩ ∧ ∀ W, Below w.heap.size w W → (loadVar 29 ⟨g, off + k * 28, none⟩).run Tryz.prog W = .ok (.agg (encI L[k]!).toArray) W ∧ (loadVar 4 ⟨g, off + k * 28 + 23, none⟩).run Tryz.prog W = .ok (.bool L[k]!.gone) W) := Lib.hid (fun k hk => by
    rcases hA with rfl | ⟨g, off, rfl, hg, hr⟩
    · simp at hk
    · refine ⟨g, off, rfl, fun W hW => ⟨row_load hr hg hW hk, ?_⟩⟩
      have hx := (fldI (row_at (rangeAt_below hr (hW.block g hg)) hk)).gone
      go_simp)
  have HC : Hid (∀ (k : Nat) (W : World), Calls Tryz.prog 43 #[.agg (encI L[k]!).toArray, .int .u64 (now : Int)] W fun e w' => e = .returned (.bool (aliveI L[k]! now)) ∧ Below W.heap.size W w') := Lib.hid (fun k W => ralive_any L[k]! now W)
  have HFN := Lib.hid (filter_next L (liveI now))
  have HSRC : Hid (∀ (y : Ins) (W : World), Src Tryz.prog 28 22 (.slice (some ⟨W.heap.size, 0, none⟩) 1 1) [y].length (flatE encI [y]) (W.alloc (.cells (encI y).toArray 29))) := Lib.hid (fun y W => src_newI insT y W)
  have HLN : Hid (∀ (k : Nat) (y : Ins), ((L.take k).filter (liveI now)).length + [y].length ≤ 1000000) := Lib.hid (fun k y => by
    have h1 := List.length_filter_le (liveI now) (L.take k)
    rw [List.length_take] at h1
    simp only [List.length_singleton]
    omega)
  have R0 : Hid (GroR w w (.slice none 0 0) ((L.take 0).filter (liveI now))) := Lib.hid (GroR.start w)
  have HEND : Hid (∀ W v, GroR w W v ((L.take L.length).filter (liveI now)) → OwnR w (L.filter (liveI now)) W v) := Lib.hid (fun W v h => by rw [List.take_length] at h; exact h.out (Below.refl _ _))
  have HQ : Hid (∀ y : Ins, liveI now y = (aliveI y now && !y.gone)) := Lib.hid (fun y => rfl)
  generalize hn : L.length = n at *
  generalize hq : liveI now = q at *
  clear hA hq
  go_enter Tryz.func19, Tryz.ntmps19
  go_wp2
  go_loopw [5, 6] (fun u5 i wr => ∃ (k : Nat) (v : Value), u5 = v ∧ i = .int .i64 (k : Int) ∧ k ≤ n ∧ GroR w wr v ((L.take k).filter q)) (fun _ i _ => n - (RowKit.intOf i).toNat)
  case atStart => exact ⟨0, _, rfl, rfl, by omega, R0.out⟩
  case round =>
    obtain ⟨k, v, e5, rfl, hk, hG⟩ := hrel
    obtain rfl := e5.symm
    clear R0
    by_cases hlt : k < n
    · have hlt' : (k : Int) < (n : Int) := by omega
      obtain ⟨b, off, rfl, hld⟩ := HLD.out k hlt
      have HLK := Lib.hid hld
      have HCK := Lib.hid (HC.out k)
      have hfn := HFN.out k (by omega)
      have hqy := HQ.out L[k]!
      have HLE := Lib.hid (HLN.out k L[k]!)
      have HG := Lib.hid hG
      clear HLD HC HFN HQ HLN HEND hld hG
      generalize L[k]! = Y at *
      generalize hP : (L.take k).filter q = P at *
      clear hP
      cases ha : aliveI Y now
      · rw [ha] at hqy HCK
        clear ha
        have hy : q Y = false := by rw [hqy]; rfl
        rw [hy] at hfn
        simp only [Bool.false_eq_true, if_false, List.append_nil] at hfn
        have HX := Lib.hid hfn
        clear hfn hqy hy
        go_wp2_with (first
                | ((with_reducible refine wpList_loadV (op := ⟨some 16, _, _, _, _, _⟩) rfl 29 (.tmp 15) rfl _ ?_ _ ((HLK.out _ HG.out.be).1) ?_); rfl)
                | (go_at_call 43; (with_reducible refine (HCK.out _).mono ?_); rintro e w18 ⟨rfl, hb18⟩; have g18 := HG.out.bel hb18))
        go_roundw
        case rel => exact ⟨k + 1, _, rfl, by go_num, by omega, by rw [HX.out]; exact g18⟩
        case measure => simp [RowKit.intOf]; omega
      · rw [ha] at hqy HCK
        clear ha
        cases hgo : Y.gone
        · rw [hgo] at hqy HLK
          clear hgo
          have hy : q Y = true := by rw [hqy]; rfl
          rw [hy] at hfn
          simp only [if_true] at hfn
          have HX := Lib.hid hfn
          clear hfn hqy hy
          go_wp2_with (first
                  | ((with_reducible refine wpList_loadV (op := ⟨some 16, _, _, _, _, _⟩) rfl 29 (.tmp 15) rfl _ ?_ _ ((HLK.out _ HG.out.be).1) ?_); rfl)
                  | (go_at_call 43; (with_reducible refine (HCK.out _).mono ?_); rintro e w18 ⟨rfl, hb18⟩; have g18 := HG.out.bel hb18)
                  | ((with_reducible refine wpList_loadG (o := ⟨some 24, _, _, _, _, _⟩) rfl 4 (.tmp 23) rfl _ ?_ _ ((HLK.out _ g18.be).2) ?_); rfl)
                  | ((with_reducible refine wpList_loadV (op := ⟨some 31, _, _, _, _, _⟩) rfl 29 (.tmp 30) rfl _ ?_ _ ((HLK.out _ g18.be).1) ?_); rfl)
                  | ((with_reducible refine wpList_build_oneI insT Y (o := ⟨some 32, _, _, _, _, _⟩) rfl (.tmp 31) rfl ?_ ?_); rfl)
                  | (refine wpList_append_ins insT rfl (.tmp 27) (.tmp 32) rfl w.heap.size _ P [Y] rfl (g18.lay Y).1.own _ rfl (HSRC.out Y _) HLE.out (g18.lay Y).2 ?_; intro v33 w33 ho33 hg33; have g33 := (g18.lay Y).1.push [Y] hg33 ho33))
          go_roundw
          case rel => exact ⟨k + 1, _, rfl, by go_num, by omega, by rw [HX.out]; exact g33⟩
          case measure => simp [RowKit.intOf]; omega
        · rw [hgo] at hqy HLK
          clear hgo
          have hy : q Y = false := by rw [hqy]; rfl
          rw [hy] at hfn
          simp only [Bool.false_eq_true, if_false, List.append_nil] at hfn
          have HX := Lib.hid hfn
          clear hfn hqy hy
          go_wp2_with (first
                  | ((with_reducible refine wpList_loadV (op := ⟨some 16, _, _, _, _, _⟩) rfl 29 (.tmp 15) rfl _ ?_ _ ((HLK.out _ HG.out.be).1) ?_); rfl)
                  | (go_at_call 43; (with_reducible refine (HCK.out _).mono ?_); rintro e w18 ⟨rfl, hb18⟩; have g18 := HG.out.bel hb18)
                  | ((with_reducible refine wpList_loadG (o := ⟨some 24, _, _, _, _, _⟩) rfl 4 (.tmp 23) rfl _ ?_ _ ((HLK.out _ g18.be).2) ?_); rfl))
          go_roundw
          case rel => exact ⟨k + 1, _, rfl, by go_num, by omega, by rw [HX.out]; exact g18⟩
          case measure => simp [RowKit.intOf]; omega
    · obtain rfl : k = n := by omega
      have HE := Lib.hid (HEND.out _ _ hG)
      clear HLD HC HFN HQ HLN HEND hG
      go_wp2
      go_ret
      exact ⟨_, rfl, HE.out⟩
theorem rsweep_any (A : Option Addr) (c : Nat) (L : List Ins) (now : Nat) (w : World) (hl : L.length ≤ 10000) (hA : IAt w w.heap.size A L) :
    Calls Tryz.prog 21 #[.slice A L.length c, .int .u64 (now : Int)] w fun e w' => ∃ v, e = .returned v ∧ OwnR w (L.filter (swepI now)) w' v := by
  have HLD : Hid (∀ k, k < L.length → ∃ g off, A = some ⟨g, off, none⟩ ∧ ∀ W, Below w.heap.size w W → (loadVar 29 ⟨g, off + k * 28, none⟩).run Tryz.prog W = .ok (.agg (encI L[k]!).toArray) W ∧ (loadVar 4 ⟨g, off + k * 28 + 23, none⟩).run Tryz.prog W = .ok (.bool L[k]!.gone) W) := Lib.hid (fun k hk => by
    rcases hA with rfl | ⟨g, off, rfl, hg, hr⟩
    · simp at hk
    · refine ⟨g, off, rfl, fun W hW => ⟨row_load hr hg hW hk, ?_⟩⟩
      have hx := (fldI (row_at (rangeAt_below hr (hW.block g hg)) hk)).gone
      go_simp)
  have HC : Hid (∀ (k : Nat) (W : World), Calls Tryz.prog 46 #[.agg (encI L[k]!).toArray, .int .u64 (now : Int)] W fun e w' => e = .returned (.bool (overI L[k]! now)) ∧ Below W.heap.size W w') := Lib.hid (fun k W => rover_any L[k]! now W)
  have HFN := Lib.hid (filter_next L (swepI now))
  have HSRC : Hid (∀ (y : Ins) (W : World), Src Tryz.prog 28 22 (.slice (some ⟨W.heap.size, 0, none⟩) 1 1) [y].length (flatE encI [y]) (W.alloc (.cells (encI y).toArray 29))) := Lib.hid (fun y W => src_newI insT y W)
  have HLN : Hid (∀ (k : Nat) (y : Ins), ((L.take k).filter (swepI now)).length + [y].length ≤ 1000000) := Lib.hid (fun k y => by
    have h1 := List.length_filter_le (swepI now) (L.take k)
    rw [List.length_take] at h1
    simp only [List.length_singleton]
    omega)
  have R0 : Hid (GroR w w (.slice none 0 0) ((L.take 0).filter (swepI now))) := Lib.hid (GroR.start w)
  have HEND : Hid (∀ W v, GroR w W v ((L.take L.length).filter (swepI now)) → OwnR w (L.filter (swepI now)) W v) := Lib.hid (fun W v h => by rw [List.take_length] at h; exact h.out (Below.refl _ _))
  have HQ : Hid (∀ y : Ins, swepI now y = !overI y now) := Lib.hid (fun y => rfl)
  generalize hn : L.length = n at *
  generalize hq : swepI now = q at *
  clear hA hq
  go_enter Tryz.func21, Tryz.ntmps21
  go_wp2
  go_loopw [5, 6] (fun u5 i wr => ∃ (k : Nat) (v : Value), u5 = v ∧ i = .int .i64 (k : Int) ∧ k ≤ n ∧ GroR w wr v ((L.take k).filter q)) (fun _ i _ => n - (RowKit.intOf i).toNat)
  case atStart => exact ⟨0, _, rfl, rfl, by omega, R0.out⟩
  case round =>
    obtain ⟨k, v, e5, rfl, hk, hG⟩ := hrel
    obtain rfl := e5.symm
    clear R0
    by_cases hlt : k < n
    · have hlt' : (k : Int) < (n : Int) := by omega
      obtain ⟨b, off, rfl, hld⟩ := HLD.out k hlt
      have HLK := Lib.hid hld
      have HCK := Lib.hid (HC.out k)
      have hfn := HFN.out k (by omega)
      have hqy := HQ.out L[k]!
      have HLE := Lib.hid (HLN.out k L[k]!)
      have HG := Lib.hid hG
      clear HLD HC HFN HQ HLN HEND hld hG
      generalize L[k]! = Y at *
      generalize hP : (L.take k).filter q = P at *
      clear hP
      cases ha : overI Y now
      · rw [ha] at hqy HCK
        clear ha
        have hy : q Y = true := by rw [hqy]; rfl
        rw [hy] at hfn
        simp only [if_true] at hfn
        have HX := Lib.hid hfn
        clear hfn hqy hy
        go_wp2_with (first
                | ((with_reducible refine wpList_loadV (op := ⟨some 16, _, _, _, _, _⟩) rfl 29 (.tmp 15) rfl _ ?_ _ ((HLK.out _ HG.out.be).1) ?_); rfl)
                | (go_at_call 46; (with_reducible refine (HCK.out _).mono ?_); rintro e w18 ⟨rfl, hb18⟩; have g18 := HG.out.bel hb18)
                | ((with_reducible refine wpList_loadV (op := ⟨some 24, _, _, _, _, _⟩) rfl 29 (.tmp 23) rfl _ ?_ _ ((HLK.out _ g18.be).1) ?_); rfl)
                | ((with_reducible refine wpList_build_oneI insT Y (o := ⟨some 25, _, _, _, _, _⟩) rfl (.tmp 24) rfl ?_ ?_); rfl)
                | (refine wpList_append_ins insT rfl (.tmp 20) (.tmp 25) rfl w.heap.size _ P [Y] rfl (g18.lay Y).1.own _ rfl (HSRC.out Y _) HLE.out (g18.lay Y).2 ?_; intro v33 w33 ho33 hg33; have g33 := (g18.lay Y).1.push [Y] hg33 ho33))
        go_roundw
        case rel => exact ⟨k + 1, _, rfl, by go_num, by omega, by rw [HX.out]; exact g33⟩
        case measure => simp [RowKit.intOf]; omega
      · rw [ha] at hqy HCK
        clear ha
        have hy : q Y = false := by rw [hqy]; rfl
        rw [hy] at hfn
        simp only [Bool.false_eq_true, if_false, List.append_nil] at hfn
        have HX := Lib.hid hfn
        clear hfn hqy hy
        go_wp2_with (first
                | ((with_reducible refine wpList_loadV (op := ⟨some 16, _, _, _, _, _⟩) rfl 29 (.tmp 15) rfl _ ?_ _ ((HLK.out _ HG.out.be).1) ?_); rfl)
                | (go_at_call 46; (with_reducible refine (HCK.out _).mono ?_); rintro e w18 ⟨rfl, hb18⟩; have g18 := HG.out.bel hb18))
        go_roundw
        case rel => exact ⟨k + 1, _, rfl, by go_num, by omega, by rw [HX.out]; exact g18⟩
        case measure => simp [RowKit.intOf]; omega
    · obtain rfl : k = n := by omega
      have HE := Lib.hid (HEND.out _ _ hG)
      clear HLD HC HFN HQ HLN HEND hG
      go_wp2
      go_ret
      exact ⟨_, rfl, HE.out⟩
end Go.Proofs.YtkceipkgebgigaaGreat
end
