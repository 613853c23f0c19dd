/- Contract of Parse of package addr. Conditions: at most 1000 bytes. -/
import Derived.Test.YtieeffebecghiaaDoorAph
namespace Go.Proofs.YtieeffebecghiaaDoor
set_option maxRecDepth 100000
set_option maxHeartbeats 1000000
open Go.RowKit Go.Lib Go.Great

theorem mark_cut (j : Nat) (hj : j < 4) : (⟨#[46, 46, 46, 58]⟩ : ByteArray).extract j (j + 1) = ⟨#[mkB j]⟩ := by
  have : j = 0 ∨ j = 1 ∨ j = 2 ∨ j = 3 := by omega
  rcases this with rfl | rfl | rfl | rfl <;> rfl
def PaR2 (w : World) (s : List UInt8) (ho re i : Value) (wr : World) : Prop := ∃ (j hN : Nat) (r : List UInt8), j ≤ 4 ∧ i = .int .i64 (j : Int) ∧ ho = .int .u64 (hN : Int) ∧ re = .string (bsA r) ∧ PInv s j hN r ∧ wr.heap[w.heap.size]? = some (.cells #[.int .u32 0, .int .u16 0] 25 (0, 0)) ∧ Below w.heap.size w wr
def PaP (s : List UInt8) (e : Ending) : Prop := ∃ v, e = .returned v ∧ ParseIs s v
theorem end25 {w wk : World} (r : wk.heap[w.heap.size]? = some (.cells #[.int .u32 0, .int .u16 0] 25 (0, 0))) (hb : Below w.heap.size w wk) (a b : Value) :
    wk.frozen? ⟨w.heap.size, 0, none⟩ = false ∧ wk.frozen? ⟨w.heap.size, 1, none⟩ = false ∧ wk.cell? ⟨w.heap.size, 0, none⟩ = some (.int .u32 0) ∧ wk.cell? ⟨w.heap.size, 1, none⟩ = some (.int .u16 0) ∧
      ((wk.setCell ⟨w.heap.size, 0, none⟩ a).setCell ⟨w.heap.size, 1, none⟩ b).rangeAt w.heap.size 0 [a, b] ∧ Below w.heap.size w ((wk.setCell ⟨w.heap.size, 0, none⟩ a).setCell ⟨w.heap.size, 1, none⟩ b) := by
  have s1 := heap_setCell_same wk w.heap.size 0 _ 25 a r
  have s2 := heap_setCell_same _ w.heap.size 1 _ 25 b s1
  exact ⟨frozen_of_row wk w.heap.size 0 _ 25 r, frozen_of_row wk w.heap.size 1 _ 25 r, by rw [cell_of_row _ _ 0 _ 25 (0, 0) r]; rfl, by rw [cell_of_row _ _ 1 _ 25 (0, 0) r]; rfl, row_range (cs := [a, b]) s2, (hb.setCell (p := ⟨w.heap.size, 0, none⟩) (by simp) a).setCell (p := ⟨w.heap.size, 1, none⟩) (by simp) b⟩
theorem parse_any (s : List UInt8) (hs : s.length ≤ 1000) (w : World) : Calls Tryd.prog 15 #[.string (bsA s)] w fun e w' => PaP s e ∧ Below w.heap.size w w' := by
  have h0 := heap_alloc_new w (.cells #[.int .u32 0, .int .u16 0] 25)
  have hb0 : Below w.heap.size w (w.alloc (.cells #[.int .u32 0, .int .u16 0] 25)) := (Below.refl _ w).alloc (Nat.le_refl _) _
  have R0 : Hid (PaR2 w s (.int .u64 0) (.string (bsA s)) (.int .i64 0) (w.alloc (.cells #[.int .u32 0, .int .u16 0] 25))) := Lib.hid ⟨0, 0, s, by omega, rfl, rfl, rfl, PInv.start s, h0, hb0⟩
  have HS := Lib.hid hs
  clear h0 hb0 hs
  generalize hB : bsA s = B at R0 ⊢
  clear hB
  go_enter Tryd.func15, Tryd.ntmps15
  go_upto_region 4 with fail
  go_loopw [4, 5, 16] (PaR2 w s) (fun _ _ i _ => 4 - (RowKit.intOf i).toNat)
  case atStart => exact R0.out
  case round =>
    obtain ⟨j, hN, r, hj, rfl, rfl, rfl, hI, hrow, hb⟩ := hrel
    clear R0
    have HI := Lib.hid hI
    have HB := Lib.hid hb
    have HROW := Lib.hid hrow
    have hlim := hI.lt
    have hs := HS.out
    by_cases hlt : j < 4
    · have HC := Lib.hid (cut_any r (mkB j) (by omega) wr)
      rw [← mark_cut j hlt] at HC
      have hj1 : (j : Int) + 1 ≤ 4 := by omega
      clear hI hrow hb
      go_upto_region 6 with fail
      go_wp2_with (go_at_call 23; refine Hid.out ?_)
      refine Lib.hid ?_
      refine HC.out.mono ?_
      rintro e w2 ⟨⟨a, b, hr, ha, rfl⟩ | ⟨hno, rfl⟩, hb2⟩
      · have HNU := Lib.hid (number_any a 255 w2)
        have HR := Lib.hid hr
        have HA := Lib.hid ha
        have HB2 := Lib.hid hb2
        clear hr ha hb2 HC
        go_upto_region 7 with fail
        go_wp2_with (go_at_call 24; refine Hid.out ?_)
        refine Lib.hid ?_
        refine HNU.out.mono ?_
        rintro e w3 ⟨⟨n, q, rfl, hn9, hR⟩, hb3⟩
        have hbX := HB2.out.trans (hb3.mono HB2.out.size)
        clear hb3 HB2 HNU
        cases q
        · have HNO : Hid (∀ h p : Nat, h < 4294967296 → p < 65536 → adT h p ≠ s) := Lib.hid (HI.out.none hlt (.inr ⟨a, b, HR.out, HA.out, fun m hm e => by have := (hR.2 m hm (by omega) e).1; cases this⟩))
          clear hR HR HA
          have HP : Hid (ParseIs s (.tuple #[.agg #[.int .u32 0, .int .u16 0], .int .i64 10])) := Lib.hid (parse_no HNO.out)
          obtain ⟨f0, f1, z0, z1, hq, hf⟩ := end25 ((hbX.block _ (Array.getElem?_eq_some_iff.1 HROW.out).1).trans HROW.out) (HB.out.trans (hbX.mono HB.out.size)) (.int .u32 0) (.int .u16 0)
          have HQ := Lib.hid hq
          have HF := Lib.hid hf
          clear hq hf hbX HNO HROW HB HI
          go_wp2
          refine bodyPost_ret (v := .tuple #[.agg #[.int .u32 0, .int .u16 0], .int .i64 10]) ?_ rfl ?_
          · exact results_cell_tmpS (p := 2) (ty := 25) (q := 3) rfl _ _ w.heap.size 0 [.int .u32 0, .int .u16 0] _ (.int .i64 10) rfl rfl HQ.out Tryd.underlying25 rfl size25
          · exact ⟨⟨_, rfl, HP.out⟩, HF.out⟩
        · obtain ⟨hn255, hdn⟩ := hR.1 rfl
          have HST := Lib.hid (HI.out.step hlt HR.out HA.out hn255 hdn)
          have hlt2 : hN < 72057594037927936 := Nat.lt_of_lt_of_le hlim.1 (Nat.le_trans (Nat.pow_le_pow_right (by omega) hj) (by decide))
          have HOR : Hid (bits BinOp.or IntKind.u64 ((hN : Int) * 256) (n : Int) = ((hN * 256 + n : Nat) : Int)) := Lib.hid (by
            have := or_byte hN n hlt2 (by omega)
            rwa [show IntKind.u64.wrap (n : Int) = (n : Int) by rw [IntKind.wrap_u64]; omega, show IntKind.u64.wrap ((hN : Int) * 256) = (hN : Int) * 256 by rw [IntKind.wrap_u64]; omega] at this)
          have HRO := Lib.hid ((hbX.block _ (Array.getElem?_eq_some_iff.1 HROW.out).1).trans HROW.out)
          have HBX := Lib.hid (HB.out.trans (hbX.mono HB.out.size))
          clear hR HR HA hbX hdn HI HB HROW hlim
          go_wp2
          go_roundw
          case rel => exact ⟨j + 1, hN * 256 + n, b, by omega, by go_num, by rw [HOR.out], rfl, HST.out, HRO.out, HBX.out⟩
          case measure => simp [RowKit.intOf]; omega
      · have HNU := Lib.hid (number_any r 255 w2)
        have HNO : Hid (∀ h p : Nat, h < 4294967296 → p < 65536 → adT h p ≠ s) := Lib.hid (HI.out.none hlt (.inl hno))
        have HB2 := Lib.hid hb2
        clear hno hb2 HC
        go_upto_region 7 with fail
        go_wp2_with (go_at_call 24; refine Hid.out ?_)
        refine Lib.hid ?_
        refine HNU.out.mono ?_
        rintro e w3 ⟨⟨n, q, rfl, hn9, hR⟩, hb3⟩
        have hbX := HB2.out.trans (hb3.mono HB2.out.size)
        clear hb3 HB2 HNU hR
        have HP : Hid (ParseIs s (.tuple #[.agg #[.int .u32 0, .int .u16 0], .int .i64 10])) := Lib.hid (parse_no HNO.out)
        obtain ⟨f0, f1, z0, z1, hq, hf⟩ := end25 ((hbX.block _ (Array.getElem?_eq_some_iff.1 HROW.out).1).trans HROW.out) (HB.out.trans (hbX.mono HB.out.size)) (.int .u32 0) (.int .u16 0)
        have HQ := Lib.hid hq
        have HF := Lib.hid hf
        clear hq hf hbX HNO HROW HB HI
        go_wp2
        refine bodyPost_ret (v := .tuple #[.agg #[.int .u32 0, .int .u16 0], .int .i64 10]) ?_ rfl ?_
        · exact results_cell_tmpS (p := 2) (ty := 25) (q := 3) rfl _ _ w.heap.size 0 [.int .u32 0, .int .u16 0] _ (.int .i64 10) rfl rfl HQ.out Tryd.underlying25 rfl size25
        · exact ⟨⟨_, rfl, HP.out⟩, HF.out⟩
    · obtain rfl : j = 4 := by omega
      have HNU := Lib.hid (number_any r 65535 wr)
      have hh : hN < 4294967296 := hlim.1
      have hwh : IntKind.u32.wrap (hN : Int) = (hN : Int) := by rw [IntKind.wrap_u32]; omega
      clear hI hrow hb
      go_upto_region 13 with fail
      go_wp2_with (go_at_call 24; refine Hid.out ?_)
      refine Lib.hid ?_
      refine HNU.out.mono ?_
      rintro e w3 ⟨⟨n, q, rfl, hn9, hR⟩, hbX⟩
      clear HNU
      cases q
      · have HNO : Hid (∀ h p : Nat, h < 4294967296 → p < 65536 → adT h p ≠ s) := Lib.hid (HI.out.bad (fun m hm e => by have := (hR.2 m hm (by omega) e).1; cases this))
        have HP : Hid (ParseIs s (.tuple #[.agg #[.int .u32 0, .int .u16 0], .int .i64 10])) := Lib.hid (parse_no HNO.out)
        have c4 : Below w3.heap.size w3 (w3.alloc (.cells #[.int .u32 (hN : Int), .int .u16 (IntKind.u16.wrap (n : Int))] 25)) := (Below.refl _ w3).alloc (Nat.le_refl _) _
        have hbY := hbX.trans (c4.mono hbX.size)
        have hE := end25 ((hbY.block _ (Array.getElem?_eq_some_iff.1 HROW.out).1).trans HROW.out) (HB.out.trans (hbY.mono HB.out.size)) (.int .u32 0) (.int .u16 0)
        have HE := Lib.hid hE
        clear hbX hbY c4 HNO HROW HB HI hR hE
        go_upto_region 15 with fail
        generalize w3.alloc (.cells #[.int .u32 (hN : Int), .int .u16 (IntKind.u16.wrap (n : Int))] 25) = W4 at HE ⊢
        obtain ⟨f0, f1, z0, z1, hq, hf⟩ := HE.out
        have HQ := Lib.hid hq
        have HF := Lib.hid hf
        clear hq hf HE
        go_wp2
        refine bodyPost_ret (v := .tuple #[.agg #[.int .u32 0, .int .u16 0], .int .i64 10]) ?_ rfl ?_
        · exact results_cell_tmpS (p := 2) (ty := 25) (q := 3) rfl _ _ w.heap.size 0 [.int .u32 0, .int .u16 0] _ (.int .i64 10) rfl rfl HQ.out Tryd.underlying25 rfl size25
        · exact ⟨⟨_, rfl, HP.out⟩, HF.out⟩
      · obtain ⟨hn, hdn⟩ := hR.1 rfl
        obtain ⟨_, hT⟩ := HI.out.last hn hdn
        have hwn : IntKind.u16.wrap (n : Int) = (n : Int) := by rw [IntKind.wrap_u16]; omega
        have n4 := heap_alloc_new w3 (.cells #[.int .u32 (hN : Int), .int .u16 (n : Int)] 25)
        have c4 : Below w3.heap.size w3 (w3.alloc (.cells #[.int .u32 (hN : Int), .int .u16 (n : Int)] 25)) := (Below.refl _ w3).alloc (Nat.le_refl _) _
        have hbY := HB.out.trans ((hbX.trans (c4.mono hbX.size)).mono HB.out.size)
        have hrw := ((hbX.trans (c4.mono hbX.size)).block _ (Array.getElem?_eq_some_iff.1 HROW.out).1).trans HROW.out
        have HG : Hid (∀ W, Calls Tryd.prog 6 #[.agg #[.int .u32 (hN : Int), .int .u16 (n : Int)]] W fun e w' => e = .returned (.bool (goodB hN n)) ∧ Below W.heap.size W w') := Lib.hid (fun W => good_any hN n W)
        have HGD : Hid (goodB hN n = decide (hN ≠ 0 ∧ n ≠ 0)) := Lib.hid rfl
        have HT := Lib.hid hT
        clear hR hT hdn HROW HB HI hbX
        go_upto_region 15 with fail
        generalize w3.alloc (.cells #[.int .u32 (hN : Int), .int .u16 (n : Int)] 25) = W4 at n4 c4 hbY hrw ⊢
        generalize w3.heap.size = g4 at n4 c4 ⊢
        have HL : Hid (∀ W, Below W4.heap.size W4 W → (loadVar 25 ⟨g4, 0, none⟩).run Tryd.prog W = .ok (.agg #[.int .u32 (hN : Int), .int .u16 (n : Int)]) W) := Lib.hid (fun W hW => run_loadVar_mid W g4 0 25 [.int .u32 (hN : Int), .int .u16 (n : Int)] _ (row_range (cs := [.int .u32 (hN : Int), .int .u16 (n : Int)]) ((hW.block _ (Array.getElem?_eq_some_iff.1 n4).1).trans n4)) Tryd.underlying25 rfl size25)
        have HL4 := Lib.hid (HL.out W4 (Below.refl _ _))
        have HZ : Hid (∀ W, Below W4.heap.size W4 W → W.heap[w.heap.size]? = some (.cells #[.int .u32 0, .int .u16 0] 25 (0, 0))) := Lib.hid (fun W hW => (hW.block _ (Array.getElem?_eq_some_iff.1 hrw).1).trans hrw)
        have HBY := Lib.hid hbY
        clear n4 c4 hbY hrw
        by_cases hg : hN ≠ 0 ∧ n ≠ 0
        · rw [HGD.out, decide_eq_true hg] at HG
          have HP : Hid (ParseIs s (.tuple #[.agg #[.int .u32 (hN : Int), .int .u16 (n : Int)], .int .i64 0])) := Lib.hid (.inl ⟨hN, n, hh, by omega, hg.1, hg.2, HT.out, rfl⟩)
          clear hg HGD
          go_upto_region 17 with (first
            | ((with_reducible refine wpList_loadG (op := ⟨some 60, _, _, _, _, _⟩) rfl 25 (.tmp 14) rfl _ ?_ _ HL4.out ?_); rfl)
            | (go_at_call 6; (with_reducible refine (HG.out _).mono ?_); rintro e w6 ⟨rfl, hb6⟩))
          have HL6 := Lib.hid (HL.out w6 hb6)
          obtain ⟨f0, f1, z0, z1, hq, hf⟩ := end25 (HZ.out w6 hb6) (HBY.out.trans (hb6.mono HBY.out.size)) (.int .u32 (hN : Int)) (.int .u16 (n : Int))
          have HQ := Lib.hid hq
          have HF := Lib.hid hf
          clear hq hf hb6
          go_wp2_with ((with_reducible refine wpList_loadV (op := ⟨some 65, _, _, _, _, _⟩) rfl 25 (.tmp 14) rfl _ ?_ _ HL6.out ?_); rfl)
          refine bodyPost_ret (v := .tuple #[.agg #[.int .u32 (hN : Int), .int .u16 (n : Int)], .int .i64 0]) ?_ rfl ?_
          · exact results_cell_tmpS (p := 2) (ty := 25) (q := 3) rfl _ _ w.heap.size 0 [.int .u32 (hN : Int), .int .u16 (n : Int)] _ (.int .i64 0) rfl rfl HQ.out Tryd.underlying25 rfl size25
          · exact ⟨⟨_, rfl, HP.out⟩, HF.out⟩
        · rw [HGD.out, decide_eq_false hg] at HG
          have HP : Hid (ParseIs s (.tuple #[.agg #[.int .u32 0, .int .u16 0], .int .i64 10])) := Lib.hid (.inr ⟨fun h' p' h1 h2 h3 h4 e => by
            obtain ⟨e1, e2⟩ := adT_inj h1 h2 hh (by omega) (e.trans HT.out.symm)
            exact hg ⟨by omega, by omega⟩, rfl⟩)
          clear hg HGD
          go_upto_region 16 with (first
            | ((with_reducible refine wpList_loadG (op := ⟨some 60, _, _, _, _, _⟩) rfl 25 (.tmp 14) rfl _ ?_ _ HL4.out ?_); rfl)
            | (go_at_call 6; (with_reducible refine (HG.out _).mono ?_); rintro e w6 ⟨rfl, hb6⟩))
          obtain ⟨f0, f1, z0, z1, hq, hf⟩ := end25 (HZ.out w6 hb6) (HBY.out.trans (hb6.mono HBY.out.size)) (.int .u32 0) (.int .u16 0)
          have HQ := Lib.hid hq
          have HF := Lib.hid hf
          clear hq hf hb6
          go_wp2_with fail
          refine bodyPost_ret (v := .tuple #[.agg #[.int .u32 0, .int .u16 0], .int .i64 10]) ?_ rfl ?_
          · exact results_cell_tmpS (p := 2) (ty := 25) (q := 3) rfl _ _ w.heap.size 0 [.int .u32 0, .int .u16 0] _ (.int .i64 10) rfl rfl HQ.out Tryd.underlying25 rfl size25
          · exact ⟨⟨_, rfl, HP.out⟩, HF.out⟩
end Go.Proofs.YtieeffebecghiaaDoor
