/- Contract of the reference's Parse of layer addr. Conditions: a text of fewer than 1000 bytes. -/
import Derived.Test.YtieeffebecghiaaDoorPArg
namespace Go.Proofs.YtieeffebecghiaaDoor
set_option maxRecDepth 100000
set_option maxHeartbeats 1000000
open Go.RowKit Go.Lib Go.Great

theorem end53 {w wk : World} (r : wk.heap[w.heap.size]? = some (.cells #[.int .u32 0, .int .u16 0] 28 (0, 0))) (hb : Below w.heap.size w wk) (a b : Value) :
    wk.frozen? ⟨w.heap.size, 0, none⟩ = false ∧ wk.frozen? ⟨w.heap.size, 1, none⟩ = false ∧ wk.cell? ⟨w.heap.size, 0, none⟩ = some (.int .u32 0) ∧ wk.cell? ⟨w.heap.size, 1, none⟩ = some (.int .u16 0) ∧
      ((wk.setCell ⟨w.heap.size, 0, none⟩ a).setCell ⟨w.heap.size, 1, none⟩ b).rangeAt w.heap.size 0 [a, b] ∧ Below w.heap.size w ((wk.setCell ⟨w.heap.size, 0, none⟩ a).setCell ⟨w.heap.size, 1, none⟩ b) := by
  have s1 := heap_setCell_same wk w.heap.size 0 _ 28 a r
  have s2 := heap_setCell_same _ w.heap.size 1 _ 28 b s1
  refine ⟨frozen_of_row wk w.heap.size 0 _ 28 r, frozen_of_row wk w.heap.size 1 _ 28 r, by rw [cell_of_row _ _ 0 _ 28 (0, 0) r]; rfl, by rw [cell_of_row _ _ 1 _ 28 (0, 0) r]; rfl, row_range (cs := [a, b]) s2, ?_⟩
  exact (hb.setCell (p := ⟨w.heap.size, 0, none⟩) (by simp) a).setCell (p := ⟨w.heap.size, 1, none⟩) (by simp) b

theorem rparse_long (s : List UInt8) (hs : 21 < s.length) (w : World) : Calls Tryd.prog 16 #[.string (bsA s)] w fun e w' => (∃ v, e = .returned v ∧ ParseIs s v) ∧ Below w.heap.size w w' := by
  have hsz := bsA_size s
  have HP : Hid (ParseIs s (.tuple #[.agg (adr 0 0), .int .i64 10])) := Lib.hid (parse_no (fun h p hh hp e => by have := (parse_nums hh hp e).1; omega))
  generalize bsA s = B at hsz ⊢
  have hl : (21 : Int) < (B.size : Int) := by omega
  have hl' : (21 : Int) < (s.length : Int) := by omega
  go_enter Tryd.func16, Tryd.ntmps16
  go_wp2
  refine bodyPost_ret (v := .tuple #[.agg #[.int .u32 0, .int .u16 0], .int .i64 10]) ?_ rfl ?_
  · exact results_cell_tmpS (p := 2) (ty := 28) (q := 3) rfl _ _ w.heap.size 0 [.int .u32 0, .int .u16 0] _ (.int .i64 10) rfl rfl (row_range (heap_alloc_new w _)) Tryd.underlying28 rfl size53
  · exact ⟨⟨_, rfl, HP.out⟩, (Below.refl _ w).alloc (Nat.le_refl _) _⟩

def PaRel (W : World) (N : List Nat) (h i : Value) (wr : World) : Prop := ∃ j : Nat, j ≤ 4 ∧ i = .int .i64 (j : Int) ∧ h = .int .u32 (hostN (N.take j) : Int) ∧ (∀ q, q < j → ∀ n, N[q]? = some n → n ≤ 255) ∧ wr = W
theorem hostN_snoc (L : List Nat) (n : Nat) : hostN (L ++ [n]) = (hostN L * 256 + n) % 4294967296 := by simp [hostN]
theorem hostN_lt (L : List Nat) : hostN L < 4294967296 := by
  rcases List.eq_nil_or_concat L with e | ⟨M, a, e⟩
  · rw [e]; decide
  · rw [e, List.concat_eq_append, hostN_snoc]
    omega
theorem rparse_short (s : List UInt8) (hs : s.length ≤ 21) (w : World) : Calls Tryd.prog 16 #[.string (bsA s)] w fun e w' => (∃ v, e = .returned v ∧ ParseIs s v) ∧ Below w.heap.size w w' := by
  have hsz := bsA_size s
  have h0 := heap_alloc_new w (.cells #[.int .u32 0, .int .u16 0] 28)
  have hb0 : Below w.heap.size w (w.alloc (.cells #[.int .u32 0, .int .u16 0] 28)) := (Below.refl _ w).alloc (Nat.le_refl _) _
  have HNU := Lib.hid (rnums_any s (by omega) (w.alloc (.cells #[.int .u32 0, .int .u16 0] 28)))
  obtain ⟨B, hB⟩ : ∃ B, B = bsA s := ⟨_, rfl⟩
  rw [← hB] at hsz HNU ⊢
  have HBS := Lib.hid hB
  have hl : ¬ (21 : Int) < (B.size : Int) := by omega
  have hl' : ¬ (21 : Int) < (s.length : Int) := by omega
  have HH0 := Lib.hid h0
  have HB0 := Lib.hid hb0
  have HG0 : Hid (w.heap.size < (w.alloc (.cells #[.int .u32 0, .int .u16 0] 28)).heap.size) := Lib.hid (by simp)
  have HPN : Hid (∀ h p : Nat, h < 4294967296 → p < 65536 → adT h p = s → ∃ a b c d : Nat, (numsL s).1 = [a, b, c, d, p] ∧ a ≤ 255 ∧ b ≤ 255 ∧ c ≤ 255 ∧ d ≤ 255 ∧ hostN [a, b, c, d] = h) := Lib.hid (fun h p hh hp e => (parse_nums hh hp e).2)
  generalize (numsL s).1 = N at HNU HPN
  clear h0 hb0 hB
  go_enter Tryd.func16, Tryd.ntmps16
  go_upto_region 4 with (go_at_call 25; (with_reducible refine HNU.out.mono ?_); rintro e w1 ⟨v4, rfl, hown, hb1⟩)
  obtain ⟨A, c, rfl, _, hA⟩ := nat_own hown
  have r1 := (hb1.block w.heap.size HG0.out).trans HH0.out
  have hbw := HB0.out.trans (hb1.mono HB0.out.size)
  have HA := Lib.hid hA
  have HR1 := Lib.hid r1
  have HBW := Lib.hid hbw
  clear hown hb1 hA HNU r1 hbw
  obtain ⟨n, hn⟩ : ∃ n, n = N.length := ⟨_, rfl⟩
  rw [← hn]
  have HN : Hid (n = N.length) := Lib.hid hn
  clear hn
  by_cases h5 : n = 5
  · subst h5
    have R0 : Hid (PaRel w1 N (.int .u32 0) (.int .i64 0) w1) := Lib.hid ⟨0, by omega, rfl, rfl, fun q hq => by omega, rfl⟩
    have HC : Hid (∀ j m : Nat, N[j]? = some m → ∃ g off, A = some ⟨g, off, none⟩ ∧ w1.cell? ⟨g, off + j, none⟩ = some (.int .i64 (m : Int))) := Lib.hid (fun j m hm => by
      obtain ⟨g, off, e, _, hc⟩ := HA.out.some_ (by have := HN.out; omega)
      exact ⟨g, off, e, hc j m hm⟩)
    go_upto_region 8 with fail
    go_loopw [5, 6] (PaRel w1 N) (fun _ i _ => 4 - (RowKit.intOf i).toNat)
    case atStart => exact R0.out
    case round =>
      obtain ⟨j, hj, rfl, rfl, hq, rfl⟩ := hrel
      clear R0
      have HQ5 := Lib.hid hq
      have hhl := hostN_lt (N.take j)
      clear hq
      by_cases hlt : j < 4
      · obtain ⟨x, hx⟩ : ∃ x, N[j]? = some x := ⟨N[j]'(by have := HN.out; omega), List.getElem?_eq_getElem _⟩
        obtain ⟨g, off, rfl, hc⟩ := HC.out j x hx
        have HX := Lib.hid hx
        by_cases h255 : 255 < x
        · have h255' : (255 : Int) < (x : Int) := by omega
          clear hx
          obtain ⟨fr0, fr1, z0, z1, hQ, hF⟩ := end53 HR1.out HBW.out (.int .u32 0) (.int .u16 0)
          have HQ := Lib.hid hQ
          have HF := Lib.hid hF
          have HP : Hid (ParseIs s (.tuple #[.agg (adr 0 0), .int .i64 10])) := Lib.hid (parse_no (fun h p hh hp e => by
            obtain ⟨a, b, c', d, e1, k1, k2, k3, k4, _⟩ := HPN.out h p hh hp e
            have hx := HX.out
            rw [e1] at hx
            match j, hlt, hx with
            | 0, _, hx => simp at hx; omega
            | 1, _, hx => simp at hx; omega
            | 2, _, hx => simp at hx; omega
            | 3, _, hx => simp at hx; omega))
          clear hQ hF
          go_wp2
          refine bodyPost_ret (v := .tuple #[.agg #[.int .u32 0, .int .u16 0], .int .i64 10]) ?_ rfl ?_
          · exact results_cell_tmpS (p := 2) (ty := 28) (q := 3) rfl _ _ w.heap.size 0 [.int .u32 0, .int .u16 0] _ (.int .i64 10) rfl rfl HQ.out Tryd.underlying28 rfl size53
          · exact ⟨⟨_, rfl, HP.out⟩, HF.out⟩
        · have h255' : ¬ (255 : Int) < (x : Int) := by omega
          have HREL : Hid (PaRel wr N (.int .u32 ((hostN (N.take j) : Int) * 256 % 4294967296 + (x : Int))) (.int .i64 ((j : Int) + 1)) wr) := Lib.hid ⟨j + 1, by omega, by go_num, by
            have e : N.take (j + 1) = N.take j ++ [x] := by
              obtain ⟨hi, hx'⟩ := List.getElem?_eq_some_iff.1 HX.out
              rw [List.take_succ_eq_append_getElem hi, hx']
            rw [e, hostN_snoc]
            congr 1
            omega, fun q hq m hm => by
              by_cases e : q = j
              · subst e
                rw [HX.out] at hm
                injection hm with hm
                omega
              · exact HQ5.out q (by omega) m hm, rfl⟩
          clear hx
          generalize hostN (N.take j) = hn at *
          go_wp2
          go_roundw
          case rel => exact HREL.out
          case measure => simp [RowKit.intOf]; omega
      · obtain rfl : j = 4 := by omega
        obtain ⟨a, b, cc, d, p, rfl⟩ : ∃ a b cc d p, N = [a, b, cc, d, p] := by
          have := HN.out
          match N, this with
          | [a, b, cc, d, p], _ => exact ⟨a, b, cc, d, p, rfl⟩
        obtain ⟨g, off, rfl, c4⟩ := HC.out 4 p rfl
        have hb255 : a ≤ 255 ∧ b ≤ 255 ∧ cc ≤ 255 ∧ d ≤ 255 := ⟨HQ5.out 0 (by omega) a rfl, HQ5.out 1 (by omega) b rfl, HQ5.out 2 (by omega) cc rfl, HQ5.out 3 (by omega) d rfl⟩
        have htk : ([a, b, cc, d, p] : List Nat).take 4 = [a, b, cc, d] := rfl
        rw [htk] at hhl ⊢
        obtain ⟨h, hh⟩ : ∃ h, h = hostN [a, b, cc, d] := ⟨_, rfl⟩
        rw [← hh] at hhl ⊢
        have HU : Hid (∀ h' p' : Nat, h' < 4294967296 → p' < 65536 → adT h' p' = s → h' = h ∧ p' = p) := Lib.hid (fun h' p' k1 k2 e => by
          obtain ⟨a', b', c', d', e1, _, _, _, _, e2⟩ := HPN.out h' p' k1 k2 e
          simp only [List.cons.injEq, and_true] at e1
          obtain ⟨rfl, rfl, rfl, rfl, rfl⟩ := e1
          exact ⟨by rw [hh, e2], rfl⟩)
        clear htk hb255 HC HPN HQ5 hh HN HA
        by_cases hp : 65535 < p
        · have hp' : (65535 : Int) < (p : Int) := by omega
          obtain ⟨fr0, fr1, z0, z1, hQ, hF⟩ := end53 HR1.out HBW.out (.int .u32 0) (.int .u16 0)
          have HQ := Lib.hid hQ
          have HF := Lib.hid hF
          have HP : Hid (ParseIs s (.tuple #[.agg (adr 0 0), .int .i64 10])) := Lib.hid (parse_no (fun h' p' k1 k2 e => by have := (HU.out h' p' k1 k2 e).2; omega))
          clear hQ hF
          go_wp2
          refine bodyPost_ret (v := .tuple #[.agg #[.int .u32 0, .int .u16 0], .int .i64 10]) ?_ rfl ?_
          · exact results_cell_tmpS (p := 2) (ty := 28) (q := 3) rfl _ _ w.heap.size 0 [.int .u32 0, .int .u16 0] _ (.int .i64 10) rfl rfl HQ.out Tryd.underlying28 rfl size53
          · exact ⟨⟨_, rfl, HP.out⟩, HF.out⟩
        · have hp' : ¬ (65535 : Int) < (p : Int) := by omega
          have hp2 : p < 65536 := by omega
          obtain ⟨W2, hW2⟩ : ∃ W2, W2 = wr.alloc (.cells #[.int .u32 (h : Int), .int .u16 (p : Int)] 28) := ⟨_, rfl⟩
          have k2 := heap_alloc_new wr (.cells #[.int .u32 (h : Int), .int .u16 (p : Int)] 28)
          have hbr : Below wr.heap.size wr (wr.alloc (.cells #[.int .u32 (h : Int), .int .u16 (p : Int)] 28)) := (Below.refl _ wr).alloc (Nat.le_refl _) _
          rw [← hW2] at k2 hbr
          have g1 := (Array.getElem?_eq_some_iff.1 HR1.out).1
          have g2 := (Array.getElem?_eq_some_iff.1 k2).1
          have HL : Hid (∀ W, Below W2.heap.size W2 W → (loadVar 28 ⟨wr.heap.size, 0, none⟩).run Tryd.prog W = .ok (.agg #[.int .u32 (h : Int), .int .u16 (p : Int)]) W) := Lib.hid (fun W hW => run_loadVar_mid W wr.heap.size 0 28 [.int .u32 (h : Int), .int .u16 (p : Int)] _ (row_range (cs := [.int .u32 (h : Int), .int .u16 (p : Int)]) ((hW.block _ g2).trans k2)) Tryd.underlying28 rfl size53)
          have HR2 : Hid (∀ W, Below W2.heap.size W2 W → W.heap[w.heap.size]? = some (.cells #[.int .u32 0, .int .u16 0] 28 (0, 0))) := Lib.hid (fun W hW => (hW.block _ (Nat.lt_of_lt_of_le g1 hbr.size)).trans ((hbr.block _ g1).trans HR1.out))
          have HB2 : Hid (∀ W, Below W2.heap.size W2 W → Below w.heap.size w W) := Lib.hid (fun W hW => by
            have h1 := HBW.out.trans (hbr.mono HBW.out.size)
            exact h1.trans (hW.mono h1.size))
          have HW2 := Lib.hid hW2
          have HT : Hid (Calls Tryd.prog 9 #[.agg #[.int .u32 (h : Int), .int .u16 (p : Int)]] W2 fun e w' => e = .returned (.string (bsA (adT h p))) ∧ Below W2.heap.size W2 w') := Lib.hid (rtext_any h p hhl hp2 W2)
          have HGD : Hid (∀ W, Calls Tryd.prog 7 #[.agg #[.int .u32 (h : Int), .int .u16 (p : Int)]] W fun e w' => e = .returned (.bool (goodB h p)) ∧ Below W.heap.size W w') := Lib.hid (fun W => rgood_any h p W)
          have HINJ : Hid (bsA (adT h p) = B → adT h p = s) := Lib.hid (fun e => by
            rw [HBS.out] at e
            have := congrArg (fun x => x.data.toList) e
            simpa [bsA] using this)
          have HBACK : Hid (adT h p = s → bsA (adT h p) = B) := Lib.hid (fun e => by rw [HBS.out, e])
          generalize hD : bsA (adT h p) = D at HT HINJ HBACK
          clear k2 hbr g1 g2 hW2 hD
          go_upto_region 16 with fail
          rw [← HW2.out]
          have HL0 := Lib.hid (HL.out W2 (Below.refl _ _))
          by_cases hDB : D = B
          · subst hDB
            have hs2 := HINJ.out rfl
            cases hg : goodB h p
            · rw [hg] at HGD
              go_upto_region 17 with (first
                | ((with_reducible refine wpList_loadV (op := ⟨some 47, _, _, _, _, _⟩) rfl 28 (.tmp 7) rfl _ ?_ _ HL0.out ?_); rfl)
                | (go_at_call 9; (with_reducible refine HT.out.mono ?_); rintro e w2 ⟨rfl, hb2⟩)
                | ((with_reducible refine wpList_loadG (op := ⟨some 52, _, _, _, _, _⟩) rfl 28 (.tmp 7) rfl _ ?_ _ (HL.out _ hb2) ?_); rfl)
                | (go_at_call 7; (with_reducible refine (HGD.out _).mono ?_); rintro e w3 ⟨rfl, hb3⟩))
              have hb23 := hb2.trans (hb3.mono hb2.size)
              obtain ⟨fr0, fr1, z0, z1, hQ, hF⟩ := end53 (HR2.out _ hb23) (HB2.out _ hb23) (.int .u32 0) (.int .u16 0)
              have HQ := Lib.hid hQ
              have HF := Lib.hid hF
              have HP : Hid (ParseIs s (.tuple #[.agg (adr 0 0), .int .i64 10])) := Lib.hid (.inr ⟨fun h' p' k1 k2 n1 n2 e => by
                obtain ⟨rfl, rfl⟩ := HU.out h' p' k1 k2 e
                unfold goodB at hg
                exact absurd ⟨n1, n2⟩ (of_decide_eq_false hg), rfl⟩)
              clear hQ hF
              go_wp2
              refine bodyPost_ret (v := .tuple #[.agg #[.int .u32 0, .int .u16 0], .int .i64 10]) ?_ rfl ?_
              · exact results_cell_tmpS (p := 2) (ty := 28) (q := 3) rfl _ _ w.heap.size 0 [.int .u32 0, .int .u16 0] _ (.int .i64 10) rfl rfl HQ.out Tryd.underlying28 rfl size53
              · exact ⟨⟨_, rfl, HP.out⟩, HF.out⟩
            · rw [hg] at HGD
              go_upto_region 18 with (first
                | ((with_reducible refine wpList_loadV (op := ⟨some 47, _, _, _, _, _⟩) rfl 28 (.tmp 7) rfl _ ?_ _ HL0.out ?_); rfl)
                | (go_at_call 9; (with_reducible refine HT.out.mono ?_); rintro e w2 ⟨rfl, hb2⟩)
                | ((with_reducible refine wpList_loadG (op := ⟨some 52, _, _, _, _, _⟩) rfl 28 (.tmp 7) rfl _ ?_ _ (HL.out _ hb2) ?_); rfl)
                | (go_at_call 7; (with_reducible refine (HGD.out _).mono ?_); rintro e w3 ⟨rfl, hb3⟩))
              have hb23 := hb2.trans (hb3.mono hb2.size)
              obtain ⟨fr0, fr1, z0, z1, hQ, hF⟩ := end53 (HR2.out _ hb23) (HB2.out _ hb23) (.int .u32 (h : Int)) (.int .u16 (p : Int))
              have HQ := Lib.hid hQ
              have HF := Lib.hid hF
              have HL3 := Lib.hid (HL.out _ hb23)
              have hgg := of_decide_eq_true hg
              have HP : Hid (ParseIs s (.tuple #[.agg (adr h p), .int .i64 0])) := Lib.hid (.inl ⟨h, p, hhl, hp2, hgg.1, hgg.2, hs2, rfl⟩)
              clear hQ hF hb23 hb2 hb3 hgg hs2
              go_wp2_with (((with_reducible refine wpList_loadV (op := ⟨some 57, _, _, _, _, _⟩) rfl 28 (.tmp 7) rfl _ ?_ _ HL3.out ?_); rfl))
              refine bodyPost_ret (v := .tuple #[.agg #[.int .u32 (h : Int), .int .u16 (p : Int)], .int .i64 0]) ?_ rfl ?_
              · exact results_cell_tmpS (p := 2) (ty := 28) (q := 3) rfl _ _ w.heap.size 0 [.int .u32 (h : Int), .int .u16 (p : Int)] _ (.int .i64 0) rfl rfl HQ.out Tryd.underlying28 rfl size53
              · exact ⟨⟨_, rfl, HP.out⟩, HF.out⟩
          · have hDL : ¬ D.toList = B.toList := fun e => hDB (by
              rw [ByteArray.toList_eq, ByteArray.toList_eq] at e
              cases D
              cases B
              exact congrArg ByteArray.mk (Array.ext' e))
            go_upto_region 17 with (first
              | ((with_reducible refine wpList_loadV (op := ⟨some 47, _, _, _, _, _⟩) rfl 28 (.tmp 7) rfl _ ?_ _ HL0.out ?_); rfl)
              | (go_at_call 9; (with_reducible refine HT.out.mono ?_); rintro e w2 ⟨rfl, hb2⟩))
            obtain ⟨fr0, fr1, z0, z1, hQ, hF⟩ := end53 (HR2.out _ hb2) (HB2.out _ hb2) (.int .u32 0) (.int .u16 0)
            have HQ := Lib.hid hQ
            have HF := Lib.hid hF
            have HP : Hid (ParseIs s (.tuple #[.agg (adr 0 0), .int .i64 10])) := Lib.hid (parse_no (fun h' p' k1 k2 e => by
              obtain ⟨rfl, rfl⟩ := HU.out h' p' k1 k2 e
              exact hDB (HBACK.out e)))
            clear hQ hF
            go_wp2
            refine bodyPost_ret (v := .tuple #[.agg #[.int .u32 0, .int .u16 0], .int .i64 10]) ?_ rfl ?_
            · exact results_cell_tmpS (p := 2) (ty := 28) (q := 3) rfl _ _ w.heap.size 0 [.int .u32 0, .int .u16 0] _ (.int .i64 10) rfl rfl HQ.out Tryd.underlying28 rfl size53
            · exact ⟨⟨_, rfl, HP.out⟩, HF.out⟩
  · have h5' : ¬ (n : Int) = 5 := by omega
    obtain ⟨fr0, fr1, z0, z1, hQ, hF⟩ := end53 HR1.out HBW.out (.int .u32 0) (.int .u16 0)
    have HQ := Lib.hid hQ
    have HF := Lib.hid hF
    have HP : Hid (ParseIs s (.tuple #[.agg (adr 0 0), .int .i64 10])) := Lib.hid (parse_no (fun h p hh hp e => by
      obtain ⟨a, b, c', d, e1, _⟩ := HPN.out h p hh hp e
      have := HN.out
      rw [e1] at this
      simp at this
      omega))
    clear hQ hF
    go_wp2
    refine bodyPost_ret (v := .tuple #[.agg #[.int .u32 0, .int .u16 0], .int .i64 10]) ?_ rfl ?_
    · exact results_cell_tmpS (p := 2) (ty := 28) (q := 3) rfl _ _ w.heap.size 0 [.int .u32 0, .int .u16 0] _ (.int .i64 10) rfl rfl HQ.out Tryd.underlying28 rfl size53
    · exact ⟨⟨_, rfl, HP.out⟩, HF.out⟩
theorem rparse_any (s : List UInt8) (w : World) : Calls Tryd.prog 16 #[.string (bsA s)] w fun e w' => (∃ v, e = .returned v ∧ ParseIs s v) ∧ Below w.heap.size w w' := by
  by_cases h : 21 < s.length
  · exact rparse_long s h w
  · exact rparse_short s (by omega) w
end Go.Proofs.YtieeffebecghiaaDoor
