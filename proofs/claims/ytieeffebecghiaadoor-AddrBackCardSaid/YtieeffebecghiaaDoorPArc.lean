/- Contract of the reference's Text of layer addr. Conditions: a host fits 32 bits, a port 16. -/
import Derived.Test.YtieeffebecghiaaDoorPArb
namespace Go.Proofs.YtieeffebecghiaaDoor
set_option maxRecDepth 100000
set_option maxHeartbeats 1000000
open Go.RowKit Go.Lib Go.Great

/-- The text of the first numbers. -/
def preT (bs : List UInt8) : Nat → List UInt8
  | 0 => []
  | j + 1 => preT bs j ++ (if 0 < j then [46] else []) ++ decL (bs.getD j 0).toNat
theorem dec_byte (b : UInt8) : (decL b.toNat).length ≤ 3 := decL_len 2 b.toNat (by have := b.toNat_lt; omega)
theorem preT_len (bs : List UInt8) : ∀ j, (preT bs j).length ≤ 4 * j
  | 0 => by simp [preT]
  | j + 1 => by
    have := preT_len bs j
    have := dec_byte (bs.getD j 0)
    simp only [preT, List.length_append]
    split <;> simp only [List.length_cons, List.length_nil] <;> omega
theorem bsA_size (l : List UInt8) : (bsA l).size = l.length := by simp [bsA, ByteArray.size]
/-- The text of an address. -/
def adT (h p : Nat) : List UInt8 := preT (adB h p) 4 ++ [58] ++ decL p
theorem adT_nums (h p : Nat) : adT h p = textN ((adB h p).getD 0 0).toNat ((adB h p).getD 1 0).toNat ((adB h p).getD 2 0).toNat ((adB h p).getD 3 0).toNat p := by
  simp [adT, preT, textN]
def TxRel (W : World) (bs : List UInt8) (s i : Value) (wr : World) : Prop := ∃ j : Nat, j ≤ 4 ∧ i = .int .i64 (j : Int) ∧ s = .string (bsA (preT bs j)) ∧ Below W.heap.size W wr
theorem rtext_any (h p : Nat) (hh : h < 4294967296) (hp : p < 65536) (w : World) : Calls Tryd.prog 9 #[.agg (adr h p)] w fun e w' => e = .returned (.string (bsA (adT h p))) ∧ Below w.heap.size w w' := by
  have hb0 : Below w.heap.size w (w.alloc (.cells (adr h p) 28)) := (Below.refl _ w).alloc (Nat.le_refl _) _
  have HBY := Lib.hid (rbytes_any h p hh hp (w.alloc (.cells (adr h p) 28)))
  have HDP := Lib.hid (fun W => rdec_any p (by omega) W)
  have h0 := heap_alloc_new w (.cells (adr h p) 28)
  have c0 : (w.alloc (.cells (adr h p) 28)).cell? ⟨w.heap.size, 0, none⟩ = some (.int .u32 (h : Int)) := by rw [cell_of_row _ _ 0 _ 28 (0, 0) h0]; rfl
  have c1 : (w.alloc (.cells (adr h p) 28)).cell? ⟨w.heap.size, 1, none⟩ = some (.int .u16 (p : Int)) := by rw [cell_of_row _ _ 1 _ 28 (0, 0) h0]; rfl
  have HC1 := Lib.hid c1
  have HB0 := Lib.hid hb0
  have HG0 : Hid (w.heap.size < (w.alloc (.cells (adr h p) 28)).heap.size) := Lib.hid (by simp)
  have HLB := Lib.hid (adB_length h p)
  have HDL : Hid ((decL p).length ≤ 6) := Lib.hid (decL_len 5 p (by omega))
  have HE : Hid (∀ l, adT h p = l ↔ l = adT h p) := Lib.hid (fun l => ⟨Eq.symm, Eq.symm⟩)
  generalize hbs : adB h p = bs at HBY HLB
  have HT : Hid (adT h p = preT bs 4 ++ [58] ++ decL p) := Lib.hid (by unfold adT; rw [hbs])
  rw [HT.out]
  clear hb0 h0 hbs HE HT
  unfold adr at *
  go_enter Tryd.func9, Tryd.ntmps9
  go_upto_region 2 with (go_at_call 11; (with_reducible refine HBY.out.mono ?_); rintro e W1 ⟨v3, rfl, hv3, hb1⟩)
  obtain ⟨A, c, rfl, _, hA⟩ := hv3
  have R0 : Hid (TxRel W1 bs (.string ⟨#[]⟩) (.int .i64 0) W1) := Lib.hid ⟨0, by omega, rfl, rfl, Below.refl _ _⟩
  have HA := Lib.hid hA
  have HB1 := Lib.hid hb1
  rw [HLB.out]
  clear hA hb1 c0 c1
  go_upto_region 4 with fail
  go_loopw [4, 5] (TxRel W1 bs) (fun _ i _ => 4 - (RowKit.intOf i).toNat)
  case atStart => exact R0.out
  case round =>
    obtain ⟨j, hj, rfl, rfl, hb⟩ := hrel
    clear R0
    have hpl := preT_len bs j
    by_cases hlt : j < 4
    · obtain ⟨g, off, rfl, hg, hc⟩ : ∃ g off, A = some ⟨g, off, none⟩ ∧ g < W1.heap.size ∧ ∀ q (hq : q < bs.length), W1.cell? ⟨g, off + q, none⟩ = some (.int .u8 (bs[q].toNat : Int)) := by
        rcases HA.out with e | h
        · have := HLB.out
          rw [e] at this
          simp at this
        · exact h
      have hj6 : j < bs.length := by rw [HLB.out]; omega
      have hcell : wr.cell? ⟨g, off + j, none⟩ = some (.int .u8 (bs[j].toNat : Int)) := by rw [World.cell?_of_block (w := W1) (w' := wr) (a := ⟨g, off + j, none⟩) (hb.block g hg)]; exact hc j hj6
      have hgd : bs.getD j 0 = bs[j] := by rw [List.getD_eq_getElem?_getD, List.getElem?_eq_getElem hj6]; rfl
      have hbl := bs[j].toNat_lt
      have hdl := dec_byte bs[j]
      have HD := Lib.hid (fun W => rdec_any bs[j].toNat (by omega) W)
      have HB := Lib.hid hb
      have HS : Hid (preT bs (j + 1) = preT bs j ++ (if 0 < j then [46] else []) ++ decL bs[j].toNat) := Lib.hid (by rw [preT, hgd])
      generalize bs[j].toNat = bj at hcell hbl hdl HD HS
      have hT := bsA_size (preT bs j)
      have hD := bsA_size (decL bj)
      have hdot : ((⟨#[46]⟩ : ByteArray)) = bsA [46] := rfl
      by_cases h0 : j = 0
      · have h0i : ¬ (0 : Int) < (j : Int) := by omega
        have hz1 : ¬ 9223372036854775807 < (bsA (preT bs j)).size + (bsA (decL bj)).size := by omega
        have HREL : Hid (∀ w', Below wr.heap.size wr w' → TxRel W1 bs (.string (bsA (preT bs j) ++ bsA (decL bj))) (.int .i64 ((j : Int) + 1)) w') := Lib.hid (fun w' hw => ⟨j + 1, by omega, by go_num, by rw [HS.out, if_neg (by omega), bsA_append, List.append_nil], HB.out.trans (hw.mono HB.out.size)⟩)
        clear hb hc hg hgd hj6 HS hpl hT hD hdl h0
        go_upto_region 5 with (go_at_call 21; (with_reducible refine (HD.out _).mono ?_); rintro e w2 ⟨rfl, hb2⟩)
        have HR2 := Lib.hid (HREL.out _ hb2)
        clear HREL hb2 HD
        go_wp2
        go_roundw
        case rel => exact HR2.out
        case measure => simp [RowKit.intOf]; omega
      · have h0' : 0 < j := by omega
        have h0i : (0 : Int) < (j : Int) := by omega
        have hz0 : ¬ 9223372036854775807 < (bsA (preT bs j)).size + (⟨#[46]⟩ : ByteArray).size := by
          have : (⟨#[46]⟩ : ByteArray).size = 1 := rfl
          omega
        have hz0' : ¬ 9223372036854775807 < (bsA (preT bs j)).size + 1 := by omega
        have hz1 : ¬ 9223372036854775807 < (bsA (preT bs j) ++ (⟨#[46]⟩ : ByteArray)).size + (bsA (decL bj)).size := by
          rw [hdot, bsA_append, bsA_size]
          simp only [List.length_append, List.length_cons, List.length_nil]
          omega
        have HREL : Hid (∀ w', Below wr.heap.size wr w' → TxRel W1 bs (.string (bsA (preT bs j) ++ (⟨#[46]⟩ : ByteArray) ++ bsA (decL bj))) (.int .i64 ((j : Int) + 1)) w') := Lib.hid (fun w' hw => ⟨j + 1, by omega, by go_num, by rw [HS.out, if_pos h0', hdot, bsA_append, bsA_append], HB.out.trans (hw.mono HB.out.size)⟩)
        clear hb hc hg hgd hj6 HS hpl hT hD hdl hdot
        go_upto_region 5 with (go_at_call 21; (with_reducible refine (HD.out _).mono ?_); rintro e w2 ⟨rfl, hb2⟩)
        have HR2 := Lib.hid (HREL.out _ hb2)
        clear HREL hb2 HD
        go_wp2
        go_roundw
        case rel => exact HR2.out
        case measure => simp [RowKit.intOf]; omega
    · obtain rfl : j = 4 := by omega
      have HBF := Lib.hid (HB0.out.trans ((HB1.out.trans (hb.mono HB1.out.size)).mono HB0.out.size))
      have c1 : wr.cell? ⟨w.heap.size, 1, none⟩ = some (.int .u16 (p : Int)) := by
        have hbb := HB1.out.trans (hb.mono HB1.out.size)
        rw [World.cell?_of_block (w' := wr) (a := ⟨w.heap.size, 1, none⟩) (hbb.block _ HG0.out)]
        exact HC1.out
      have hdot : ((⟨#[58]⟩ : ByteArray)) = bsA [58] := rfl
      have hT := bsA_size (preT bs 4)
      have hz0 : ¬ 9223372036854775807 < (bsA (preT bs 4)).size + (⟨#[58]⟩ : ByteArray).size := by
        have : (⟨#[58]⟩ : ByteArray).size = 1 := rfl
        omega
      have hz0' : ¬ 9223372036854775807 < (bsA (preT bs 4)).size + 1 := by omega
      have hz1 : ¬ 9223372036854775807 < (bsA (preT bs 4) ++ (⟨#[58]⟩ : ByteArray)).size + (bsA (decL p)).size := by
        rw [hdot, bsA_append, bsA_size, bsA_size]
        simp only [List.length_append, List.length_cons, List.length_nil]
        have := HDL.out
        omega
      have HEQ : Hid (bsA (preT bs 4) ++ (⟨#[58]⟩ : ByteArray) ++ bsA (decL p) = bsA (preT bs 4 ++ [58] ++ decL p)) := Lib.hid (by rw [hdot, bsA_append, bsA_append])
      clear hb hdot hT hpl
      go_wp2_with (go_at_call 21; (with_reducible refine (HDP.out _).mono ?_); rintro e w2 ⟨rfl, hb2⟩)
      go_ret
      exact ⟨by rw [← HEQ.out]; rfl, HBF.out.trans (hb2.mono HBF.out.size)⟩
end Go.Proofs.YtieeffebecghiaaDoor
