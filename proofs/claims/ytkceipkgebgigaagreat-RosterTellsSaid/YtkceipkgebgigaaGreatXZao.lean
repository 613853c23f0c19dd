/- RosterTells: the walk of its long way. Conditions: what Light says. Slices of bytes and numbers that come in, as lists. No condition. Instances and bytes that come in. No condition. Slices of instances that come in. No condition. -/
import Derived.Test.YtkceipkgebgigaaGreatXZag
import Derived.Test.YtkceipkgebgigaaGreatProg
import Derived.Test.YtkceipkgebgigaaGreatXJLla
import Derived.Test.YtkceipkgebgigaaGreatRows
import Derived.ProofKit
import Derived.OpenShut
import Derived.ChangeOld
import Derived.SizedLaws
import Derived.Test.YtkceipkgebgigaaGreatXEOctc
import Derived.Deep.Slices
import Derived.Deep.Strs
import Derived.Test.YtkceipkgebgigaaGreatXOaa
section
namespace Go.Proofs.YtkceipkgebgigaaGreat
open Go.Shelf Go.RowKit Go.Lib Go.Great
set_option maxRecDepth 100000
set_option maxHeartbeats 1000000
theorem rtells_main (w W0 : World) (sa sb : Value) (i G : Ins) (M Mg Lv Sw : List Ins) (B : List UInt8) (er : Int) (ok so g s : Bool) (now : Nat) (hK : TelK w W0 sa sb i G M Mg Lv Sw B er ok so g s now) (hi : i.tgt.length ≤ 300) :
    Calls Tryz.prog 3 #[sa, sb, .agg (encI i).toArray, .int .u64 (now : Int)] w fun e w' => e = .returned (.bool true) ∧ Below w.heap.size w w' := by
  have hb := Lib.hid hK.box
  have H4a := Lib.hid hK.h4a
  have H4b := Lib.hid hK.h4b
  have H6 := Lib.hid hK.h6
  have H7 := Lib.hid hK.h7
  have H8 := Lib.hid hK.h8
  have H9 := Lib.hid hK.h9
  have H10 := Lib.hid hK.h10
  have H11 := Lib.hid hK.h11
  have H13 := Lib.hid hK.h13
  have H14 := Lib.hid hK.h14
  have H15 := Lib.hid hK.h15
  have H12 := Lib.hid hK.h12
  have H16 := Lib.hid hK.h16
  have H17 := Lib.hid hK.h17
  have H18 := Lib.hid hK.h18
  have H19 := Lib.hid hK.h19
  have H20 := Lib.hid hK.h20
  have H21 := Lib.hid hK.h21
  have HL := Lib.hid hK.l
  have HLI := Lib.hid rlives_any
  have HF : Hid (∀ W, Below W0.heap.size W0 W → FldI W w.heap.size 0 i) := Lib.hid (fun W hW => fld_below hb.out.at0 hW (Array.getElem?_eq_some_iff.1 hb.out.at0).1)
  have HLT : Hid (∀ W, Below W0.heap.size W0 W → (loadVar 9 ⟨w.heap.size, 27, none⟩).run Tryz.prog W = .ok (.string (bstr i.tgt)) W) := Lib.hid (fun W hW => by
    have hx := (HF.out W hW).tgt
    rw [Nat.zero_add] at hx
    go_simp)
  have HLX := Lib.hid (fun W hW => (HF.out W hW).all)
  have HLP := Lib.hid (fun W hW => (HF.out W hW).pub)
  have HBA : Hid (∀ W o, Below W0.heap.size W0 W → Below W0.heap.size W0 (W.alloc o)) := Lib.hid (fun W o hW => hW.alloc hW.size o)
  have HAL : Hid (∀ (W : World) o, Below W.heap.size W (W.alloc o)) := Lib.hid (fun W o => (Below.refl _ W).alloc (Nat.le_refl _) o)
  have HEQ := Lib.hid (fun W => eqIns G G W)
  have hsz : (bstr i.tgt).size = i.tgt.length := by show i.tgt.toArray.size = _; simp
  have hs : ¬ ((bstr i.tgt).size : Int) > 300 := by omega
  have hb0 := Below.refl W0.heap.size W0
  clear hK hi hsz HF
  generalize bstr i.tgt = S at *
  obtain ⟨X, hX⟩ : ∃ X, X = (encI i).toArray := ⟨_, rfl⟩
  rw [← hX] at hb H6 H7 HLX ⊢
  obtain ⟨Y, hY⟩ : ∃ Y, Y = (bcells i.pub).toArray := ⟨_, rfl⟩
  rw [← hY] at H10 H11 HLP
  clear hX hY
  unfold Tells at H4a
  unfold Tells at H4b
  go_enter Tryz.func3, Tryz.ntmps3
  go_upto_region 1 with fail
  rw [← hb.out.w1]
  go_upto_region 7 with (first
    | (go_at_call 4; (with_reducible refine (H4a.out _ hb0).mono ?_); rintro e w1 ⟨rfl, hb1⟩)
    | (go_at_call 4; (with_reducible refine (H4b.out _ hb1).mono ?_); rintro e w2 ⟨rfl, hb2⟩)
    | ((with_reducible refine wpList_loadG (o := ⟨some 31, _, _, _, _, _⟩) rfl 9 (.tmp 30) rfl _ ?_ _ (HLT.out _ hb2) ?_); rfl)
    | ((with_reducible refine wpList_loadV (op := ⟨some 38, _, _, _, _, _⟩) rfl 29 (.tmp 6) rfl _ ?_ _ (HLX.out _ hb2) ?_); rfl)
    | (go_at_call 6; (with_reducible refine (H6.out _ hb2).mono ?_); rintro e w6 ⟨A6, c6, rfl, ha6, hk6⟩; have hb6 := hb2.trans (hk6.mono hb2.size))
    | ((with_reducible refine wpList_loadV (op := ⟨some 44, _, _, _, _, _⟩) rfl 29 (.tmp 6) rfl _ ?_ _ (HLX.out _ hb6) ?_); rfl)
    | (go_at_call 7; (with_reducible refine (H7.out _ hb6).mono ?_); rintro e w7 ⟨A7, c7, rfl, ha7, hk7⟩; have hb7 := hb6.trans (hk7.mono hb6.size); have hp7 : PaR M A6 A7 w7 := ⟨ha6.bel hk7, ha7⟩; clear hk6 ha6 hk7 ha7)
    | (go_at_call 8; (with_reducible refine (H8.out _ hb7).mono ?_); rintro e w8 ⟨A8, c8, rfl, hs8, hk8⟩; have hb8 := hb7.trans (hk8.mono hb7.size); have hp8 := hp7.bel hk8; clear hk8 hp7)
    | (go_at_call 9; (with_reducible refine (H9.out _ hb8).mono ?_); rintro e w9 ⟨A9, c9, rfl, hs9, hk9⟩; have hb9 := hb8.trans (hk9.mono hb8.size); have hp9 := hp8.bel hk9; have hq9 := IsB.below hs8 hk9; clear hk9 hp8 hs8))
  clear H4a H4b H6 H7 H8 H9 HLT HLX hb0 hb1 hb2 hb6 hb7 hb8
  go_upto_region 8 with (first
    | ((with_reducible refine wpList_loadV (op := ⟨some 61, _, _, _, _, _⟩) rfl 24 (.tmp 60) rfl _ ?_ _ (HLP.out _ hb9) ?_); rfl)
    | (go_at_call 10; (with_reducible refine (H10.out _ hb9).mono ?_); rintro e w10 ⟨rfl, hk10⟩)
    | (with_reducible refine wpList_alloc28 (o := ⟨some 17, _, _, _, _, _⟩) w10.heap.size rfl rfl 17 rfl rfl ?_)
    | ((with_reducible refine wpList_store28n (o := ⟨none, _, _, _, _, _⟩) rfl (.tmp 17) (.tmp 63) rfl w10.heap.size rfl zeroI G ?_ ?_ ?_); rfl; rfl))
  have hk10a := hk10.trans ((HAL.out w10 (.cells (encI G).toArray 29)).mono hk10.size)
  have hb10 := hb9.trans (hk10a.mono hb9.size)
  have hp10 := hp9.bel hk10a
  have hr10 := IsB.below hs9 hk10a
  have hq10 := IsB.below hq9 hk10a
  have hn10 := heap_alloc_new w10 (.cells (encI G).toArray 29)
  generalize w10.heap.size = k17 at *
  generalize w10.alloc (.cells (encI G).toArray 29) = W10 at *
  clear hk10 hk10a hp9 hs9 hq9 H10 hb9
  go_upto_region 9 with (first
    | ((with_reducible refine wpList_loadV (op := ⟨some 68, _, _, _, _, _⟩) rfl 24 (.tmp 67) rfl _ ?_ _ (HLP.out _ hb10) ?_); rfl)
    | (go_at_call 11; (with_reducible refine (H11.out _ hb10).mono ?_); rintro e w11 ⟨rfl, hk11⟩)
    | (with_reducible refine wpList_alloc28 (o := ⟨some 19, _, _, _, _, _⟩) w11.heap.size rfl rfl 19 rfl rfl ?_)
    | ((with_reducible refine wpList_store28n (o := ⟨none, _, _, _, _, _⟩) rfl (.tmp 19) (.tmp 70) rfl w11.heap.size rfl zeroI G ?_ ?_ ?_); rfl; rfl))
  have hk11a := hk11.trans ((HAL.out w11 (.cells (encI G).toArray 29)).mono hk11.size)
  have hb11 := hb10.trans (hk11a.mono hb10.size)
  have hp11 := hp10.bel hk11a
  have hr11 := IsB.below hr10 hk11a
  have hq11 := IsB.below hq10 hk11a
  have hm11 := (hk11a.block _ (Array.getElem?_eq_some_iff.1 hn10).1).trans hn10
  have hn11 := heap_alloc_new w11 (.cells (encI G).toArray 29)
  generalize w11.heap.size = k19 at *
  generalize w11.alloc (.cells (encI G).toArray 29) = W11 at *
  clear hk11 hk11a hp10 hr10 hq10 H11 hb10 hn10 HLP HAL HBA
  have he := HEQ.out
  rw [eqI_self] at he
  have HB11 := Lib.hid hb11
  have HP11 := Lib.hid hp11
  have HQ11 := Lib.hid hq11
  have HR11 := Lib.hid hr11
  have HM17 : Hid (∀ W, Below W11.heap.size W11 W → (loadVar 29 ⟨k17, 0, none⟩).run Tryz.prog W = .ok (.agg (encI G).toArray) W) := Lib.hid (fun W hW => load28 (row_range ((hW.block _ (Array.getElem?_eq_some_iff.1 hm11).1).trans hm11)))
  have HM19 : Hid (∀ W, Below W11.heap.size W11 W → (loadVar 29 ⟨k19, 0, none⟩).run Tryz.prog W = .ok (.agg (encI G).toArray) W) := Lib.hid (fun W hW => load28 (row_range ((hW.block _ (Array.getElem?_eq_some_iff.1 hn11).1).trans hn11)))
  clear hb11 hp11 hq11 hr11 hm11 hn11 HEQ
  generalize (encI G).toArray = Z at *
  go_upto_region 11 with (first
    | (go_at_call 12; (with_reducible refine (rsame_self _ _ HL.out.1 HP11.out).mono ?_); rintro e w12 ⟨rfl, hk12⟩; have hb12 := HB11.out.trans (hk12.mono HB11.out.size); have hc8 := IsB.conv (IsB.below HQ11.out hk12); have hc9 := IsB.conv (IsB.below HR11.out hk12); generalize bstr B = T at hc8 hc9; clear HP11 HQ11 HR11)
    | ((with_reducible refine wpList_loadG (o := ⟨some 94, _, _, _, _, _⟩) rfl 29 (.tmp 17) rfl _ ?_ _ (HM17.out _ hk12) ?_); rfl)
    | ((with_reducible refine wpList_loadG (o := ⟨some 95, _, _, _, _, _⟩) rfl 29 (.tmp 19) rfl _ ?_ _ (HM19.out _ hk12) ?_); rfl; clear hc8 hc9 HM17 HM19 hk12)
    | (go_at_call 13; (with_reducible refine (H13.out _ hb12).mono ?_); rintro e w13 ⟨rfl, hk13⟩; have hb13 := hb12.trans (hk13.mono hb12.size); clear hk13)
    | (go_at_call 14; (with_reducible refine (H14.out _ hb13).mono ?_); rintro e w14 ⟨rfl, hk14⟩; have hb14 := hb13.trans (hk14.mono hb13.size); clear hk14)
    | (go_at_call 15; (with_reducible refine (H15.out _ hb14).mono ?_); rintro e w15 ⟨rfl, hk15⟩; have hb15 := hb14.trans (hk15.mono hb14.size); clear hk15)
    | (go_at_call 12; (with_reducible refine (H12.out _ hb15).mono ?_); rintro e w16 ⟨rfl, hk16⟩; have hb16 := hb15.trans (hk16.mono hb15.size); clear hk16))
  have HB16 := Lib.hid hb16
  clear hb12 hb13 hb14 hb15 hb16 HB11 H12 H13 H14 H15 he
  go_wp2_with (first
    | (go_at_call 16; (with_reducible refine (H16.out _ HB16.out).mono ?_); rintro e w17 ⟨A17, c17, rfl, hi17, hk17⟩; have hb17 := HB16.out.trans (hk17.mono HB16.out.size); clear hk17)
    | (go_at_call 17; (with_reducible refine (H17.out _ hb17).mono ?_); rintro e w18 ⟨A18, c18, rfl, hi18, hk18⟩; have hb18 := hb17.trans (hk18.mono hb17.size); have hp18 : PaR Mg A17 A18 w18 := ⟨hi17.bel hk18, hi18⟩; clear hk18 hi17 hi18 hb17)
    | (go_at_call 12; (with_reducible refine (rsame_self _ _ HL.out.2.1 hp18).mono ?_); rintro e w19 ⟨rfl, hk19⟩; have hb19 := hb18.trans (hk19.mono hb18.size); clear hk19 hp18 hb18)
    | (go_at_call 18; (with_reducible refine (H18.out _ hb19).mono ?_); rintro e w20 ⟨A20, c20, rfl, hi20, hk20⟩; have hb20 := hb19.trans (hk20.mono hb19.size); clear hk20)
    | (go_at_call 19; (with_reducible refine (H19.out _ hb20).mono ?_); rintro e w21 ⟨A21, c21, rfl, hi21, hk21⟩; have hb21 := hb20.trans (hk21.mono hb20.size); have hp21 : PaR Lv A20 A21 w21 := ⟨hi20.bel hk21, hi21⟩; clear hk21 hi20 hi21 hb20)
    | (go_at_call 12; (with_reducible refine (rsame_self _ _ HL.out.2.2.1 hp21).mono ?_); rintro e w22 ⟨rfl, hk22⟩; have hb22 := hb21.trans (hk22.mono hb21.size); clear hk22 hp21 hb21)
    | (go_at_call 20; (with_reducible refine (H20.out _ hb22).mono ?_); rintro e w23 ⟨A23, c23, rfl, hi23, hk23⟩; have hb23 := hb22.trans (hk23.mono hb22.size); clear hk23)
    | (go_at_call 21; (with_reducible refine (H21.out _ hb23).mono ?_); rintro e w24 ⟨A24, c24, rfl, hi24, hk24⟩; have hb24 := hb23.trans (hk24.mono hb23.size); have hp24 : PaR Sw A23 A24 w24 := ⟨hi23.bel hk24, hi24⟩; clear hk24 hi23 hi24 hb23)
    | (go_at_call 12; (with_reducible refine (rsame_self _ _ HL.out.2.2.2 hp24).mono ?_); rintro e w25 ⟨rfl, hk25⟩; have hb25 := hb24.trans (hk25.mono hb24.size); clear hk25 hp24 hb24)
    | (go_at_call 5; (with_reducible refine (HLI.out _).mono ?_); rintro e w26 ⟨rfl, hk26⟩))
  go_ret
  exact ⟨rfl, hb.out.be.trans ((hb25.trans (hk26.mono hb25.size)).mono hb.out.be.size)⟩
theorem rtells_walk (A A' : Option Addr) (c c' : Nat) (a b : List Ins) (i : Ins) (now : Nat) (w : World) (hla : a.length ≤ 9223372036854775807) (hlb : b.length ≤ 9223372036854775807)
    (hA : IAt w w.heap.size A a) (hB : IAt w w.heap.size A' b) (hA2 : A = none ∨ ∃ g off, A = some ⟨g, off, none⟩) :
    Calls Tryz.prog 3 #[.slice A a.length c, .slice A' b.length c', .agg (encI i).toArray, .int .u64 (now : Int)] w fun e w' => e = .returned (.bool true) ∧ Below w.heap.size w w' := by
  have bx := boxR w (encI i).toArray
  have ta := light_tells A c a _ hla (hA.bel bx.be)
  have tb := light_tells A' c' b _ hlb (hB.bel bx.be)
  cases ha : lightR a with
  | false =>
    rw [ha] at ta
    exact rtells_dark1 w _ _ _ _ now (Lib.hid bx) (Lib.hid ta)
  | true =>
    cases hb : lightR b with
    | false =>
      rw [ha] at ta
      rw [hb] at tb
      exact rtells_dark2 w _ _ _ _ now (Lib.hid bx) (Lib.hid ta) (Lib.hid tb)
    | true =>
      rw [ha] at ta
      rw [hb] at tb
      by_cases hi : i.tgt.length ≤ 300
      · exact rtells_main w _ _ _ i _ _ _ _ _ _ _ _ _ _ _ now (telK A A' c c' a b i now w ha hb hi hA hB hA2) hi
      · have hsz : (bstr i.tgt).size = i.tgt.length := by show i.tgt.toArray.size = _; simp
        refine rtells_dark3 w _ _ _ _ (bstr i.tgt) now (Lib.hid bx) (Lib.hid ta) (Lib.hid tb) (Lib.hid (fun W hW => ?_)) (by omega)
        have hx := (fld_below bx.at0 hW (Array.getElem?_eq_some_iff.1 bx.at0).1).tgt
        rw [Nat.zero_add] at hx
        go_simp
end Go.Proofs.YtkceipkgebgigaaGreat
end
section
namespace Go.Proofs.YtkceipkgebgigaaGreat
set_option maxRecDepth 100000
set_option linter.unusedVariables false
open Go.ChangeShapes Go.WideShapes Go.ChangeAt Go.RowKit

/-- The bytes of a row of numbers that fit a byte. -/
def bytesOf (zs : List Int) : List UInt8 := zs.map fun n => UInt8.ofNat n.toNat
section
variable {H : Type} {enc : TypeId × Value → H} {W : World} {base : Nat} {sp : Nat → Bool} {hd : Bool} {a : Option Addr} {len cap : Nat} {d : DataW H} {p : List MemPlace}
end
end Go.Proofs.YtkceipkgebgigaaGreat
end
section
namespace Go.Proofs.YtkceipkgebgigaaGreat
set_option maxRecDepth 100000
open Go.ChangeShapes Go.WideShapes Go.ChangeAt Go.RowKit Go.Deep
theorem wf_u8 {n : Int} (h : (Lit.int .u8 n).wf = true) : 0 ≤ n ∧ n ≤ 255 := by
  simp [Lit.wf, IntKind.min, IntKind.max, IntKind.bits, IntKind.signed] at h
  omega
theorem wf_u64 {n : Int} (h : (Lit.int .u64 n).wf = true) : 0 ≤ n ∧ n < 18446744073709551616 := by
  simp [Lit.wf, IntKind.min, IntKind.max, IntKind.bits, IntKind.signed] at h
  omega
theorem wf_u32 {n : Int} (h : (Lit.int .u32 n).wf = true) : 0 ≤ n ∧ n < 4294967296 := by
  simp [Lit.wf, IntKind.min, IntKind.max, IntKind.bits, IntKind.signed] at h
  omega
theorem wf_u16 {n : Int} (h : (Lit.int .u16 n).wf = true) : 0 ≤ n ∧ n < 65536 := by
  simp [Lit.wf, IntKind.min, IntKind.max, IntKind.bits, IntKind.signed] at h
  omega
section
variable {H : Type} {enc : TypeId × Value → H} {w : World} {base : Nat} {spare : Nat → Bool} {held : Bool}
theorem cells_bytes {fuel : Nat} {cs : List Value} {x : DataW H × List MemPlace} (h : DataW.trod enc Tryz.prog w base spare held fuel 24 cs = some x) : ∃ xs : List UInt8, xs.length = 20 ∧ cs = bcells xs := by
  have hu : Tryz.prog.underlying 24 = some (.array 20 5) := by kernel_rfl
  have hc5 : Tryz.prog.cellsOf 5 = 1 := by kernel_rfl
  have hc26 : Tryz.prog.cellsOf 24 = 20 := by kernel_rfl
  obtain ⟨ys, m, _, _, hl, hy, hi⟩ := DataW.trod_array hu h
  rw [hc26] at hl
  have hcell : ∀ i (hi20 : i < cs.length), ∃ n : Int, cs[i] = .int .u8 n ∧ 0 ≤ n ∧ n ≤ 255 := by
    intro i hi20
    have h1 := hi i (by omega)
    rw [hc5, Nat.mul_one] at h1
    rw [List.getElem?_eq_getElem (by omega)] at h1
    obtain ⟨n, he, _, hw⟩ := DataW.trod_int Tryz.underlying5 h1
    refine ⟨n, ?_, wf_u8 hw⟩
    rw [List.drop_eq_getElem_cons hi20, List.take_succ_cons, List.take_zero] at he
    injection he
  refine ⟨cs.map fun v => UInt8.ofNat (RowKit.intOf v).toNat, by simpa using hl, ?_⟩
  apply List.ext_getElem
  · simp [bcells]
  · intro i h1 h2
    obtain ⟨n, e, n0, n1⟩ := hcell i h1
    have e2 : (bcells (cs.map fun v => UInt8.ofNat (RowKit.intOf v).toNat))[i]'h2 = Value.int .u8 (((UInt8.ofNat (RowKit.intOf cs[i]).toNat).toNat : Nat) : Int) := by simp [bcells]
    rw [e2, e]
    have e3 : (UInt8.ofNat (RowKit.intOf (Value.int .u8 n)).toNat).toNat = n.toNat := by
      show (UInt8.ofNat n.toNat).toNat = n.toNat
      rw [UInt8.toNat_ofNat']
      omega
    rw [e3, Int.toNat_of_nonneg n0]
theorem one_cell {cs : List Value} {k : Nat} {v : Value} (h : (cs.drop k).take 1 = [v]) : cs[k]? = some v := by
  cases hd : cs.drop k with
  | nil => rw [hd] at h; simp at h
  | cons a r =>
    rw [hd] at h
    simp only [List.take_succ_cons, List.take_zero, List.cons.injEq, and_true] at h
    have := List.getElem?_drop (xs := cs) (i := k) (j := 0)
    rw [hd] at this
    simp only [List.getElem?_cons_zero, Nat.add_zero] at this
    rw [← this, h]
theorem cells_ins {fuel : Nat} {cs : List Value} {x : DataW H × List MemPlace} (h : DataW.trod enc Tryz.prog w base spare held fuel 29 cs = some x) : ∃ i : Ins, cs = encI i ∧ ∃ parts, x.1 = .agg parts ∧ parts[8]? = some (.lit (.string i.tgt)) := by
  have hu : Tryz.prog.underlying 29 = some (.struct #[⟨"Publisher", 24, 0, false, "", "", 0⟩, ⟨"Seq", 25, 20, false, "", "", 24⟩, ⟨"Born", 25, 21, false, "", "", 32⟩, ⟨"Life", 26, 22, false, "", "", 40⟩, ⟨"Gone", 4, 23, false, "", "", 44⟩, ⟨"Priority", 27, 24, false, "", "", 46⟩, ⟨"Weight", 27, 25, false, "", "", 48⟩, ⟨"Port", 27, 26, false, "", "", 50⟩, ⟨"Target", 9, 27, false, "", "", 56⟩]) := by kernel_rfl
  have c28 : Tryz.prog.cellsOf 29 = 28 := by kernel_rfl
  have c23 : Tryz.prog.cellsOf 24 = 20 := by kernel_rfl
  have c24 : Tryz.prog.cellsOf 25 = 1 := by kernel_rfl
  have c25 : Tryz.prog.cellsOf 26 = 1 := by kernel_rfl
  have c26 : Tryz.prog.cellsOf 27 = 1 := by kernel_rfl
  have c4 : Tryz.prog.cellsOf 4 = 1 := by kernel_rfl
  have c9 : Tryz.prog.cellsOf 9 = 1 := by kernel_rfl
  obtain ⟨ys, m, _, rfl, hl, hlen, hf⟩ := DataW.trod_struct hu h
  rw [c28] at hl
  have g : ∀ k (hk : k < 9), ∃ y, ys[k]? = some y := fun k hk => ⟨ys[k]'(by rw [hlen]; exact hk), List.getElem?_eq_getElem _⟩
  obtain ⟨y0, e0⟩ := g 0 (by omega)
  obtain ⟨y1, e1⟩ := g 1 (by omega)
  obtain ⟨y2, e2⟩ := g 2 (by omega)
  obtain ⟨y3, e3⟩ := g 3 (by omega)
  obtain ⟨y4, e4⟩ := g 4 (by omega)
  obtain ⟨y5, e5⟩ := g 5 (by omega)
  obtain ⟨y6, e6⟩ := g 6 (by omega)
  obtain ⟨y7, e7⟩ := g 7 (by omega)
  obtain ⟨y8, e8⟩ := g 8 (by omega)
  have t0 := (hf 0 ⟨"Publisher", 24, 0, false, "", "", 0⟩ rfl).trans e0
  have t1 := (hf 1 ⟨"Seq", 25, 20, false, "", "", 24⟩ rfl).trans e1
  have t2 := (hf 2 ⟨"Born", 25, 21, false, "", "", 32⟩ rfl).trans e2
  have t3 := (hf 3 ⟨"Life", 26, 22, false, "", "", 40⟩ rfl).trans e3
  have t4 := (hf 4 ⟨"Gone", 4, 23, false, "", "", 44⟩ rfl).trans e4
  have t5 := (hf 5 ⟨"Priority", 27, 24, false, "", "", 46⟩ rfl).trans e5
  have t6 := (hf 6 ⟨"Weight", 27, 25, false, "", "", 48⟩ rfl).trans e6
  have t7 := (hf 7 ⟨"Port", 27, 26, false, "", "", 50⟩ rfl).trans e7
  have t8 := (hf 8 ⟨"Target", 9, 27, false, "", "", 56⟩ rfl).trans e8
  simp only [c23, List.drop_zero] at t0
  simp only [c24] at t1 t2
  simp only [c25] at t3
  simp only [c4] at t4
  simp only [c26] at t5 t6 t7
  simp only [c9] at t8
  obtain ⟨xs, hx, q0⟩ := cells_bytes t0
  obtain ⟨n1, q1, _, w1⟩ := DataW.trod_int (k := .u64) (by kernel_rfl) t1
  obtain ⟨n2, q2, _, w2⟩ := DataW.trod_int (k := .u64) (by kernel_rfl) t2
  obtain ⟨n3, q3, _, w3⟩ := DataW.trod_int (k := .u32) (by kernel_rfl) t3
  obtain ⟨n4, q4, _⟩ := DataW.trod_bool (by kernel_rfl) t4
  obtain ⟨n5, q5, _, w5⟩ := DataW.trod_int (k := .u16) (by kernel_rfl) t5
  obtain ⟨n6, q6, _, w6⟩ := DataW.trod_int (k := .u16) (by kernel_rfl) t6
  obtain ⟨n7, q7, _, w7⟩ := DataW.trod_int (k := .u16) (by kernel_rfl) t7
  obtain ⟨n8, q8, r8, _⟩ := DataW.trod_string (by kernel_rfl) t8
  have v1 := wf_u64 w1
  have v2 := wf_u64 w2
  have v3 := wf_u32 w3
  have v5 := wf_u16 w5
  have v6 := wf_u16 w6
  have v7 := wf_u16 w7
  have p1 := one_cell q1
  have p2 := one_cell q2
  have p3 := one_cell q3
  have p4 := one_cell q4
  have p5 := one_cell q5
  have p6 := one_cell q6
  have p7 := one_cell q7
  have p8 := one_cell q8
  refine ⟨⟨xs, n1.toNat, n2.toNat, n3.toNat, n4, n5.toNat, n6.toNat, n7.toNat, n8.data.toList, hx, by omega, by omega, by omega, by omega, by omega, by omega⟩, ?_, ys.map (·.1), rfl, ?_⟩
  · have e1 : cs = cs.take 20 ++ cs.drop 20 := (List.take_append_drop 20 cs).symm
    rw [e1, q0]
    unfold encI
    congr 1
    have hb : (⟨n8.data.toList.toArray⟩ : ByteArray) = n8 := by simp
    have hb2 : bstr n8.data.toList = n8 := by unfold bstr; exact hb
    apply List.ext_getElem?
    intro k
    rw [List.getElem?_drop]
    unfold tailI
    simp only [Int.toNat_of_nonneg v1.1, Int.toNat_of_nonneg v2.1, Int.toNat_of_nonneg v3.1, Int.toNat_of_nonneg v5.1, Int.toNat_of_nonneg v6.1, Int.toNat_of_nonneg v7.1, hb2]
    match k with
    | 0 => exact p1
    | 1 => exact p2
    | 2 => exact p3
    | 3 => exact p4
    | 4 => exact p5
    | 5 => exact p6
    | 6 => exact p7
    | 7 => exact p8
    | k + 8 => rw [List.getElem?_eq_none (by rw [hl]; omega)]; rfl
  · rw [List.getElem?_map, e8]
    simp only [Option.map_some]
    rw [r8]
theorem open_ins {b0 : Nat} {r : Reach} {v : Value} {d : DataW H} {ps : List MemPlace} (hval : Value.okWide Tryz.prog w r b0 29 v) (hd : DataW.Trod enc Tryz.prog w base spare held 29 v d ps) :
    ∃ i : Ins, v = .agg (encI i).toArray ∧ ∃ parts, d = .agg parts ∧ parts[8]? = some (.lit (.string i.tgt)) := by
  obtain ⟨cs, rfl, _⟩ := okWide_struct Tryz.underlying29 hval
  obtain ⟨fuel, hf⟩ := hd
  obtain ⟨c, he, parts, hp, h8⟩ := cells_ins hf
  refine ⟨c, ?_, parts, hp, h8⟩
  have : cs.toList = encI c := by simpa [Value.cells] using he
  rw [← this]
theorem sized_ins {ts : List TypeId} {ds : List (DataW H)} (h : (DataW.weightsEach Tryz.prog ts ds).all (· ≤ reachBytes) = true) {j : Nat} {parts : List (DataW H)} {i : Ins} (ht : ts[j]? = some 29) (hd : ds[j]? = some (.agg parts)) (h8 : parts[8]? = some (.lit (.string i.tgt))) : i.tgt.length ≤ reachBytes := by
  have hm : i.tgt.length ∈ (DataW.agg parts).weights Tryz.prog 29 := by
    have hu : Tryz.prog.underlying 29 = some (.struct #[⟨"Publisher", 24, 0, false, "", "", 0⟩, ⟨"Seq", 25, 20, false, "", "", 24⟩, ⟨"Born", 25, 21, false, "", "", 32⟩, ⟨"Life", 26, 22, false, "", "", 40⟩, ⟨"Gone", 4, 23, false, "", "", 44⟩, ⟨"Priority", 27, 24, false, "", "", 46⟩, ⟨"Weight", 27, 25, false, "", "", 48⟩, ⟨"Port", 27, 26, false, "", "", 50⟩, ⟨"Target", 9, 27, false, "", "", 56⟩]) := by kernel_rfl
    simp only [DataW.weights, hu]
    exact DataW.weights_mem_each (j := 8) (t := 9) rfl h8 _ (by simp [DataW.weights])
  have := List.all_eq_true.1 h _ (DataW.weights_mem_each ht hd _ hm)
  simpa using this
end
end Go.Proofs.YtkceipkgebgigaaGreat
end
section
namespace Go.Proofs.YtkceipkgebgigaaGreat
set_option maxRecDepth 100000
open Go.ChangeShapes Go.WideShapes Go.ChangeAt Go.RowKit Go.Deep
theorem addr_addI (b o i : Nat) : (⟨b, o, none⟩ : Addr).add i = ⟨b, o + i, none⟩ := by unfold Addr.add; split <;> simp_all
theorem und56 : Tryz.prog.underlying 22 = some (.slice 29) := by kernel_rfl
theorem open_inss {H : Type} {enc : TypeId × Value → H} {W : World} {base : Nat} {sp : Nat → Bool} {hd : Bool} {a : Option Addr} {len cap : Nat} {d : DataW H} {p : List MemPlace} (h : DataW.Trod enc Tryz.prog W base sp hd 22 (.slice a len cap) d p) :
    ∃ L : List Ins, L.length = len ∧ IAt W W.heap.size a L ∧ len ≤ cap ∧ len ≤ maxLen := by
  obtain ⟨fuel, hf⟩ := h
  have hc26 : Tryz.prog.cellsOf 29 = 28 := by kernel_rfl
  rcases open_slice und56 hf with ⟨hcs, _⟩ | ⟨x, l, c, m, n, D, Pl, hcs, _, hl, hm, hmm, hsp, hcell⟩
  · simp [Value.cells] at hcs
    obtain ⟨rfl, rfl, rfl⟩ := hcs
    exact ⟨[], rfl, .inl rfl, Nat.le_refl _, Nat.zero_le _⟩
  · simp [Value.cells] at hcs
    obtain ⟨rfl, rfl, rfl⟩ := hcs
    have hlm : len ≤ m := by rw [hmm]; split <;> omega
    obtain ⟨f, hf⟩ := choose_lt (α := Ins) (n := m) (p := fun i q => ∀ k, k < 28 → W.cell? ((x.add (i * 28)).add k) = (encI q)[k]?) (fun i hi => by
      obtain ⟨cs', c0, t0⟩ := hcell i hi
      rw [hc26] at c0
      obtain ⟨q, rfl, _⟩ := cells_ins t0
      exact ⟨q, (World.cells?_some c0).2.2⟩)
    refine ⟨(List.range len).map f, by simp, ?_, hl, Nat.le_trans hl hm⟩
    by_cases h0 : len = 0
    · left
      rw [h0]
      rfl
    · right
      have hget : ∀ i, i < len → ((List.range len).map f)[i]? = some (f i) := fun i hi => by simp [hi]
      obtain ⟨b, off, spot⟩ := x
      have hc0 : W.cell? (((⟨b, off, spot⟩ : Addr).add (0 * 28)).add 0) = some ((encI (f 0))[0]'(by rw [encI_length]; omega)) := by
        rw [hf 0 (by omega) 0 (by omega), List.getElem?_eq_getElem]
      have hspot : spot = none := by
        have := World.cell?_spot hc0
        simpa [Addr.add] using this
      subst hspot
      have e : ∀ i k, ((⟨b, off, none⟩ : Addr).add (i * 28)).add k = ⟨b, off + (i * 28 + k), none⟩ := fun i k => by rw [addr_addI, addr_addI, Nat.add_assoc]
      refine ⟨b, off, rfl, ?_, fun j v hv => ?_⟩
      · rw [e] at hc0
        exact World.block_lt_of_cell? W _ hc0
      · have hj : j < len * 28 := by
          have := (List.getElem?_eq_some_iff.1 hv).1
          rw [flatE_length encI_length] at this
          simpa using this
        have h1 := hf (j / 28) (by omega) (j % 28) (Nat.mod_lt _ (by omega))
        rw [e, show j / 28 * 28 + j % 28 = j by omega] at h1
        rw [h1]
        have h2 := flatE_get encI_length (by omega) ((List.range len).map f) (j / 28) _ (j % 28) (hget (j / 28) (by omega)) (Nat.mod_lt _ (by omega))
        rw [show j / 28 * 28 + j % 28 = j by omega, hv] at h2
        exact h2.symm
/-- A slice's address is none, or that of a row. -/
theorem okWide_spot {w : World} {r : Reach} {base : Nat} {t e : TypeId} {a : Option Addr} {len cap : Nat} (ht : Tryz.prog.underlying t = some (.slice e)) (h : Value.okWide Tryz.prog w r base t (.slice a len cap)) : a = none ∨ ∃ g off, a = some ⟨g, off, none⟩ := by
  cases a with
  | none => exact .inl rfl
  | some x =>
    simp only [Value.okWide, ht, Cell.okWide, Cell.ok, World.has] at h
    obtain ⟨g, off, spot⟩ := x
    obtain ⟨_, _, _, hs, _⟩ := h
    simp only at hs
    subst hs
    exact .inr ⟨g, off, rfl⟩
end Go.Proofs.YtkceipkgebgigaaGreat
end
