/- Addresses, texts and bytes that come in; the library's table of powers of ten, as the rows list it; a start that holds it. No condition. -/
import Derived.Test.YtieeffebecghiaaDoorAcc
import Derived.Test.YtieeffebecghiaaDoorCards
import Derived.Test.YtieeffebecghiaaDoorTie
import Derived.WalkKit
import Derived.ProofKit
import Derived.OpenShut
import Derived.ShutString
import Derived.ChangeOld
import Derived.ChangeArms
import Derived.Below
import Derived.Deep.DeepHandedRow
import Derived.Lib.LaidTab
import Derived.LaidMore
namespace Go.Proofs.YtieeffebecghiaaDoor
set_option maxRecDepth 100000
set_option linter.unusedVariables false
open Go.ChangeShapes Go.WideShapes Go.ChangeAt Go.RowKit

theorem own : ownKnob Tryd.prog.godebug = none := by kernel_rfl
theorem laidOut : laidOutB Tryd.prog = true := by kernel_rfl
def laid3 {H : Type} : List (String × DataW H) := [("math/bits.deBruijn32tab", Rows.laid_math_bits_deBruijn32tab), ("math/bits.deBruijn64tab", Rows.laid_math_bits_deBruijn64tab), ("internal/strconv.uint64pow10", Rows.laid_internal_strconv_uint64pow10)]

theorem wf_u32 {n : Int} (h : (Lit.int .u32 n).wf = true) : 0 ≤ n ∧ n < 4294967296 := by
  simp [Lit.wf, IntKind.min, IntKind.max, IntKind.bits, IntKind.signed] at h
  omega
theorem wf_u16 {n : Int} (h : (Lit.int .u16 n).wf = true) : 0 ≤ n ∧ n < 65536 := by
  simp [Lit.wf, IntKind.min, IntKind.max, IntKind.bits, IntKind.signed] at h
  omega
theorem open_adr {H : Type} {enc : TypeId × Value → H} {w : World} {base b0 : Nat} {r : Reach} {spare : Nat → Bool} {held : Bool} {v : Value} {d : DataW H} {ps : List MemPlace} (hval : Value.okWide Tryd.prog w r b0 25 v) (hd : DataW.Trod enc Tryd.prog w base spare held 25 v d ps) :
    ∃ h p : Nat, h < 4294967296 ∧ p < 65536 ∧ v = .agg (adr h p) := by
  have hu := Tryd.underlying25
  simp only [Value.okWide, hu] at hval
  obtain ⟨cs, rfl, _⟩ := hval
  obtain ⟨fuel, hf⟩ := hd
  obtain ⟨xs, m, _, _, hl, hx, hi⟩ := DataW.trod_struct hu hf
  have c25 : Tryd.prog.cellsOf 25 = 2 := by kernel_rfl
  have c22 : Tryd.prog.cellsOf 22 = 1 := by kernel_rfl
  have c23 : Tryd.prog.cellsOf 23 = 1 := by kernel_rfl
  rw [c25] at hl
  have e0 := hi 0 _ rfl
  have e1 := hi 1 _ rfl
  have hx2 : xs.length = 2 := hx
  rw [List.getElem?_eq_getElem (by omega)] at e0 e1
  have e0' : DataW.trod enc Tryd.prog w base spare held m 22 (((Value.cells (.agg cs)).toList.drop 0).take (Tryd.prog.cellsOf 22)) = some (xs[0]'(by omega)) := e0
  have e1' : DataW.trod enc Tryd.prog w base spare held m 23 (((Value.cells (.agg cs)).toList.drop 1).take (Tryd.prog.cellsOf 23)) = some (xs[1]'(by omega)) := e1
  rw [c22] at e0'
  rw [c23] at e1'
  obtain ⟨a, ea, _, wa⟩ := DataW.trod_int Tryd.underlying22 e0'
  obtain ⟨b, eb, _, wb⟩ := DataW.trod_int Tryd.underlying23 e1'
  have ha := wf_u32 wa
  have hb := wf_u16 wb
  refine ⟨a.toNat, b.toNat, by omega, by omega, ?_⟩
  have hcs : cs.toList = [.int .u32 a, .int .u16 b] := by
    simp only [Value.cells] at ea eb hl
    match hq : cs.toList, hl, ea, eb with
    | [x, y], _, ea, eb =>
      simp at ea eb
      rw [ea, eb]
  unfold adr
  rw [Int.toNat_of_nonneg ha.1, Int.toNat_of_nonneg hb.1, ← hcs]

/-- What the rows' list gives: the table's cells hold the powers of ten. -/
theorem table {W : World} (h : laidMetH Tryd.prog laid3 W) : Tab W := by
  rw [MakeChecks.laidMetH_plain _ _ _ (by kernel_rfl)] at h
  obtain ⟨ps, ⟨g0, t0, cs0, f0, p0, q0, hg0, ht0, hv0, hd0, ⟨g1, t1, cs1, f1, p1, q1, hg1, ht1, hv1, hd1, ⟨g2, t2, cs2, f2, p2, q2, hg2, ht2, hv2, hd2, _, _⟩, _⟩, _⟩, _⟩ := h
  have e : (Rows.laid_internal_strconv_uint64pow10 : DataW Unit) = Lib.tabData .u64 Lib.pow10Tab := by kernel_rfl
  rw [e] at hd2
  obtain rfl := Option.some.inj ((show Tryd.prog.globalNamed "internal/strconv.uint64pow10" = some 0 by kernel_rfl).symm.trans hg2)
  obtain rfl := Option.some.inj ((show (Tryd.prog.globals[0]?).map (·.type) = some 82 by kernel_rfl).symm.trans ht2)
  have hc := Lib.cells_of_tab Tryd.underlying82 Tryd.underlying48 (by kernel_rfl) (by kernel_rfl) hd2
  unfold Tab Lib.TabIs
  rw [hv2, ← hc]
theorem door_met (os : Os) (args : Array Value) : laidMetH Tryd.prog laid3 ((World.doorLaid Tryd.prog 24 os).forCall (fun _ _ => 0) ⟨#[], args, []⟩).memory :=
  laidMetH_of_parts3 (fuel := 8) (laidMet_of_run' 8 (by kernel_rfl) (by kernel_rfl)) (by kernel_rfl) (by kernel_rfl)
end Go.Proofs.YtieeffebecghiaaDoor
