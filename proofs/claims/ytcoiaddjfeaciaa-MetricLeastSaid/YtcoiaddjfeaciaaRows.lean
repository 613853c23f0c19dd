/-
  No cell of these rows narrows 'for every input' (looked for: loops, veiled, ifaces, maps, wideKeys, modest, calm, conditions, laid).
  DERIVED. THE GIVEN ROWS OF THIS SEAT. 9 by the template 'for every input the law returns true; each argument reads behind the call as it read before'; 0 by the template 'total and deterministic' (their statements: YtcoiaddjfeaciaaTotals.lean).
  GIVEN WITH THE SEED: the statements are not yours to turn. If you find one false, say at which input.
  Laid BY PROGRAM, IN A SANDBOX (cutbox-rows.mjs): the forced cells as the released guide's own fill.sh prints them over the translation beb3c974039ca5bf… (all of the seat's roots in one cut). By AI agents, Wed Nov 11 2026. No macro, syntax, notation, axiom, sorry.
-/
import Derived.Test.YtcoiaddjfeaciaaChecked
import GoSem.Claim
import GoSem.ClaimJoined
import GoSem.ClaimMapViews
import Derived.JoinedTies
import Derived.KernelRfl
namespace Go.Proofs.Ytcoiaddjfeaciaa
/- THE CELL 'sum', in the pinned program and in every row, IS THE sha256 OF THE DUMP (.gsa) THAT YtcoiaddjfeaciaaProg.lean LOADS. Nothing in Lean hashes anything: it is a label: what it is worth is what the hold of that sum in a sandbox is worth. -/
noncomputable def Try.pinned : Pinned := { name := "ytcoiaddjfeaciaa", sum := "beb3c974039ca5bf2d4d3ac2460074d0fae65e8960b75eed8271948091863421", checked := Try.checked }
namespace Rows
def none {H : Type} : Left H := { results := [], args := [] }

/-- 'signpostlaw02.ShaSums': WHATEVER THE INPUT: true; the input reads as it did. -/
def shaSumsSpec : ChangeSpec := { name := "shaSums", fn := fun _ => fun
  | [d1, d2] => { results := [.lit (.bool true)], args := [d1, d2] }
  | _ => none }
def shaSumsRow : OpenClaim := { program := "ytcoiaddjfeaciaa", sum := "beb3c974039ca5bf2d4d3ac2460074d0fae65e8960b75eed8271948091863421", func := "signpost/signpostlaw02.ShaSums", spec := "shaSums", unfollowed := true, recurses := true, apart := false }
def ShaSumsSaid : Prop := shaSumsRow.holds Try.pinned (OpenSpec.ofChange shaSumsSpec)

/-- ITS FALSE NEIGHBOUR: 'it returns false'. Refute it at one input. -/
def shaSumsWrong : ChangeSpec := { name := "shaSums", fn := fun _ => fun
  | [d1, d2] => { results := [.lit (.bool false)], args := [d1, d2] }
  | _ => none }
def ShaSumsWrongFalsely : Prop := shaSumsRow.holds Try.pinned (OpenSpec.ofChange shaSumsWrong)

/-- 'signpostlaw02.ShaPieces': WHATEVER THE INPUT: true; the input reads as it did. -/
def shaPiecesSpec : ChangeSpec := { name := "shaPieces", fn := fun _ => fun
  | [d1, d2] => { results := [.lit (.bool true)], args := [d1, d2] }
  | _ => none }
def shaPiecesRow : OpenClaim := { program := "ytcoiaddjfeaciaa", sum := "beb3c974039ca5bf2d4d3ac2460074d0fae65e8960b75eed8271948091863421", func := "signpost/signpostlaw02.ShaPieces", spec := "shaPieces", unfollowed := true, recurses := true, apart := false }
def ShaPiecesSaid : Prop := shaPiecesRow.holds Try.pinned (OpenSpec.ofChange shaPiecesSpec)

/-- ITS FALSE NEIGHBOUR: 'it returns false'. Refute it at one input. -/
def shaPiecesWrong : ChangeSpec := { name := "shaPieces", fn := fun _ => fun
  | [d1, d2] => { results := [.lit (.bool false)], args := [d1, d2] }
  | _ => none }
def ShaPiecesWrongFalsely : Prop := shaPiecesRow.holds Try.pinned (OpenSpec.ofChange shaPiecesWrong)

/-- 'signpostlaw03.IdentBits': WHATEVER THE INPUT: true; the input reads as it did. -/
def identBitsSpec : ChangeSpec := { name := "identBits", fn := fun _ => fun
  | [d1, d2, d3, d4] => { results := [.lit (.bool true)], args := [d1, d2, d3, d4] }
  | _ => none }
def identBitsRow : OpenClaim := { program := "ytcoiaddjfeaciaa", sum := "beb3c974039ca5bf2d4d3ac2460074d0fae65e8960b75eed8271948091863421", func := "signpost/signpostlaw03.IdentBits", spec := "identBits", unfollowed := true, recurses := true, apart := false }
def IdentBitsSaid : Prop := identBitsRow.holds Try.pinned (OpenSpec.ofChange identBitsSpec)

/-- ITS FALSE NEIGHBOUR: 'it returns false'. Refute it at one input. -/
def identBitsWrong : ChangeSpec := { name := "identBits", fn := fun _ => fun
  | [d1, d2, d3, d4] => { results := [.lit (.bool false)], args := [d1, d2, d3, d4] }
  | _ => none }
def IdentBitsWrongFalsely : Prop := identBitsRow.holds Try.pinned (OpenSpec.ofChange identBitsWrong)

/-- 'signpostlaw03.IdentTexts': WHATEVER THE INPUT: true; the input reads as it did. -/
def identTextsSpec : ChangeSpec := { name := "identTexts", fn := fun _ => fun
  | [d1, d2] => { results := [.lit (.bool true)], args := [d1, d2] }
  | _ => none }
def identTextsRow : OpenClaim := { program := "ytcoiaddjfeaciaa", sum := "beb3c974039ca5bf2d4d3ac2460074d0fae65e8960b75eed8271948091863421", func := "signpost/signpostlaw03.IdentTexts", spec := "identTexts", inPlace := ["internal/bytealg.IndexByteString"], unfollowed := true, recurses := true, apart := false }
def IdentTextsSaid : Prop := identTextsRow.holds Try.pinned (OpenSpec.ofChange identTextsSpec)

/-- ITS FALSE NEIGHBOUR: 'it returns false'. Refute it at one input. -/
def identTextsWrong : ChangeSpec := { name := "identTexts", fn := fun _ => fun
  | [d1, d2] => { results := [.lit (.bool false)], args := [d1, d2] }
  | _ => none }
def IdentTextsWrongFalsely : Prop := identTextsRow.holds Try.pinned (OpenSpec.ofChange identTextsWrong)

/-- 'signpostlaw03.IdentSorts': WHATEVER THE INPUT: true; the input reads as it did. -/
def identSortsSpec : ChangeSpec := { name := "identSorts", fn := fun _ => fun
  | [d] => { results := [.lit (.bool true)], args := [d] }
  | _ => none }
def identSortsRow : OpenClaim := { program := "ytcoiaddjfeaciaa", sum := "beb3c974039ca5bf2d4d3ac2460074d0fae65e8960b75eed8271948091863421", func := "signpost/signpostlaw03.IdentSorts", spec := "identSorts", unfollowed := true, recurses := true, apart := false }
def IdentSortsSaid : Prop := identSortsRow.holds Try.pinned (OpenSpec.ofChange identSortsSpec)

/-- ITS FALSE NEIGHBOUR: 'it returns false'. Refute it at one input. -/
def identSortsWrong : ChangeSpec := { name := "identSorts", fn := fun _ => fun
  | [d] => { results := [.lit (.bool false)], args := [d] }
  | _ => none }
def IdentSortsWrongFalsely : Prop := identSortsRow.holds Try.pinned (OpenSpec.ofChange identSortsWrong)

/-- 'signpostlaw03.IdentFar': WHATEVER THE INPUT: true; the input reads as it did. -/
def identFarSpec : ChangeSpec := { name := "identFar", fn := fun _ => fun
  | [d1, d2, d3] => { results := [.lit (.bool true)], args := [d1, d2, d3] }
  | _ => none }
def identFarRow : OpenClaim := { program := "ytcoiaddjfeaciaa", sum := "beb3c974039ca5bf2d4d3ac2460074d0fae65e8960b75eed8271948091863421", func := "signpost/signpostlaw03.IdentFar", spec := "identFar", unfollowed := true, recurses := true, apart := false }
def IdentFarSaid : Prop := identFarRow.holds Try.pinned (OpenSpec.ofChange identFarSpec)

/-- ITS FALSE NEIGHBOUR: 'it returns false'. Refute it at one input. -/
def identFarWrong : ChangeSpec := { name := "identFar", fn := fun _ => fun
  | [d1, d2, d3] => { results := [.lit (.bool false)], args := [d1, d2, d3] }
  | _ => none }
def IdentFarWrongFalsely : Prop := identFarRow.holds Try.pinned (OpenSpec.ofChange identFarWrong)

/-- 'signpostlaw04.MetricSorts': WHATEVER THE INPUT: true; the input reads as it did. -/
def metricSortsSpec : ChangeSpec := { name := "metricSorts", fn := fun _ => fun
  | [d1, d2, d3, d4] => { results := [.lit (.bool true)], args := [d1, d2, d3, d4] }
  | _ => none }
def metricSortsRow : OpenClaim := { program := "ytcoiaddjfeaciaa", sum := "beb3c974039ca5bf2d4d3ac2460074d0fae65e8960b75eed8271948091863421", func := "signpost/signpostlaw04.MetricSorts", spec := "metricSorts", unfollowed := true, recurses := true, apart := false }
def MetricSortsSaid : Prop := metricSortsRow.holds Try.pinned (OpenSpec.ofChange metricSortsSpec)

/-- ITS FALSE NEIGHBOUR: 'it returns false'. Refute it at one input. -/
def metricSortsWrong : ChangeSpec := { name := "metricSorts", fn := fun _ => fun
  | [d1, d2, d3, d4] => { results := [.lit (.bool false)], args := [d1, d2, d3, d4] }
  | _ => none }
def MetricSortsWrongFalsely : Prop := metricSortsRow.holds Try.pinned (OpenSpec.ofChange metricSortsWrong)

/-- 'signpostlaw04.MetricOrder': WHATEVER THE INPUT: true; the input reads as it did. -/
def metricOrderSpec : ChangeSpec := { name := "metricOrder", fn := fun _ => fun
  | [d1, d2, d3, d4] => { results := [.lit (.bool true)], args := [d1, d2, d3, d4] }
  | _ => none }
def metricOrderRow : OpenClaim := { program := "ytcoiaddjfeaciaa", sum := "beb3c974039ca5bf2d4d3ac2460074d0fae65e8960b75eed8271948091863421", func := "signpost/signpostlaw04.MetricOrder", spec := "metricOrder", unfollowed := true, recurses := true, apart := false }
def MetricOrderSaid : Prop := metricOrderRow.holds Try.pinned (OpenSpec.ofChange metricOrderSpec)

/-- ITS FALSE NEIGHBOUR: 'it returns false'. Refute it at one input. -/
def metricOrderWrong : ChangeSpec := { name := "metricOrder", fn := fun _ => fun
  | [d1, d2, d3, d4] => { results := [.lit (.bool false)], args := [d1, d2, d3, d4] }
  | _ => none }
def MetricOrderWrongFalsely : Prop := metricOrderRow.holds Try.pinned (OpenSpec.ofChange metricOrderWrong)

/-- 'signpostlaw04.MetricLeast': WHATEVER THE INPUT: true; the input reads as it did. -/
def metricLeastSpec : ChangeSpec := { name := "metricLeast", fn := fun _ => fun
  | [d1, d2, d3] => { results := [.lit (.bool true)], args := [d1, d2, d3] }
  | _ => none }
def metricLeastRow : OpenClaim := { program := "ytcoiaddjfeaciaa", sum := "beb3c974039ca5bf2d4d3ac2460074d0fae65e8960b75eed8271948091863421", func := "signpost/signpostlaw04.MetricLeast", spec := "metricLeast", unfollowed := true, recurses := true, apart := false }
def MetricLeastSaid : Prop := metricLeastRow.holds Try.pinned (OpenSpec.ofChange metricLeastSpec)

/-- ITS FALSE NEIGHBOUR: 'it returns false'. Refute it at one input. -/
def metricLeastWrong : ChangeSpec := { name := "metricLeast", fn := fun _ => fun
  | [d1, d2, d3] => { results := [.lit (.bool false)], args := [d1, d2, d3] }
  | _ => none }
def MetricLeastWrongFalsely : Prop := metricLeastRow.holds Try.pinned (OpenSpec.ofChange metricLeastWrong)

/- THE SECOND FORM. 'bulk': how many values and letters a reading holds, each counted each time it is reached (what is shared counts as often as it is met; a slice's spare places count too). A statement '..UptoSaid' is the law's where the arguments, and the package variables that the reading takes, are together of bulk at most 1048576: NARROWER than '..Said'. Prove '..Said' where nothing that the law and all that it calls make is longer than what came in: it says more and counts as full. Else prove '..UptoSaid'. A law counts once. -/
mutual
def uptoBulk {H : Type} : DataW H → Nat
  | .lit (.string bytes) => bytes.length + 1
  | .lit _ => 1
  | .nil => 1
  | .ptr d => uptoBulk d + 1
  | .slice elems spare => uptoBulkAll elems + uptoBulkAll spare + 1
  | .agg parts => uptoBulkAll parts + 1
  | .iface _ d => uptoBulk d + 1
  | .map entries => uptoBulkEntries entries + 1
  | .held _ => 1
def uptoBulkAll {H : Type} : List (DataW H) → Nat
  | [] => 0
  | d :: r => uptoBulk d + uptoBulkAll r
def uptoBulkEntries {H : Type} : List (Lit × DataW H) → Nat
  | [] => 0
  | x :: r => uptoBulkEntry x + uptoBulkEntries r
def uptoBulkEntry {H : Type} : Lit × DataW H → Nat
  | (.string bytes, d) => bytes.length + uptoBulk d + 1
  | (_, d) => uptoBulk d + 1
 end
def uptoSmall : (H : Type) → List (DataW H) → Bool := fun _ ds => decide (uptoBulkAll ds ≤ 1048576)
def OpenSpec.upto (s : _root_.Go.ChangeSpec) : _root_.Go.OpenSpec := { _root_.Go.OpenSpec.ofChange s with cond := some uptoSmall }

/-- 'signpostlaw02.ShaSums', WHERE WHAT IT READS IS OF BULK AT MOST 1048576: true; the input reads as it did. -/
def shaSumsUptoRow : OpenClaim := { program := "ytcoiaddjfeaciaa", sum := "beb3c974039ca5bf2d4d3ac2460074d0fae65e8960b75eed8271948091863421", func := "signpost/signpostlaw02.ShaSums", spec := "shaSums", unfollowed := true, recurses := true, apart := false, narrowed := true }
def ShaSumsUptoSaid : Prop := shaSumsUptoRow.holds Try.pinned (OpenSpec.upto shaSumsSpec)

/-- 'signpostlaw02.ShaPieces', WHERE WHAT IT READS IS OF BULK AT MOST 1048576: true; the input reads as it did. -/
def shaPiecesUptoRow : OpenClaim := { program := "ytcoiaddjfeaciaa", sum := "beb3c974039ca5bf2d4d3ac2460074d0fae65e8960b75eed8271948091863421", func := "signpost/signpostlaw02.ShaPieces", spec := "shaPieces", unfollowed := true, recurses := true, apart := false, narrowed := true }
def ShaPiecesUptoSaid : Prop := shaPiecesUptoRow.holds Try.pinned (OpenSpec.upto shaPiecesSpec)

/-- 'signpostlaw03.IdentBits', WHERE WHAT IT READS IS OF BULK AT MOST 1048576: true; the input reads as it did. -/
def identBitsUptoRow : OpenClaim := { program := "ytcoiaddjfeaciaa", sum := "beb3c974039ca5bf2d4d3ac2460074d0fae65e8960b75eed8271948091863421", func := "signpost/signpostlaw03.IdentBits", spec := "identBits", unfollowed := true, recurses := true, apart := false, narrowed := true }
def IdentBitsUptoSaid : Prop := identBitsUptoRow.holds Try.pinned (OpenSpec.upto identBitsSpec)

/-- 'signpostlaw03.IdentTexts', WHERE WHAT IT READS IS OF BULK AT MOST 1048576: true; the input reads as it did. -/
def identTextsUptoRow : OpenClaim := { program := "ytcoiaddjfeaciaa", sum := "beb3c974039ca5bf2d4d3ac2460074d0fae65e8960b75eed8271948091863421", func := "signpost/signpostlaw03.IdentTexts", spec := "identTexts", inPlace := ["internal/bytealg.IndexByteString"], unfollowed := true, recurses := true, apart := false, narrowed := true }
def IdentTextsUptoSaid : Prop := identTextsUptoRow.holds Try.pinned (OpenSpec.upto identTextsSpec)

/-- 'signpostlaw03.IdentSorts', WHERE WHAT IT READS IS OF BULK AT MOST 1048576: true; the input reads as it did. -/
def identSortsUptoRow : OpenClaim := { program := "ytcoiaddjfeaciaa", sum := "beb3c974039ca5bf2d4d3ac2460074d0fae65e8960b75eed8271948091863421", func := "signpost/signpostlaw03.IdentSorts", spec := "identSorts", unfollowed := true, recurses := true, apart := false, narrowed := true }
def IdentSortsUptoSaid : Prop := identSortsUptoRow.holds Try.pinned (OpenSpec.upto identSortsSpec)

/-- 'signpostlaw03.IdentFar', WHERE WHAT IT READS IS OF BULK AT MOST 1048576: true; the input reads as it did. -/
def identFarUptoRow : OpenClaim := { program := "ytcoiaddjfeaciaa", sum := "beb3c974039ca5bf2d4d3ac2460074d0fae65e8960b75eed8271948091863421", func := "signpost/signpostlaw03.IdentFar", spec := "identFar", unfollowed := true, recurses := true, apart := false, narrowed := true }
def IdentFarUptoSaid : Prop := identFarUptoRow.holds Try.pinned (OpenSpec.upto identFarSpec)

/-- 'signpostlaw04.MetricSorts', WHERE WHAT IT READS IS OF BULK AT MOST 1048576: true; the input reads as it did. -/
def metricSortsUptoRow : OpenClaim := { program := "ytcoiaddjfeaciaa", sum := "beb3c974039ca5bf2d4d3ac2460074d0fae65e8960b75eed8271948091863421", func := "signpost/signpostlaw04.MetricSorts", spec := "metricSorts", unfollowed := true, recurses := true, apart := false, narrowed := true }
def MetricSortsUptoSaid : Prop := metricSortsUptoRow.holds Try.pinned (OpenSpec.upto metricSortsSpec)

/-- 'signpostlaw04.MetricOrder', WHERE WHAT IT READS IS OF BULK AT MOST 1048576: true; the input reads as it did. -/
def metricOrderUptoRow : OpenClaim := { program := "ytcoiaddjfeaciaa", sum := "beb3c974039ca5bf2d4d3ac2460074d0fae65e8960b75eed8271948091863421", func := "signpost/signpostlaw04.MetricOrder", spec := "metricOrder", unfollowed := true, recurses := true, apart := false, narrowed := true }
def MetricOrderUptoSaid : Prop := metricOrderUptoRow.holds Try.pinned (OpenSpec.upto metricOrderSpec)

/-- 'signpostlaw04.MetricLeast', WHERE WHAT IT READS IS OF BULK AT MOST 1048576: true; the input reads as it did. -/
def metricLeastUptoRow : OpenClaim := { program := "ytcoiaddjfeaciaa", sum := "beb3c974039ca5bf2d4d3ac2460074d0fae65e8960b75eed8271948091863421", func := "signpost/signpostlaw04.MetricLeast", spec := "metricLeast", unfollowed := true, recurses := true, apart := false, narrowed := true }
def MetricLeastUptoSaid : Prop := metricLeastUptoRow.holds Try.pinned (OpenSpec.upto metricLeastSpec)

end Rows
end Go.Proofs.Ytcoiaddjfeaciaa
