/-
  No cell of these rows narrows 'for every input' (looked for: loops, veiled, ifaces, maps, wideKeys, modest, calm, conditions, laid).
  DERIVED. THE GIVEN ROWS OF THIS SEAT. 7 by the template 'for every input the law returns true; each argument reads behind the call as it read before'; 0 by the template 'total and deterministic' (their statements: YtjiiignbejbiiaaTotals.lean).
  GIVEN WITH THE SEED: the statements are not yours to turn. If you find one false, say at which input.
  Laid BY PROGRAM, IN A SANDBOX (cutbox-rows.mjs): the forced cells as the released guide's own fill.sh prints them over the translation 632752a03faedce8… (all of the seat's roots in one cut). By AI agents, Wed Nov 11 2026. No macro, syntax, notation, axiom, sorry.
-/
import Derived.Test.YtjiiignbejbiiaaChecked
import GoSem.Claim
import GoSem.ClaimJoined
import GoSem.ClaimMapViews
import Derived.JoinedTies
import Derived.KernelRfl
namespace Go.Proofs.Ytjiiignbejbiiaa
/- THE CELL 'sum', in the pinned program and in every row, IS THE sha256 OF THE DUMP (.gsa) THAT YtjiiignbejbiiaaProg.lean LOADS. Nothing in Lean hashes anything: it is a label: what it is worth is what the hold of that sum in a sandbox is worth. -/
noncomputable def Try.pinned : Pinned := { name := "ytjiiignbejbiiaa", sum := "632752a03faedce8cdc30327bdbd2388b825c1ff8931b98e2df45e4d77cbdf3a", checked := Try.checked }
namespace Rows
def none {H : Type} : Left H := { results := [], args := [] }

/-- 'signpostlaw09.LabelTells': WHATEVER THE INPUT: true; the input reads as it did. -/
def labelTellsSpec : ChangeSpec := { name := "labelTells", fn := fun _ => fun
  | [d1, d2] => { results := [.lit (.bool true)], args := [d1, d2] }
  | _ => none }
def labelTellsRow : OpenClaim := { program := "ytjiiignbejbiiaa", sum := "632752a03faedce8cdc30327bdbd2388b825c1ff8931b98e2df45e4d77cbdf3a", func := "signpost/signpostlaw09.LabelTells", spec := "labelTells", inPlace := ["internal/bytealg.IndexByteString", "internal/bytealg.IndexString"], unfollowed := true, recurses := true, named := ["internal/bytealg.MaxLen"], apart := false }
def LabelTellsSaid : Prop := labelTellsRow.holds Try.pinned (OpenSpec.ofChange labelTellsSpec)

/-- ITS FALSE NEIGHBOUR: 'it returns false'. Refute it at one input. -/
def labelTellsWrong : ChangeSpec := { name := "labelTells", fn := fun _ => fun
  | [d1, d2] => { results := [.lit (.bool false)], args := [d1, d2] }
  | _ => none }
def LabelTellsWrongFalsely : Prop := labelTellsRow.holds Try.pinned (OpenSpec.ofChange labelTellsWrong)

/-- 'signpostlaw09.LabelBytes': WHATEVER THE INPUT: true; the input reads as it did. -/
def labelBytesSpec : ChangeSpec := { name := "labelBytes", fn := fun _ => fun
  | [d1, d2, d3] => { results := [.lit (.bool true)], args := [d1, d2, d3] }
  | _ => none }
def labelBytesRow : OpenClaim := { program := "ytjiiignbejbiiaa", sum := "632752a03faedce8cdc30327bdbd2388b825c1ff8931b98e2df45e4d77cbdf3a", func := "signpost/signpostlaw09.LabelBytes", spec := "labelBytes", inPlace := ["internal/bytealg.IndexByteString", "internal/bytealg.IndexString", "internal/abi.NoEscape", "internal/bytealg.MakeNoZero"], unfollowed := true, recurses := true, named := ["internal/bytealg.MaxLen"], apart := false }
def LabelBytesSaid : Prop := labelBytesRow.holds Try.pinned (OpenSpec.ofChange labelBytesSpec)

/-- ITS FALSE NEIGHBOUR: 'it returns false'. Refute it at one input. -/
def labelBytesWrong : ChangeSpec := { name := "labelBytes", fn := fun _ => fun
  | [d1, d2, d3] => { results := [.lit (.bool false)], args := [d1, d2, d3] }
  | _ => none }
def LabelBytesWrongFalsely : Prop := labelBytesRow.holds Try.pinned (OpenSpec.ofChange labelBytesWrong)

/-- 'signpostlaw09.LabelBack': WHATEVER THE INPUT: true; the input reads as it did. -/
def labelBackSpec : ChangeSpec := { name := "labelBack", fn := fun _ => fun
  | [d1, d2, d3] => { results := [.lit (.bool true)], args := [d1, d2, d3] }
  | _ => none }
def labelBackRow : OpenClaim := { program := "ytjiiignbejbiiaa", sum := "632752a03faedce8cdc30327bdbd2388b825c1ff8931b98e2df45e4d77cbdf3a", func := "signpost/signpostlaw09.LabelBack", spec := "labelBack", inPlace := ["internal/bytealg.IndexByteString", "internal/bytealg.IndexString", "internal/abi.NoEscape", "internal/bytealg.MakeNoZero"], unfollowed := true, recurses := true, named := ["internal/bytealg.MaxLen"], apart := false }
def LabelBackSaid : Prop := labelBackRow.holds Try.pinned (OpenSpec.ofChange labelBackSpec)

/-- ITS FALSE NEIGHBOUR: 'it returns false'. Refute it at one input. -/
def labelBackWrong : ChangeSpec := { name := "labelBack", fn := fun _ => fun
  | [d1, d2, d3] => { results := [.lit (.bool false)], args := [d1, d2, d3] }
  | _ => none }
def LabelBackWrongFalsely : Prop := labelBackRow.holds Try.pinned (OpenSpec.ofChange labelBackWrong)

/-- 'signpostlaw09.LabelUnder': WHATEVER THE INPUT: true; the input reads as it did. -/
def labelUnderSpec : ChangeSpec := { name := "labelUnder", fn := fun _ => fun
  | [d1, d2, d3] => { results := [.lit (.bool true)], args := [d1, d2, d3] }
  | _ => none }
def labelUnderRow : OpenClaim := { program := "ytjiiignbejbiiaa", sum := "632752a03faedce8cdc30327bdbd2388b825c1ff8931b98e2df45e4d77cbdf3a", func := "signpost/signpostlaw09.LabelUnder", spec := "labelUnder", inPlace := ["internal/bytealg.IndexByteString", "internal/bytealg.IndexString"], unfollowed := true, recurses := true, named := ["internal/bytealg.MaxLen"], apart := false }
def LabelUnderSaid : Prop := labelUnderRow.holds Try.pinned (OpenSpec.ofChange labelUnderSpec)

/-- ITS FALSE NEIGHBOUR: 'it returns false'. Refute it at one input. -/
def labelUnderWrong : ChangeSpec := { name := "labelUnder", fn := fun _ => fun
  | [d1, d2, d3] => { results := [.lit (.bool false)], args := [d1, d2, d3] }
  | _ => none }
def LabelUnderWrongFalsely : Prop := labelUnderRow.holds Try.pinned (OpenSpec.ofChange labelUnderWrong)

/-- 'signpostlaw10.ServiceTells': WHATEVER THE INPUT: true; the input reads as it did. -/
def serviceTellsSpec : ChangeSpec := { name := "serviceTells", fn := fun _ => fun
  | [d] => { results := [.lit (.bool true)], args := [d] }
  | _ => none }
def serviceTellsRow : OpenClaim := { program := "ytjiiignbejbiiaa", sum := "632752a03faedce8cdc30327bdbd2388b825c1ff8931b98e2df45e4d77cbdf3a", func := "signpost/signpostlaw10.ServiceTells", spec := "serviceTells", inPlace := ["internal/bytealg.IndexByteString", "internal/bytealg.IndexString", "internal/abi.NoEscape", "internal/bytealg.MakeNoZero"], unfollowed := true, recurses := true, named := ["internal/bytealg.MaxLen"], apart := false }
def ServiceTellsSaid : Prop := serviceTellsRow.holds Try.pinned (OpenSpec.ofChange serviceTellsSpec)

/-- ITS FALSE NEIGHBOUR: 'it returns false'. Refute it at one input. -/
def serviceTellsWrong : ChangeSpec := { name := "serviceTells", fn := fun _ => fun
  | [d] => { results := [.lit (.bool false)], args := [d] }
  | _ => none }
def ServiceTellsWrongFalsely : Prop := serviceTellsRow.holds Try.pinned (OpenSpec.ofChange serviceTellsWrong)

/-- 'signpostlaw10.ServiceJoins': WHATEVER THE INPUT: true; the input reads as it did. -/
def serviceJoinsSpec : ChangeSpec := { name := "serviceJoins", fn := fun _ => fun
  | [d1, d2, d3, d4] => { results := [.lit (.bool true)], args := [d1, d2, d3, d4] }
  | _ => none }
def serviceJoinsRow : OpenClaim := { program := "ytjiiignbejbiiaa", sum := "632752a03faedce8cdc30327bdbd2388b825c1ff8931b98e2df45e4d77cbdf3a", func := "signpost/signpostlaw10.ServiceJoins", spec := "serviceJoins", inPlace := ["internal/bytealg.IndexByteString", "internal/bytealg.IndexString", "internal/abi.NoEscape", "internal/bytealg.MakeNoZero"], unfollowed := true, recurses := true, named := ["internal/bytealg.MaxLen"], apart := false }
def ServiceJoinsSaid : Prop := serviceJoinsRow.holds Try.pinned (OpenSpec.ofChange serviceJoinsSpec)

/-- ITS FALSE NEIGHBOUR: 'it returns false'. Refute it at one input. -/
def serviceJoinsWrong : ChangeSpec := { name := "serviceJoins", fn := fun _ => fun
  | [d1, d2, d3, d4] => { results := [.lit (.bool false)], args := [d1, d2, d3, d4] }
  | _ => none }
def ServiceJoinsWrongFalsely : Prop := serviceJoinsRow.holds Try.pinned (OpenSpec.ofChange serviceJoinsWrong)

/-- 'signpostlaw10.ServiceKeys': WHATEVER THE INPUT: true; the input reads as it did. -/
def serviceKeysSpec : ChangeSpec := { name := "serviceKeys", fn := fun _ => fun
  | [d1, d2] => { results := [.lit (.bool true)], args := [d1, d2] }
  | _ => none }
def serviceKeysRow : OpenClaim := { program := "ytjiiignbejbiiaa", sum := "632752a03faedce8cdc30327bdbd2388b825c1ff8931b98e2df45e4d77cbdf3a", func := "signpost/signpostlaw10.ServiceKeys", spec := "serviceKeys", inPlace := ["internal/bytealg.IndexByteString", "internal/bytealg.IndexString", "internal/abi.NoEscape", "internal/bytealg.MakeNoZero"], unfollowed := true, recurses := true, named := ["internal/bytealg.MaxLen"], apart := false }
def ServiceKeysSaid : Prop := serviceKeysRow.holds Try.pinned (OpenSpec.ofChange serviceKeysSpec)

/-- ITS FALSE NEIGHBOUR: 'it returns false'. Refute it at one input. -/
def serviceKeysWrong : ChangeSpec := { name := "serviceKeys", fn := fun _ => fun
  | [d1, d2] => { results := [.lit (.bool false)], args := [d1, d2] }
  | _ => none }
def ServiceKeysWrongFalsely : Prop := serviceKeysRow.holds Try.pinned (OpenSpec.ofChange serviceKeysWrong)

/- THE SECOND FORM. 'bulk': how many values and letters a reading holds, each counted each time it is reached (what is shared counts as often as it is met; a slice's spare places count too). A statement '..UptoSaid' is the law's where the arguments, and the package variables that the reading takes, are together of bulk at most 1048576: NARROWER than '..Said'. Prove '..Said' where nothing that the law and all that it calls make is longer than what came in: it says more and counts as full. Else prove '..UptoSaid'. A law counts once. -/
mutual
def uptoBulk {H : Type} : DataW H → Nat
  | .lit (.string bytes) => bytes.length + 1
  | .lit _ => 1
  | .nil => 1
  | .ptr d => uptoBulk d + 1
  | .slice elems spare => uptoBulkAll elems + uptoBulkAll spare + 1
  | .agg parts => uptoBulkAll parts + 1
  | .iface _ d => uptoBulk d + 1
  | .map entries => uptoBulkEntries entries + 1
  | .held _ => 1
def uptoBulkAll {H : Type} : List (DataW H) → Nat
  | [] => 0
  | d :: r => uptoBulk d + uptoBulkAll r
def uptoBulkEntries {H : Type} : List (Lit × DataW H) → Nat
  | [] => 0
  | x :: r => uptoBulkEntry x + uptoBulkEntries r
def uptoBulkEntry {H : Type} : Lit × DataW H → Nat
  | (.string bytes, d) => bytes.length + uptoBulk d + 1
  | (_, d) => uptoBulk d + 1
 end
def uptoSmall : (H : Type) → List (DataW H) → Bool := fun _ ds => decide (uptoBulkAll ds ≤ 1048576)
def OpenSpec.upto (s : _root_.Go.ChangeSpec) : _root_.Go.OpenSpec := { _root_.Go.OpenSpec.ofChange s with cond := some uptoSmall }

/-- 'signpostlaw09.LabelTells', WHERE WHAT IT READS IS OF BULK AT MOST 1048576: true; the input reads as it did. -/
def labelTellsUptoRow : OpenClaim := { program := "ytjiiignbejbiiaa", sum := "632752a03faedce8cdc30327bdbd2388b825c1ff8931b98e2df45e4d77cbdf3a", func := "signpost/signpostlaw09.LabelTells", spec := "labelTells", inPlace := ["internal/bytealg.IndexByteString", "internal/bytealg.IndexString"], unfollowed := true, recurses := true, named := ["internal/bytealg.MaxLen"], apart := false, narrowed := true }
def LabelTellsUptoSaid : Prop := labelTellsUptoRow.holds Try.pinned (OpenSpec.upto labelTellsSpec)

/-- 'signpostlaw09.LabelBytes', WHERE WHAT IT READS IS OF BULK AT MOST 1048576: true; the input reads as it did. -/
def labelBytesUptoRow : OpenClaim := { program := "ytjiiignbejbiiaa", sum := "632752a03faedce8cdc30327bdbd2388b825c1ff8931b98e2df45e4d77cbdf3a", func := "signpost/signpostlaw09.LabelBytes", spec := "labelBytes", inPlace := ["internal/bytealg.IndexByteString", "internal/bytealg.IndexString", "internal/abi.NoEscape", "internal/bytealg.MakeNoZero"], unfollowed := true, recurses := true, named := ["internal/bytealg.MaxLen"], apart := false, narrowed := true }
def LabelBytesUptoSaid : Prop := labelBytesUptoRow.holds Try.pinned (OpenSpec.upto labelBytesSpec)

/-- 'signpostlaw09.LabelBack', WHERE WHAT IT READS IS OF BULK AT MOST 1048576: true; the input reads as it did. -/
def labelBackUptoRow : OpenClaim := { program := "ytjiiignbejbiiaa", sum := "632752a03faedce8cdc30327bdbd2388b825c1ff8931b98e2df45e4d77cbdf3a", func := "signpost/signpostlaw09.LabelBack", spec := "labelBack", inPlace := ["internal/bytealg.IndexByteString", "internal/bytealg.IndexString", "internal/abi.NoEscape", "internal/bytealg.MakeNoZero"], unfollowed := true, recurses := true, named := ["internal/bytealg.MaxLen"], apart := false, narrowed := true }
def LabelBackUptoSaid : Prop := labelBackUptoRow.holds Try.pinned (OpenSpec.upto labelBackSpec)

/-- 'signpostlaw09.LabelUnder', WHERE WHAT IT READS IS OF BULK AT MOST 1048576: true; the input reads as it did. -/
def labelUnderUptoRow : OpenClaim := { program := "ytjiiignbejbiiaa", sum := "632752a03faedce8cdc30327bdbd2388b825c1ff8931b98e2df45e4d77cbdf3a", func := "signpost/signpostlaw09.LabelUnder", spec := "labelUnder", inPlace := ["internal/bytealg.IndexByteString", "internal/bytealg.IndexString"], unfollowed := true, recurses := true, named := ["internal/bytealg.MaxLen"], apart := false, narrowed := true }
def LabelUnderUptoSaid : Prop := labelUnderUptoRow.holds Try.pinned (OpenSpec.upto labelUnderSpec)

/-- 'signpostlaw10.ServiceTells', WHERE WHAT IT READS IS OF BULK AT MOST 1048576: true; the input reads as it did. -/
def serviceTellsUptoRow : OpenClaim := { program := "ytjiiignbejbiiaa", sum := "632752a03faedce8cdc30327bdbd2388b825c1ff8931b98e2df45e4d77cbdf3a", func := "signpost/signpostlaw10.ServiceTells", spec := "serviceTells", inPlace := ["internal/bytealg.IndexByteString", "internal/bytealg.IndexString", "internal/abi.NoEscape", "internal/bytealg.MakeNoZero"], unfollowed := true, recurses := true, named := ["internal/bytealg.MaxLen"], apart := false, narrowed := true }
def ServiceTellsUptoSaid : Prop := serviceTellsUptoRow.holds Try.pinned (OpenSpec.upto serviceTellsSpec)

/-- 'signpostlaw10.ServiceJoins', WHERE WHAT IT READS IS OF BULK AT MOST 1048576: true; the input reads as it did. -/
def serviceJoinsUptoRow : OpenClaim := { program := "ytjiiignbejbiiaa", sum := "632752a03faedce8cdc30327bdbd2388b825c1ff8931b98e2df45e4d77cbdf3a", func := "signpost/signpostlaw10.ServiceJoins", spec := "serviceJoins", inPlace := ["internal/bytealg.IndexByteString", "internal/bytealg.IndexString", "internal/abi.NoEscape", "internal/bytealg.MakeNoZero"], unfollowed := true, recurses := true, named := ["internal/bytealg.MaxLen"], apart := false, narrowed := true }
def ServiceJoinsUptoSaid : Prop := serviceJoinsUptoRow.holds Try.pinned (OpenSpec.upto serviceJoinsSpec)

/-- 'signpostlaw10.ServiceKeys', WHERE WHAT IT READS IS OF BULK AT MOST 1048576: true; the input reads as it did. -/
def serviceKeysUptoRow : OpenClaim := { program := "ytjiiignbejbiiaa", sum := "632752a03faedce8cdc30327bdbd2388b825c1ff8931b98e2df45e4d77cbdf3a", func := "signpost/signpostlaw10.ServiceKeys", spec := "serviceKeys", inPlace := ["internal/bytealg.IndexByteString", "internal/bytealg.IndexString", "internal/abi.NoEscape", "internal/bytealg.MakeNoZero"], unfollowed := true, recurses := true, named := ["internal/bytealg.MaxLen"], apart := false, narrowed := true }
def ServiceKeysUptoSaid : Prop := serviceKeysUptoRow.holds Try.pinned (OpenSpec.upto serviceKeysSpec)

end Rows
end Go.Proofs.Ytjiiignbejbiiaa
