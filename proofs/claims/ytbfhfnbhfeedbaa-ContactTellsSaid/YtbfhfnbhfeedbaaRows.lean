/-
  No cell of these rows narrows 'for every input' (looked for: loops, veiled, ifaces, maps, wideKeys, modest, calm, conditions, laid).
  DERIVED. THE GIVEN ROWS OF THIS SEAT. 7 by the template 'for every input the law returns true; each argument reads behind the call as it read before'; 0 by the template 'total and deterministic' (their statements: YtbfhfnbhfeedbaaTotals.lean).
  GIVEN WITH THE SEED: the statements are not yours to turn. If you find one false, say at which input.
  Laid BY PROGRAM, IN A SANDBOX (cutbox-rows.mjs): the forced cells as the released guide's own fill.sh prints them over the translation 2cd0c0a15cc9885e… (all of the seat's roots in one cut). By AI agents, Wed Nov 11 2026. No macro, syntax, notation, axiom, sorry.
-/
import Derived.Test.YtbfhfnbhfeedbaaChecked
import GoSem.Claim
import GoSem.ClaimJoined
import GoSem.ClaimMapViews
import Derived.JoinedTies
import Derived.KernelRfl
namespace Go.Proofs.Ytbfhfnbhfeedbaa
/- THE CELL 'sum', in the pinned program and in every row, IS THE sha256 OF THE DUMP (.gsa) THAT YtbfhfnbhfeedbaaProg.lean LOADS. Nothing in Lean hashes anything: it is a label: what it is worth is what the hold of that sum in a sandbox is worth. -/
noncomputable def Try.pinned : Pinned := { name := "ytbfhfnbhfeedbaa", sum := "2cd0c0a15cc9885e4ce927cf6718e29d349cbb25c6240d7b11b1a66b52548995", checked := Try.checked }
namespace Rows
def none {H : Type} : Left H := { results := [], args := [] }

/-- 'signpostlaw07.DrawPlays': WHATEVER THE INPUT: true; the input reads as it did. -/
def drawPlaysSpec : ChangeSpec := { name := "drawPlays", fn := fun _ => fun
  | [d1, d2] => { results := [.lit (.bool true)], args := [d1, d2] }
  | _ => none }
def drawPlaysRow : OpenClaim := { program := "ytbfhfnbhfeedbaa", sum := "2cd0c0a15cc9885e4ce927cf6718e29d349cbb25c6240d7b11b1a66b52548995", func := "signpost/signpostlaw07.DrawPlays", spec := "drawPlays", unfollowed := true, recurses := true, apart := false }
def DrawPlaysSaid : Prop := drawPlaysRow.holds Try.pinned (OpenSpec.ofChange drawPlaysSpec)

/-- ITS FALSE NEIGHBOUR: 'it returns false'. Refute it at one input. -/
def drawPlaysWrong : ChangeSpec := { name := "drawPlays", fn := fun _ => fun
  | [d1, d2] => { results := [.lit (.bool false)], args := [d1, d2] }
  | _ => none }
def DrawPlaysWrongFalsely : Prop := drawPlaysRow.holds Try.pinned (OpenSpec.ofChange drawPlaysWrong)

/-- 'signpostlaw07.DrawOrders': WHATEVER THE INPUT: true; the input reads as it did. -/
def drawOrdersSpec : ChangeSpec := { name := "drawOrders", fn := fun _ => fun
  | [d1, d2, d3] => { results := [.lit (.bool true)], args := [d1, d2, d3] }
  | _ => none }
def drawOrdersRow : OpenClaim := { program := "ytbfhfnbhfeedbaa", sum := "2cd0c0a15cc9885e4ce927cf6718e29d349cbb25c6240d7b11b1a66b52548995", func := "signpost/signpostlaw07.DrawOrders", spec := "drawOrders", unfollowed := true, recurses := true, apart := false }
def DrawOrdersSaid : Prop := drawOrdersRow.holds Try.pinned (OpenSpec.ofChange drawOrdersSpec)

/-- ITS FALSE NEIGHBOUR: 'it returns false'. Refute it at one input. -/
def drawOrdersWrong : ChangeSpec := { name := "drawOrders", fn := fun _ => fun
  | [d1, d2, d3] => { results := [.lit (.bool false)], args := [d1, d2, d3] }
  | _ => none }
def DrawOrdersWrongFalsely : Prop := drawOrdersRow.holds Try.pinned (OpenSpec.ofChange drawOrdersWrong)

/-- 'signpostlaw07.DrawAll': WHATEVER THE INPUT: true; the input reads as it did. -/
def drawAllSpec : ChangeSpec := { name := "drawAll", fn := fun _ => fun
  | [d1, d2] => { results := [.lit (.bool true)], args := [d1, d2] }
  | _ => none }
def drawAllRow : OpenClaim := { program := "ytbfhfnbhfeedbaa", sum := "2cd0c0a15cc9885e4ce927cf6718e29d349cbb25c6240d7b11b1a66b52548995", func := "signpost/signpostlaw07.DrawAll", spec := "drawAll", unfollowed := true, recurses := true, apart := false }
def DrawAllSaid : Prop := drawAllRow.holds Try.pinned (OpenSpec.ofChange drawAllSpec)

/-- ITS FALSE NEIGHBOUR: 'it returns false'. Refute it at one input. -/
def drawAllWrong : ChangeSpec := { name := "drawAll", fn := fun _ => fun
  | [d1, d2] => { results := [.lit (.bool false)], args := [d1, d2] }
  | _ => none }
def DrawAllWrongFalsely : Prop := drawAllRow.holds Try.pinned (OpenSpec.ofChange drawAllWrong)

/-- 'signpostlaw07.DrawNobody': WHATEVER THE INPUT: true; the input reads as it did. -/
def drawNobodySpec : ChangeSpec := { name := "drawNobody", fn := fun _ => fun
  | [d1, d2] => { results := [.lit (.bool true)], args := [d1, d2] }
  | _ => none }
def drawNobodyRow : OpenClaim := { program := "ytbfhfnbhfeedbaa", sum := "2cd0c0a15cc9885e4ce927cf6718e29d349cbb25c6240d7b11b1a66b52548995", func := "signpost/signpostlaw07.DrawNobody", spec := "drawNobody", unfollowed := true, recurses := true, apart := false }
def DrawNobodySaid : Prop := drawNobodyRow.holds Try.pinned (OpenSpec.ofChange drawNobodySpec)

/-- ITS FALSE NEIGHBOUR: 'it returns false'. Refute it at one input. -/
def drawNobodyWrong : ChangeSpec := { name := "drawNobody", fn := fun _ => fun
  | [d1, d2] => { results := [.lit (.bool false)], args := [d1, d2] }
  | _ => none }
def DrawNobodyWrongFalsely : Prop := drawNobodyRow.holds Try.pinned (OpenSpec.ofChange drawNobodyWrong)

/-- 'signpostlaw08.ContactTells': WHATEVER THE INPUT: true; the input reads as it did. -/
def contactTellsSpec : ChangeSpec := { name := "contactTells", fn := fun _ => fun
  | [d1, d2, d3] => { results := [.lit (.bool true)], args := [d1, d2, d3] }
  | _ => none }
def contactTellsRow : OpenClaim := { program := "ytbfhfnbhfeedbaa", sum := "2cd0c0a15cc9885e4ce927cf6718e29d349cbb25c6240d7b11b1a66b52548995", func := "signpost/signpostlaw08.ContactTells", spec := "contactTells", unfollowed := true, recurses := true, apart := false }
def ContactTellsSaid : Prop := contactTellsRow.holds Try.pinned (OpenSpec.ofChange contactTellsSpec)

/-- ITS FALSE NEIGHBOUR: 'it returns false'. Refute it at one input. -/
def contactTellsWrong : ChangeSpec := { name := "contactTells", fn := fun _ => fun
  | [d1, d2, d3] => { results := [.lit (.bool false)], args := [d1, d2, d3] }
  | _ => none }
def ContactTellsWrongFalsely : Prop := contactTellsRow.holds Try.pinned (OpenSpec.ofChange contactTellsWrong)

/-- 'signpostlaw08.ContactReads': WHATEVER THE INPUT: true; the input reads as it did. -/
def contactReadsSpec : ChangeSpec := { name := "contactReads", fn := fun _ => fun
  | [d1, d2] => { results := [.lit (.bool true)], args := [d1, d2] }
  | _ => none }
def contactReadsRow : OpenClaim := { program := "ytbfhfnbhfeedbaa", sum := "2cd0c0a15cc9885e4ce927cf6718e29d349cbb25c6240d7b11b1a66b52548995", func := "signpost/signpostlaw08.ContactReads", spec := "contactReads", unfollowed := true, recurses := true, apart := false }
def ContactReadsSaid : Prop := contactReadsRow.holds Try.pinned (OpenSpec.ofChange contactReadsSpec)

/-- ITS FALSE NEIGHBOUR: 'it returns false'. Refute it at one input. -/
def contactReadsWrong : ChangeSpec := { name := "contactReads", fn := fun _ => fun
  | [d1, d2] => { results := [.lit (.bool false)], args := [d1, d2] }
  | _ => none }
def ContactReadsWrongFalsely : Prop := contactReadsRow.holds Try.pinned (OpenSpec.ofChange contactReadsWrong)

/-- 'signpostlaw08.ContactBack': WHATEVER THE INPUT: true; the input reads as it did. -/
def contactBackSpec : ChangeSpec := { name := "contactBack", fn := fun _ => fun
  | [d1, d2, d3] => { results := [.lit (.bool true)], args := [d1, d2, d3] }
  | _ => none }
def contactBackRow : OpenClaim := { program := "ytbfhfnbhfeedbaa", sum := "2cd0c0a15cc9885e4ce927cf6718e29d349cbb25c6240d7b11b1a66b52548995", func := "signpost/signpostlaw08.ContactBack", spec := "contactBack", unfollowed := true, recurses := true, apart := false }
def ContactBackSaid : Prop := contactBackRow.holds Try.pinned (OpenSpec.ofChange contactBackSpec)

/-- ITS FALSE NEIGHBOUR: 'it returns false'. Refute it at one input. -/
def contactBackWrong : ChangeSpec := { name := "contactBack", fn := fun _ => fun
  | [d1, d2, d3] => { results := [.lit (.bool false)], args := [d1, d2, d3] }
  | _ => none }
def ContactBackWrongFalsely : Prop := contactBackRow.holds Try.pinned (OpenSpec.ofChange contactBackWrong)

/- THE SECOND FORM. 'bulk': how many values and letters a reading holds, each counted each time it is reached (what is shared counts as often as it is met; a slice's spare places count too). A statement '..UptoSaid' is the law's where the arguments, and the package variables that the reading takes, are together of bulk at most 1048576: NARROWER than '..Said'. Prove '..Said' where nothing that the law and all that it calls make is longer than what came in: it says more and counts as full. Else prove '..UptoSaid'. A law counts once. -/
mutual
def uptoBulk {H : Type} : DataW H → Nat
  | .lit (.string bytes) => bytes.length + 1
  | .lit _ => 1
  | .nil => 1
  | .ptr d => uptoBulk d + 1
  | .slice elems spare => uptoBulkAll elems + uptoBulkAll spare + 1
  | .agg parts => uptoBulkAll parts + 1
  | .iface _ d => uptoBulk d + 1
  | .map entries => uptoBulkEntries entries + 1
  | .held _ => 1
def uptoBulkAll {H : Type} : List (DataW H) → Nat
  | [] => 0
  | d :: r => uptoBulk d + uptoBulkAll r
def uptoBulkEntries {H : Type} : List (Lit × DataW H) → Nat
  | [] => 0
  | x :: r => uptoBulkEntry x + uptoBulkEntries r
def uptoBulkEntry {H : Type} : Lit × DataW H → Nat
  | (.string bytes, d) => bytes.length + uptoBulk d + 1
  | (_, d) => uptoBulk d + 1
 end
def uptoSmall : (H : Type) → List (DataW H) → Bool := fun _ ds => decide (uptoBulkAll ds ≤ 1048576)
def OpenSpec.upto (s : _root_.Go.ChangeSpec) : _root_.Go.OpenSpec := { _root_.Go.OpenSpec.ofChange s with cond := some uptoSmall }

/-- 'signpostlaw07.DrawPlays', WHERE WHAT IT READS IS OF BULK AT MOST 1048576: true; the input reads as it did. -/
def drawPlaysUptoRow : OpenClaim := { program := "ytbfhfnbhfeedbaa", sum := "2cd0c0a15cc9885e4ce927cf6718e29d349cbb25c6240d7b11b1a66b52548995", func := "signpost/signpostlaw07.DrawPlays", spec := "drawPlays", unfollowed := true, recurses := true, apart := false, narrowed := true }
def DrawPlaysUptoSaid : Prop := drawPlaysUptoRow.holds Try.pinned (OpenSpec.upto drawPlaysSpec)

/-- 'signpostlaw07.DrawOrders', WHERE WHAT IT READS IS OF BULK AT MOST 1048576: true; the input reads as it did. -/
def drawOrdersUptoRow : OpenClaim := { program := "ytbfhfnbhfeedbaa", sum := "2cd0c0a15cc9885e4ce927cf6718e29d349cbb25c6240d7b11b1a66b52548995", func := "signpost/signpostlaw07.DrawOrders", spec := "drawOrders", unfollowed := true, recurses := true, apart := false, narrowed := true }
def DrawOrdersUptoSaid : Prop := drawOrdersUptoRow.holds Try.pinned (OpenSpec.upto drawOrdersSpec)

/-- 'signpostlaw07.DrawAll', WHERE WHAT IT READS IS OF BULK AT MOST 1048576: true; the input reads as it did. -/
def drawAllUptoRow : OpenClaim := { program := "ytbfhfnbhfeedbaa", sum := "2cd0c0a15cc9885e4ce927cf6718e29d349cbb25c6240d7b11b1a66b52548995", func := "signpost/signpostlaw07.DrawAll", spec := "drawAll", unfollowed := true, recurses := true, apart := false, narrowed := true }
def DrawAllUptoSaid : Prop := drawAllUptoRow.holds Try.pinned (OpenSpec.upto drawAllSpec)

/-- 'signpostlaw07.DrawNobody', WHERE WHAT IT READS IS OF BULK AT MOST 1048576: true; the input reads as it did. -/
def drawNobodyUptoRow : OpenClaim := { program := "ytbfhfnbhfeedbaa", sum := "2cd0c0a15cc9885e4ce927cf6718e29d349cbb25c6240d7b11b1a66b52548995", func := "signpost/signpostlaw07.DrawNobody", spec := "drawNobody", unfollowed := true, recurses := true, apart := false, narrowed := true }
def DrawNobodyUptoSaid : Prop := drawNobodyUptoRow.holds Try.pinned (OpenSpec.upto drawNobodySpec)

/-- 'signpostlaw08.ContactTells', WHERE WHAT IT READS IS OF BULK AT MOST 1048576: true; the input reads as it did. -/
def contactTellsUptoRow : OpenClaim := { program := "ytbfhfnbhfeedbaa", sum := "2cd0c0a15cc9885e4ce927cf6718e29d349cbb25c6240d7b11b1a66b52548995", func := "signpost/signpostlaw08.ContactTells", spec := "contactTells", unfollowed := true, recurses := true, apart := false, narrowed := true }
def ContactTellsUptoSaid : Prop := contactTellsUptoRow.holds Try.pinned (OpenSpec.upto contactTellsSpec)

/-- 'signpostlaw08.ContactReads', WHERE WHAT IT READS IS OF BULK AT MOST 1048576: true; the input reads as it did. -/
def contactReadsUptoRow : OpenClaim := { program := "ytbfhfnbhfeedbaa", sum := "2cd0c0a15cc9885e4ce927cf6718e29d349cbb25c6240d7b11b1a66b52548995", func := "signpost/signpostlaw08.ContactReads", spec := "contactReads", unfollowed := true, recurses := true, apart := false, narrowed := true }
def ContactReadsUptoSaid : Prop := contactReadsUptoRow.holds Try.pinned (OpenSpec.upto contactReadsSpec)

/-- 'signpostlaw08.ContactBack', WHERE WHAT IT READS IS OF BULK AT MOST 1048576: true; the input reads as it did. -/
def contactBackUptoRow : OpenClaim := { program := "ytbfhfnbhfeedbaa", sum := "2cd0c0a15cc9885e4ce927cf6718e29d349cbb25c6240d7b11b1a66b52548995", func := "signpost/signpostlaw08.ContactBack", spec := "contactBack", unfollowed := true, recurses := true, apart := false, narrowed := true }
def ContactBackUptoSaid : Prop := contactBackUptoRow.holds Try.pinned (OpenSpec.upto contactBackSpec)

end Rows
end Go.Proofs.Ytbfhfnbhfeedbaa
