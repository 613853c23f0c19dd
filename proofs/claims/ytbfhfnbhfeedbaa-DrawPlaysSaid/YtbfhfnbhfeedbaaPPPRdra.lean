/- A reader of package octet in memory, and contracts of the calls that read: Num, Take, Text, Left, Bad, Done. Conditions: the bytes that are left are fewer than 900,000. -/
import Derived.Test.YtbfhfnbhfeedbaaPPPWords
import Derived.WalkKit
import Derived.Test.YtbfhfnbhfeedbaaRows
import Derived.WalkSpells
import Derived.WalkLawsBesides
import Derived.Lib.Hide
import Derived.Outline
import Derived.Laws.BitsAllLaws
import Derived.Laws.BitsLemmas
import Derived.Laws.Bits64
import Derived.LoopTactic
import Derived.Deep.MidRow
import Derived.BigQuiet
import Derived.RegionTactic
import Derived.RegionCalls
namespace Go.Proofs.Ytbfhfnbhfeedbaa
set_option maxRecDepth 100000
open Go.RowKit
set_option linter.unusedVariables false

theorem BAt.set {w : World} {B g j : Nat} {A : Option Addr} {ys : List UInt8} (h : BAt w B A ys) (u : Value) (hne : ∀ g' off, A = some ⟨g', off, none⟩ → ys ≠ [] → g' ≠ g) : BAt (w.setCell ⟨g, j, none⟩ u) B A ys := by
  rcases h with rfl | ⟨g', off, rfl, hg, hc⟩
  · exact .inl rfl
  · by_cases hy : ys = []
    · exact .inl hy
    · exact .inr ⟨g', off, rfl, hg, fun i hi => (World.cell?_setCell_other w _ _ u (fun e => by
        have := hne g' off rfl hy
        simp only [Addr.mk.injEq] at e
        exact this e.1.symm)).trans (hc i hi)⟩

end Go.Proofs.Ytbfhfnbhfeedbaa
