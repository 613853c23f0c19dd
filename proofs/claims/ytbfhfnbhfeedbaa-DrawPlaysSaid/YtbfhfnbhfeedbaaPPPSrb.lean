/- Contract of the reference's laid of layer span. Conditions: an id has 20 bytes. -/
import Derived.Test.YtbfhfnbhfeedbaaPPPDib
namespace Go.Proofs.Ytbfhfnbhfeedbaa
set_option maxRecDepth 100000
set_option maxHeartbeats 1000000
open Go.RowKit Go.Lib Go.Great

theorem LooseR.more {P : Program} {w : World} {S1 S : World → Prop} {X : Value → World → Prop} {r : Result Next} (hS : ∀ w, S1 w → S w) (h : LooseR P w S1 X r) : LooseR P w S (fun v w' => X v w' ∧ S1 w') r := by
  cases r with
  | halt x w' => exact h
  | ok n w' =>
    cases n <;> simp only [LooseR] at h ⊢
    case value v => exact ⟨hS _ h.1, h.2.1, h.2.2, h.1⟩
    case enter f args => exact ⟨h.1, h.2.mono (by rintro e w'' ⟨v, rfl, h1, h2, h3⟩; exact ⟨v, rfl, hS _ h1, h2, h3, h1⟩)⟩
end Go.Proofs.Ytbfhfnbhfeedbaa
