/- The walk of the statement IdentTexts, for every text. No condition. -/
import Derived.Test.YtcoiaddjfeaciaaTxf
namespace Go.Proofs.Ytcoiaddjfeaciaa
open Go.RowKit

theorem texts_walk (id : List UInt8) (hid : id.length = 20) (s : ByteArray) (w : World) : Calls Try.prog 6 #[.agg (bcells id).toArray, .string s] w fun e w' => e = .returned (.bool true) ∧ Below w.heap.size w w' := by
  by_cases h : 1000 < s.size
  · exact texts_far _ s h w
  · have hl : s.data.toList.length = s.size := by rw [Array.length_toList]; rfl
    have := texts_near id hid s.data.toList (by omega) w
    exact this
end Go.Proofs.Ytcoiaddjfeaciaa
