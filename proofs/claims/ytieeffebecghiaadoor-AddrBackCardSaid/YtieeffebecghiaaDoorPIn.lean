/- Slices of bytes and numbers that come in, as lists. No condition. -/
import Derived.Test.YtieeffebecghiaaDoorPDia
import Derived.ProofKit
import Derived.OpenShut
namespace Go.Proofs.YtieeffebecghiaaDoor
open Go.RowKit

theorem wf_u8 {n : Int} (h : (Lit.int .u8 n).wf = true) : 0 ≤ n ∧ n ≤ 255 := by
  simp [Lit.wf, IntKind.min, IntKind.max, IntKind.bits, IntKind.signed] at h
  omega
end Go.Proofs.YtieeffebecghiaaDoor
