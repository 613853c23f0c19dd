/- Contract of Parts of package label. Conditions: at most 100,000 bytes. -/
import Derived.Test.YtjiiignbejbiiaaXLcf
namespace Go.Proofs.Ytjiiignbejbiiaa
open Go.Shelf Go.RowKit Go.Lib Go.Great
set_option maxRecDepth 100000
set_option maxHeartbeats 1000000
/-- A slice of texts of its own. -/
def OwnT (B : Nat) (v : Value) (L : List (List UInt8)) (w : World) : Prop := w.ownsRow B 9 1 v L.length (L.map encT)
theorem collect_any (s : List UInt8) (hs : s.length ≤ 100000) (Bs : Nat) (w : World) (hBs : Bs < w.heap.size) (hc : w.cell? ⟨Bs, 0, none⟩ = some (.string (bstr s))) :
    Calls Try.prog 41 #[.func (.func 52) #[] #[.pointer (some ⟨Bs, 0, none⟩)]] w fun e w' => ∃ v, e = .returned v ∧ OwnT w.heap.size v (splitD s) w' ∧ Below w.heap.size w w' := by
  have hlen := splitD_length_le s
  have h := AnyZ.collect_in Try.collectZ Fence.wide 20 trivial trivial rfl (by omega) 52 #[.pointer (some ⟨Bs, 0, none⟩)] trivial (enters_of Try.func52 (by kernel_rfl) rfl) (fun xs => xs = splitD s) (splitD s).length (by simp only [maxLen]; omega) (by omega) w (btw_stops (20 - 1 - 1) (by omega) s hs Bs w hBs hc).gives
  refine (callsIn_wide.1 h).mono ?_
  rintro e w' ⟨v, ss, rfl, rfl, hr, _, hb⟩
  exact ⟨v, rfl, hr, hb⟩
theorem parts_any (s : List UInt8) (hs : s.length ≤ 100000) (w : World) : Calls Try.prog 16 #[.string (bstr s)] w fun e w' => ∃ v, e = .returned v ∧ OwnT w.heap.size v (splitD s) w' ∧ Below w.heap.size w w' := by
  have HBT := Lib.hid (fun W => btw_any s W)
  have c1 := cell_new_l w (.string (bstr s)) 9
  have hb := (Below.refl w.heap.size w).alloc (Nat.le_refl w.heap.size) (.cells #[.string (bstr s)] 9)
  have HC : Hid (Calls Try.prog 41 #[.func (.func 52) #[] #[.pointer (some ⟨w.heap.size, 0, none⟩)]] (w.alloc (.cells #[.string (bstr s)] 9)) fun e w' => ∃ v, e = .returned v ∧ OwnT w.heap.size v (splitD s) w' ∧ Below w.heap.size w w') := Lib.hid (by
    refine (collect_any s hs w.heap.size (w.alloc (.cells #[.string (bstr s)] 9)) (by simp) c1.1).mono ?_
    rintro e w' ⟨v, rfl, h1, h2⟩
    exact ⟨v, rfl, ownsRow_base_a h1 (by simp), hb.trans (h2.mono (by simp))⟩)
  clear c1 hb
  go_enter Try.func16, Try.ntmps16
  go_wp2_with (first
    | (go_at_call 40; (with_reducible refine (HBT.out _).mono ?_); rintro e w' ⟨rfl, rfl⟩)
    | (go_at_call 41; (with_reducible refine HC.out.mono ?_); rintro e w' ⟨v, rfl, h1, h2⟩))
  go_ret
  exact ⟨_, rfl, h1, h2⟩
end Go.Proofs.Ytjiiignbejbiiaa
