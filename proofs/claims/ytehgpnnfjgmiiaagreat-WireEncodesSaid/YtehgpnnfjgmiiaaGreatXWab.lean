/- The questions that ask for a kind alone: Request, Answers, hasKey; of the reference keyed, listed, Request, Answers. No condition. slices.Equal and Same of the program at instances. No condition. Get of the program. Conditions: a length that an int holds. The library's own steps on rows of instances: copy; append of a made row; whether two rows share memory. Conditions: rows of their own. What is read of the bytes of a good instance, and what is read has them; newer is an order: plain. No condition. slices.BinarySearchFunc at instances, by their publishers. Conditions: at most 16 instances, in order. Put: plain; its pieces ready for the walk. Conditions: at most 10,000 instances, targets of at most 100,000 bytes. -/
import Derived.Test.YtehgpnnfjgmiiaaGreatXOaa
import Derived.Test.YtehgpnnfjgmiiaaGreatXObc
import Derived.Test.YtehgpnnfjgmiiaaGreatProg
import Derived.Test.YtehgpnnfjgmiiaaGreatXIif
import Derived.Test.YtehgpnnfjgmiiaaGreatXJLcb
import Derived.RangeFuncBox
import Derived.RangeFuncFrom
import Derived.RangeFuncLeaves
import Derived.Test.YtehgpnnfjgmiiaaGreatXJPWords
import Derived.Test.YtehgpnnfjgmiiaaGreatXJLrc
import Derived.RegionTactic
import Derived.RegionCalls
import Derived.WalkKit
import Derived.Deep.RegionHeld3
import Derived.Deep.QuietTactic
import Derived.BigQuiet
import Derived.Test.YtehgpnnfjgmiiaaGreatXKPPPRwa
import Derived.Test.YtehgpnnfjgmiiaaGreatXJLch
import Derived.Shelf.Abstract
import Derived.Sort.Grow
import Derived.Lib.SlBytesConst
import Derived.LoopTactic
import Derived.Stop.BytesEq
import Derived.Deep.AppendSrc
import Derived.Lib.ConvBytes
import Derived.Laws.ResultCell
import Derived.Laws.CopyOwn
section
namespace Go.Proofs.YtehgpnnfjgmiiaaGreat
open Go.Shelf Go.RowKit Go.Lib Go.Great
set_option maxRecDepth 100000
set_option maxHeartbeats 1000000
def reqM (k : Int) : Bool := decide (k = 1 ∨ k = 2 ∨ k = 3 ∨ k = 4)
def keyM (k : Int) : Bool := decide (¬ k = 1 ∧ ¬ k = 5)
def rkeyM (k : Int) : Bool := decide (2 ≤ k ∧ k ≤ 9 ∧ ¬ k = 5)
def lstM (k : Int) : Bool := decide (k = 4 ∨ k = 7)
def ansM (r k : Int) : Bool := decide ((r = 1 ∧ k = 5) ∨ (r = 2 ∧ k = 6) ∨ (r = 3 ∧ (k = 6 ∨ k = 7)) ∨ (r = 4 ∧ (k = 8 ∨ k = 9)))
theorem beqF {a b : Int} (h : ¬ a = b) : (a == b) = false := by simpa using h
theorem bneT {a b : Int} (h : ¬ a = b) : (a != b) = true := by simpa using h
theorem request_any (k : Int) (w : World) : Calls Tryz.prog 13 #[.int .i64 k] w fun e w' => e = .returned (.bool (reqM k)) ∧ w' = w := by
  by_cases hin : k = 1 ∨ k = 2 ∨ k = 3 ∨ k = 4
  · rcases hin with rfl | rfl | rfl | rfl
    · rw [show reqM 1 = true by decide]
      go_enter Tryz.func13, Tryz.ntmps13
      go_wp2
      go_ret
      exact ⟨rfl, rfl⟩
    · rw [show reqM 2 = true by decide]
      go_enter Tryz.func13, Tryz.ntmps13
      go_wp2
      go_ret
      exact ⟨rfl, rfl⟩
    · rw [show reqM 3 = true by decide]
      go_enter Tryz.func13, Tryz.ntmps13
      go_wp2
      go_ret
      exact ⟨rfl, rfl⟩
    · rw [show reqM 4 = true by decide]
      go_enter Tryz.func13, Tryz.ntmps13
      go_wp2
      go_ret
      exact ⟨rfl, rfl⟩
  · have n1 : ¬ k = 1 := by omega
    have n2 : ¬ k = 2 := by omega
    have n3 : ¬ k = 3 := by omega
    have n4 : ¬ k = 4 := by omega
    have b1 := beqF n1
    have b2 := beqF n2
    have b3 := beqF n3
    have b4 := beqF n4
    have c1 := bneT n1
    have c2 := bneT n2
    have c3 := bneT n3
    have c4 := bneT n4
    rw [show reqM k = false by unfold reqM; simp; omega]
    go_enter Tryz.func13, Tryz.ntmps13
    go_wp2
    go_ret
    exact ⟨rfl, rfl⟩
theorem haskey_any (k : Int) (w : World) : Calls Tryz.prog 23 #[.int .i64 k] w fun e w' => e = .returned (.bool (keyM k)) ∧ w' = w := by
  by_cases hin : k = 1 ∨ k = 5
  · rcases hin with rfl | rfl
    · rw [show keyM 1 = false by decide]
      go_enter Tryz.func23, Tryz.ntmps23
      go_wp2
      go_ret
      exact ⟨rfl, rfl⟩
    · rw [show keyM 5 = false by decide]
      go_enter Tryz.func23, Tryz.ntmps23
      go_wp2
      go_ret
      exact ⟨rfl, rfl⟩
  · have n1 : ¬ k = 1 := by omega
    have n5 : ¬ k = 5 := by omega
    have b1 := beqF n1
    have b5 := beqF n5
    have c1 := bneT n1
    have c5 := bneT n5
    rw [show keyM k = true by unfold keyM; simp; omega]
    go_enter Tryz.func23, Tryz.ntmps23
    go_wp2
    go_ret
    exact ⟨rfl, rfl⟩
theorem listed_any (k : Int) (w : World) : Calls Tryz.prog 30 #[.int .i64 k] w fun e w' => e = .returned (.bool (lstM k)) ∧ w' = w := by
  by_cases hin : k = 4 ∨ k = 7
  · rcases hin with rfl | rfl
    · rw [show lstM 4 = true by decide]
      go_enter Tryz.func30, Tryz.ntmps30
      go_wp2
      go_ret
      exact ⟨rfl, rfl⟩
    · rw [show lstM 7 = true by decide]
      go_enter Tryz.func30, Tryz.ntmps30
      go_wp2
      go_ret
      exact ⟨rfl, rfl⟩
  · have n4 : ¬ k = 4 := by omega
    have n7 : ¬ k = 7 := by omega
    have b4 := beqF n4
    have b7 := beqF n7
    have c4 := bneT n4
    have c7 := bneT n7
    rw [show lstM k = false by unfold lstM; simp; omega]
    go_enter Tryz.func30, Tryz.ntmps30
    go_wp2
    go_ret
    exact ⟨rfl, rfl⟩
theorem rrequest_any (k : Int) (w : World) : Calls Tryz.prog 14 #[.int .i64 k] w fun e w' => e = .returned (.bool (reqM k)) ∧ w' = w := by
  by_cases h1 : 1 ≤ k
  · by_cases h4 : k ≤ 4
    · rw [show reqM k = true by unfold reqM; simp; omega]
      go_enter Tryz.func14, Tryz.ntmps14
      go_wp2
      go_ret
      exact ⟨rfl, rfl⟩
    · rw [show reqM k = false by unfold reqM; simp; omega]
      go_enter Tryz.func14, Tryz.ntmps14
      go_wp2
      go_ret
      exact ⟨rfl, rfl⟩
  · rw [show reqM k = false by unfold reqM; simp; omega]
    go_enter Tryz.func14, Tryz.ntmps14
    go_wp2
    go_ret
    exact ⟨rfl, rfl⟩
theorem keyed_any (k : Int) (w : World) : Calls Tryz.prog 27 #[.int .i64 k] w fun e w' => e = .returned (.bool (rkeyM k)) ∧ w' = w := by
  by_cases h1 : 2 ≤ k
  · by_cases h4 : k ≤ 9
    · by_cases h5 : k = 5
      · subst h5
        rw [show rkeyM 5 = false by decide]
        go_enter Tryz.func27, Tryz.ntmps27
        go_wp2
        go_ret
        exact ⟨rfl, rfl⟩
      · have c5 := bneT h5
        rw [show rkeyM k = true by unfold rkeyM; simp; omega]
        go_enter Tryz.func27, Tryz.ntmps27
        go_wp2
        go_ret
        exact ⟨rfl, rfl⟩
    · rw [show rkeyM k = false by unfold rkeyM; simp; omega]
      go_enter Tryz.func27, Tryz.ntmps27
      go_wp2
      go_ret
      exact ⟨rfl, rfl⟩
  · rw [show rkeyM k = false by unfold rkeyM; simp; omega]
    go_enter Tryz.func27, Tryz.ntmps27
    go_wp2
    go_ret
    exact ⟨rfl, rfl⟩
theorem answers_any (r k : Int) (w : World) : Calls Tryz.prog 15 #[.int .i64 r, .int .i64 k] w fun e w' => e = .returned (.bool (ansM r k)) ∧ w' = w := by
  by_cases hin : r = 1 ∨ r = 2 ∨ r = 3 ∨ r = 4
  · rcases hin with rfl | rfl | rfl | rfl
    · by_cases hk : k = 5
      · subst hk
        rw [show ansM 1 5 = true by decide]
        go_enter Tryz.func15, Tryz.ntmps15
        go_wp2
        go_ret
        exact ⟨rfl, rfl⟩
      · have n5 : ¬ k = 5 := by omega
        have b5 := beqF n5
        rw [show ansM 1 k = false by unfold ansM; simp; omega]
        go_enter Tryz.func15, Tryz.ntmps15
        go_wp2
        go_ret
        exact ⟨rfl, rfl⟩
    · by_cases hk : k = 6
      · subst hk
        rw [show ansM 2 6 = true by decide]
        go_enter Tryz.func15, Tryz.ntmps15
        go_wp2
        go_ret
        exact ⟨rfl, rfl⟩
      · have n6 : ¬ k = 6 := by omega
        have b6 := beqF n6
        rw [show ansM 2 k = false by unfold ansM; simp; omega]
        go_enter Tryz.func15, Tryz.ntmps15
        go_wp2
        go_ret
        exact ⟨rfl, rfl⟩
    · by_cases hk : k = 6 ∨ k = 7
      · rcases hk with rfl | rfl
        · rw [show ansM 3 6 = true by decide]
          go_enter Tryz.func15, Tryz.ntmps15
          go_wp2
          go_ret
          exact ⟨rfl, rfl⟩
        · rw [show ansM 3 7 = true by decide]
          go_enter Tryz.func15, Tryz.ntmps15
          go_wp2
          go_ret
          exact ⟨rfl, rfl⟩
      · have n6 : ¬ k = 6 := by omega
        have n7 : ¬ k = 7 := by omega
        have b6 := beqF n6
        have b7 := beqF n7
        rw [show ansM 3 k = false by unfold ansM; simp; omega]
        go_enter Tryz.func15, Tryz.ntmps15
        go_wp2
        go_ret
        exact ⟨rfl, rfl⟩
    · by_cases hk : k = 8 ∨ k = 9
      · rcases hk with rfl | rfl
        · rw [show ansM 4 8 = true by decide]
          go_enter Tryz.func15, Tryz.ntmps15
          go_wp2
          go_ret
          exact ⟨rfl, rfl⟩
        · rw [show ansM 4 9 = true by decide]
          go_enter Tryz.func15, Tryz.ntmps15
          go_wp2
          go_ret
          exact ⟨rfl, rfl⟩
      · have n8 : ¬ k = 8 := by omega
        have n9 : ¬ k = 9 := by omega
        have b8 := beqF n8
        have b9 := beqF n9
        rw [show ansM 4 k = false by unfold ansM; simp; omega]
        go_enter Tryz.func15, Tryz.ntmps15
        go_wp2
        go_ret
        exact ⟨rfl, rfl⟩
  · have n1 : ¬ r = 1 := by omega
    have n2 : ¬ r = 2 := by omega
    have n3 : ¬ r = 3 := by omega
    have n4 : ¬ r = 4 := by omega
    have b1 := beqF n1
    have b2 := beqF n2
    have b3 := beqF n3
    have b4 := beqF n4
    rw [show ansM r k = false by unfold ansM; simp; omega]
    go_enter Tryz.func15, Tryz.ntmps15
    go_wp2
    go_ret
    exact ⟨rfl, rfl⟩
theorem ranswers_any (r k : Int) (w : World) : Calls Tryz.prog 16 #[.int .i64 r, .int .i64 k] w fun e w' => e = .returned (.bool (ansM r k)) ∧ w' = w := by
  by_cases hin : r = 1 ∨ r = 2 ∨ r = 3 ∨ r = 4
  · rcases hin with rfl | rfl | rfl | rfl
    · by_cases hk : k = 5
      · subst hk
        rw [show ansM 1 5 = true by decide]
        go_enter Tryz.func16, Tryz.ntmps16
        go_wp2
        go_ret
        exact ⟨rfl, rfl⟩
      · have n5 : ¬ k = 5 := by omega
        have b5 := beqF n5
        rw [show ansM 1 k = false by unfold ansM; simp; omega]
        go_enter Tryz.func16, Tryz.ntmps16
        go_wp2
        go_ret
        exact ⟨rfl, rfl⟩
    · by_cases hk : k = 6
      · subst hk
        rw [show ansM 2 6 = true by decide]
        go_enter Tryz.func16, Tryz.ntmps16
        go_wp2
        go_ret
        exact ⟨rfl, rfl⟩
      · have n6 : ¬ k = 6 := by omega
        have b6 := beqF n6
        rw [show ansM 2 k = false by unfold ansM; simp; omega]
        go_enter Tryz.func16, Tryz.ntmps16
        go_wp2
        go_ret
        exact ⟨rfl, rfl⟩
    · by_cases hk : k = 6 ∨ k = 7
      · rcases hk with rfl | rfl
        · rw [show ansM 3 6 = true by decide]
          go_enter Tryz.func16, Tryz.ntmps16
          go_wp2
          go_ret
          exact ⟨rfl, rfl⟩
        · rw [show ansM 3 7 = true by decide]
          go_enter Tryz.func16, Tryz.ntmps16
          go_wp2
          go_ret
          exact ⟨rfl, rfl⟩
      · have n6 : ¬ k = 6 := by omega
        have n7 : ¬ k = 7 := by omega
        have b6 := beqF n6
        have b7 := beqF n7
        rw [show ansM 3 k = false by unfold ansM; simp; omega]
        go_enter Tryz.func16, Tryz.ntmps16
        go_wp2
        go_ret
        exact ⟨rfl, rfl⟩
    · by_cases hk : k = 8 ∨ k = 9
      · rcases hk with rfl | rfl
        · rw [show ansM 4 8 = true by decide]
          go_enter Tryz.func16, Tryz.ntmps16
          go_wp2
          go_ret
          exact ⟨rfl, rfl⟩
        · rw [show ansM 4 9 = true by decide]
          go_enter Tryz.func16, Tryz.ntmps16
          go_wp2
          go_ret
          exact ⟨rfl, rfl⟩
      · have n8 : ¬ k = 8 := by omega
        have n9 : ¬ k = 9 := by omega
        have b8 := beqF n8
        have b9 := beqF n9
        rw [show ansM 4 k = false by unfold ansM; simp; omega]
        go_enter Tryz.func16, Tryz.ntmps16
        go_wp2
        go_ret
        exact ⟨rfl, rfl⟩
  · have n1 : ¬ r = 1 := by omega
    have n2 : ¬ r = 2 := by omega
    have n3 : ¬ r = 3 := by omega
    have n4 : ¬ r = 4 := by omega
    have b1 := beqF n1
    have b2 := beqF n2
    have b3 := beqF n3
    have b4 := beqF n4
    rw [show ansM r k = false by unfold ansM; simp; omega]
    go_enter Tryz.func16, Tryz.ntmps16
    go_wp2
    go_ret
    exact ⟨rfl, rfl⟩
end Go.Proofs.YtehgpnnfjgmiiaaGreat
end
section
namespace Go.Proofs.YtehgpnnfjgmiiaaGreat
open Go.Shelf Go.RowKit Go.Lib Go.Great
set_option maxRecDepth 100000
set_option maxHeartbeats 400000
/-- The same instances, in the same order. -/
def sameR (xs ys : List Ins) : Bool := decide (xs.length = ys.length) && (List.range xs.length).all (fun k => eqI xs[k]! ys[k]!)
theorem sameR_iff (xs ys : List Ins) : sameR xs ys = true ↔ xs = ys := by
  unfold sameR
  rw [Bool.and_eq_true, decide_eq_true_eq, List.all_eq_true]
  constructor
  · rintro ⟨h1, h2⟩
    apply List.ext_getElem h1
    intro k hk hk'
    have := h2 k (by simpa using hk)
    rw [eqI_iff, getElem!_pos xs k hk, getElem!_pos ys k hk'] at this
    exact this
  · rintro rfl
    exact ⟨rfl, fun k _ => eqI_self _⟩
theorem eq_len (A A' : Option Addr) (n m c c' : Nat) (w : World) (h : n ≠ m) : Calls Tryz.prog 63 #[.slice A n c, .slice A' m c'] w fun e w' => e = .returned (.bool false) ∧ w' = w := by
  have h' : ¬ (n : Int) = (m : Int) := by omega
  go_enter Tryz.func63, Tryz.ntmps63
  go_wp2
  go_ret
  exact ⟨rfl, rfl⟩
theorem eq_none (A A' : Option Addr) (c c' : Nat) (w : World) : Calls Tryz.prog 63 #[.slice A 0 c, .slice A' 0 c'] w fun e w' => e = .returned (.bool true) ∧ w' = w := by
  go_enter Tryz.func63, Tryz.ntmps63
  go_wp2
  go_loopg [13] 0 (fun _ s wr => s = .int .i64 0 ∧ wr = w)
  case atStart => exact ⟨rfl, rfl⟩
  case round =>
    obtain ⟨rfl, rfl⟩ := hrel
    go_wp2
    go_ret
    exact ⟨rfl, rfl⟩
theorem eq_some (g1 o1 c1 g2 o2 c2 n : Nat) (xs ys : List Ins) (w : World) (hx : xs.length = n) (hy : ys.length = n) (hn : n ≤ 10000) (hg1 : g1 < w.heap.size) (hr1 : w.rangeAt g1 o1 (flatE encI xs)) (hg2 : g2 < w.heap.size) (hr2 : w.rangeAt g2 o2 (flatE encI ys)) :
    Calls Tryz.prog 63 #[.slice (some ⟨g1, o1, none⟩) n c1, .slice (some ⟨g2, o2, none⟩) n c2] w fun e w' => e = .returned (.bool (sameR xs ys)) ∧ Below w.heap.size w w' := by
  have HL1 : Hid (∀ k, k < n → ∀ W, Below w.heap.size w W → (loadVar 79 ⟨g1, o1 + k * 28, none⟩).run Tryz.prog W = .ok (.agg (encI xs[k]!).toArray) W) := Lib.hid (fun k hk W hW => row_load hr1 hg1 hW (by omega))
  have HL2 : Hid (∀ k, k < n → ∀ W, Below w.heap.size w W → (loadVar 79 ⟨g2, o2 + k * 28, none⟩).run Tryz.prog W = .ok (.agg (encI ys[k]!).toArray) W) := Lib.hid (fun k hk W hW => row_load hr2 hg2 hW (by omega))
  have HT : Hid ((∀ k, k < n → eqI xs[k]! ys[k]! = true) → sameR xs ys = true) := Lib.hid (fun h => by
    unfold sameR
    rw [Bool.and_eq_true, decide_eq_true_eq, List.all_eq_true]
    exact ⟨by omega, fun k hk => h k (by rw [List.mem_range] at hk; omega)⟩)
  have HF : Hid (∀ k, k < n → eqI xs[k]! ys[k]! = false → sameR xs ys = false) := Lib.hid (fun k hk h => by
    cases hs : sameR xs ys with
    | false => rfl
    | true => rw [(sameR_iff xs ys).1 hs, eqI_self] at h; cases h)
  generalize sameR xs ys = r at *
  clear hr1 hr2
  go_enter Tryz.func63, Tryz.ntmps63
  go_wp2
  go_loopw [13] (fun i wr => ∃ k : Nat, i = .int .i64 (k : Int) ∧ k ≤ n ∧ (∀ j, j < k → eqI xs[j]! ys[j]! = true) ∧ Below w.heap.size w wr) (fun i _ => n - (RowKit.intOf i).toNat)
  case atStart => exact ⟨0, rfl, by omega, fun j hj => by omega, Below.refl _ _⟩
  case round =>
    obtain ⟨k, rfl, hk, hF, hbr⟩ := hrel
    have HD := Lib.hid hF
    clear hF
    by_cases hlt : k < n
    · have hlt' : (k : Int) < (n : Int) := by omega
      have HBN := Lib.hid hbr
      have HQ1 : Hid (∀ q : Kept wr.heap.size wr, (loadVar 79 ⟨g1, o1 + k * 28, none⟩).run Tryz.prog q.val = .ok (.agg (encI xs[k]!).toArray) q.val) := Lib.hid (fun q => HL1.out k hlt _ (HBN.out.trans (q.property.mono HBN.out.size)))
      have HQ2 : Hid (∀ q : Kept wr.heap.size wr, (loadVar 79 ⟨g2, o2 + k * 28, none⟩).run Tryz.prog q.val = .ok (.agg (encI ys[k]!).toArray) q.val) := Lib.hid (fun q => HL2.out k hlt _ (HBN.out.trans (q.property.mono HBN.out.size)))
      have he := fun W => eqIns xs[k]! ys[k]! W
      have HNX : Hid (eqI xs[k]! ys[k]! = true → ∀ wx, Below w.heap.size w wx → ∃ k' : Nat, Value.int .i64 ((k : Int) + 1) = .int .i64 (k' : Int) ∧ k' ≤ n ∧ (∀ j, j < k' → eqI xs[j]! ys[j]! = true) ∧ Below w.heap.size w wx) := Lib.hid (fun h wx hx => ⟨k + 1, by simp, by omega, fun j hj => by
        by_cases e : j = k
        · subst e; exact h
        · exact HD.out j (by omega), hx⟩)
      have HRF := Lib.hid (HF.out k hlt)
      clear HT HF HD HL1 HL2 hbr
      cases hq : eqI xs[k]! ys[k]! with
      | false =>
        rw [hq] at he
        have HRR : Hid (r = false) := Lib.hid (HRF.out hq)
        clear HRF HNX hq
        generalize (encI xs[k]!).toArray = X at *
        generalize (encI ys[k]!).toArray = Y at *
        go_upto_region 6 with fail
        refine wp_region_kept wr.heap.size wr (Below.refl _ _) (by kernel_rfl) (by kernel_rfl) ?_
        repeat (first
          | (go_big_quiet_want; (with_reducible refine quiet_loadV 79 (.tmp 18) rfl _ ?_ _ HQ1.out ?_); rfl; simp only [Act.put, List.setIfInBounds_toArray, List.set_cons_zero, List.set_cons_succ]; go_big_quiet_on)
          | (go_big_quiet_want; (with_reducible refine quiet_loadV 79 (.tmp 22) rfl _ ?_ _ HQ2.out ?_); rfl; simp only [Act.put, List.setIfInBounds_toArray, List.set_cons_zero, List.set_cons_succ]; go_big_quiet_on)
          | go_big_quiet_step (fail))
        refine wpQuiet_nil ?_
        rintro wk ⟨⟨_, hwk⟩, rfl⟩
        go_wp2
        go_ret
        exact ⟨by rw [HRR.out]; rfl, HBN.out.trans (hwk.mono HBN.out.size)⟩
      | true =>
        rw [hq] at he
        have HNY := Lib.hid (HNX.out hq)
        clear HRF HNX hq
        generalize (encI xs[k]!).toArray = X at *
        generalize (encI ys[k]!).toArray = Y at *
        go_upto_region 6 with fail
        refine wp_region_kept wr.heap.size wr (Below.refl _ _) (by kernel_rfl) (by kernel_rfl) ?_
        repeat (first
          | (go_big_quiet_want; (with_reducible refine quiet_loadV 79 (.tmp 18) rfl _ ?_ _ HQ1.out ?_); rfl; simp only [Act.put, List.setIfInBounds_toArray, List.set_cons_zero, List.set_cons_succ]; go_big_quiet_on)
          | (go_big_quiet_want; (with_reducible refine quiet_loadV 79 (.tmp 22) rfl _ ?_ _ HQ2.out ?_); rfl; simp only [Act.put, List.setIfInBounds_toArray, List.set_cons_zero, List.set_cons_succ]; go_big_quiet_on)
          | go_big_quiet_step (fail))
        refine wpQuiet_nil ?_
        rintro wk ⟨⟨_, hwk⟩, rfl⟩
        have HBW := Lib.hid (HNY.out _ (HBN.out.trans (hwk.mono HBN.out.size)))
        clear hwk
        go_wp2
        go_roundw
        case rel => exact HBW.out
        case measure => simp [RowKit.intOf]; omega
    · have hlt' : ¬ (k : Int) < (n : Int) := by omega
      have HRT : Hid (r = true) := Lib.hid (HT.out (fun j hj => HD.out j (by omega)))
      have HBR := Lib.hid hbr
      clear HT HF HD HL1 HL2 hbr
      go_wp2
      go_ret
      exact ⟨by rw [HRT.out]; rfl, HBR.out⟩
theorem eq_any (A A' : Option Addr) (c c' : Nat) (xs ys : List Ins) (w : World) (hx : xs.length ≤ 10000) (hA : IAt w w.heap.size A xs) (hA' : IAt w w.heap.size A' ys) :
    Calls Tryz.prog 63 #[.slice A xs.length c, .slice A' ys.length c'] w fun e w' => e = .returned (.bool (sameR xs ys)) ∧ Below w.heap.size w w' := by
  by_cases h : xs.length = ys.length
  · rcases hA with rfl | ⟨g1, o1, rfl, hg1, hr1⟩
    · have hy : ys = [] := List.eq_nil_of_length_eq_zero (by simpa using h.symm)
      subst hy
      refine (eq_none A A' c c' w).mono ?_
      rintro e w' ⟨rfl, rfl⟩
      exact ⟨rfl, Below.refl _ _⟩
    · rcases hA' with rfl | ⟨g2, o2, rfl, hg2, hr2⟩
      · have hx0 : xs = [] := List.eq_nil_of_length_eq_zero (by simpa using h)
        subst hx0
        refine (eq_none _ A' c c' w).mono ?_
        rintro e w' ⟨rfl, rfl⟩
        exact ⟨rfl, Below.refl _ _⟩
      · rw [← h]
        exact eq_some g1 o1 c g2 o2 c' xs.length xs ys w rfl h.symm hx hg1 hr1 hg2 hr2
  · have hs : sameR xs ys = false := by unfold sameR; rw [decide_eq_false h, Bool.false_and]
    rw [hs]
    refine (eq_len A A' _ _ c c' w h).mono ?_
    rintro e w' ⟨rfl, rfl⟩
    exact ⟨rfl, Below.refl _ _⟩
theorem same_any (A A' : Option Addr) (c c' : Nat) (xs ys : List Ins) (w : World) (hx : xs.length ≤ 10000) (hA : IAt w w.heap.size A xs) (hA' : IAt w w.heap.size A' ys) :
    Calls Tryz.prog 37 #[.slice A xs.length c, .slice A' ys.length c'] w fun e w' => e = .returned (.bool (sameR xs ys)) ∧ Below w.heap.size w w' := by
  have H := Lib.hid (eq_any A A' c c' xs ys w hx hA hA')
  clear hA hA'
  go_enter Tryz.func37, Tryz.ntmps37
  go_wp2_with (first | (go_at_call 63; (with_reducible refine H.out.mono ?_); rintro e w1 ⟨rfl, hb1⟩))
  go_ret
  exact ⟨rfl, hb1⟩
end Go.Proofs.YtehgpnnfjgmiiaaGreat
end
section
namespace Go.Proofs.YtehgpnnfjgmiiaaGreat
open Go.Shelf Go.RowKit Go.Lib Go.Great
set_option maxRecDepth 100000
set_option maxHeartbeats 400000
theorem heap5 (w : World) (a b c d e : Obj) : let W := ((((w.alloc a).alloc b).alloc c).alloc d).alloc e
    W.heap[w.heap.size]? = some a ∧ W.heap[w.heap.size + 1]? = some b ∧ W.heap[w.heap.size + 1 + 1]? = some c ∧ W.heap[w.heap.size + 1 + 1 + 1]? = some d ∧ W.heap[w.heap.size + 1 + 1 + 1 + 1]? = some e ∧ Below w.heap.size w W ∧ W.heap.size = w.heap.size + 5 := by
  intro W
  refine ⟨?_, ?_, ?_, ?_, ?_, (((((Below.refl _ w).alloc (Nat.le_refl _) _).alloc (by simp) _).alloc (by simp; omega) _).alloc (by simp; omega) _).alloc (by simp; omega) _, by simp [W]⟩
  all_goals
    show (((((w.heap.push a).push b).push c).push d).push e)[_]? = _
    simp only [Array.getElem?_push, Array.size_push]
    repeat (first | rw [if_pos trivial] | rw [if_pos (by omega)] | rw [if_neg (by omega)])
end Go.Proofs.YtehgpnnfjgmiiaaGreat
end
section
namespace Go.Proofs.YtehgpnnfjgmiiaaGreat
open Go.Shelf Go.RowKit Go.Lib Go.Great
set_option maxRecDepth 100000
set_option maxHeartbeats 2000000
theorem run_copy28 (w : World) (ty : TypeId) (g o dLen dCap : Nat) (a : Addr) (sLen sCap : Nat) (cur : List Value) (cs : List Value)
    (hg : w.heap[g]? = some (.cells cur.toArray 79 (0, 0))) (hn : cs.length = Nat.min sLen dLen * 28)
    (hsrc : ∀ j v, cs[j]? = some v → w.cell? (a.add j) = some v) (hfit : o + cs.length ≤ cur.length) (h1 : ∀ v ∈ cs, v.oneCell' = true) :
    (Builtin.copy_ #[26, 26] ty #[.slice (some ⟨g, o, none⟩) dLen dCap, .slice (some a) sLen sCap]).run Tryz.prog w =
      .ok (goInt (Nat.min sLen dLen)) (w.setRow g (splice cur o cs).toArray) := by
  obtain ⟨i0, hi, hz0, hz1, hz2⟩ := info28i
  have hl := run_loadCells_list (P := Tryz.prog) w a cs hsrc
  have hst := run_storeCells_at Tryz.prog g o 79 cs 0 cur.toArray w hg (by simpa using hfit) h1
  simp only [Nat.add_zero] at hst
  simp [Builtin.copy_, run_underlying Tryz.underlying26, Builtin.lenOf, Builtin.firstCells, sizeOf, typeInfo, hi, hz1, ← hn, hl, hst, splice]
theorem wpList_copy28 {w : World} {ops : Array Oper} {rest : List Oper} {o : Oper} {a : Act} {Q : Exit → Act → World → Prop} (hgd : o.guard = none) (d s : Operand)
    (ho : o.op = .call { callee := .builtin .copy, args := #[d, s], argTypes := #[26, 26] })
    (g off dLen dCap : Nat) (ad : Addr) (sLen sCap : Nat) (hd : a.eval d = .slice (some ⟨g, off, none⟩) dLen dCap) (hs : a.eval s = .slice (some ad) sLen sCap)
    (cur cs : List Value) (hg : w.heap[g]? = some (.cells cur.toArray 79 (0, 0))) (hn : cs.length = Nat.min sLen dLen * 28)
    (hsrc : ∀ j v, cs[j]? = some v → w.cell? (ad.add j) = some v) (hfit : off + cs.length ≤ cur.length) (h1 : ∀ v ∈ cs, v.oneCell' = true)
    (h : wpList Tryz.prog ops Q rest (a.put o.dst (goInt (Nat.min sLen dLen))) (w.setRow g (splice cur off cs).toArray)) : wpList Tryz.prog ops Q (o :: rest) a w :=
  wpList_plain hgd fun _ hK => by
    have hrun := run_copy28 w o.type g off dLen dCap ad sLen sCap cur cs hg hn hsrc hfit h1
    unfold Oper.wp
    simp [execOp, ho, resolve, invoke, builtin, hd, hs, hrun, Result.andThen]
    exact hK _ _ h
theorem step_copy28 {ops : Array Oper} {o : Oper} {a : Act} {w : World} {K : Act → World → Prop} {Q : Exit → Act → World → Prop} {E : Prop} (hgd : o.guard = none) (d s : Operand)
    (ho : o.op = .call { callee := .builtin .copy, args := #[d, s], argTypes := #[26, 26] })
    (g off dLen dCap : Nat) (ad : Addr) (sLen sCap : Nat) (hd : a.eval d = .slice (some ⟨g, off, none⟩) dLen dCap) (hs : a.eval s = .slice (some ad) sLen sCap)
    (cur cs : List Value) (hg : w.heap[g]? = some (.cells cur.toArray 79 (0, 0))) (hn : cs.length = Nat.min sLen dLen * 28)
    (hsrc : ∀ j v, cs[j]? = some v → w.cell? (ad.add j) = some v) (hfit : off + cs.length ≤ cur.length) (h1 : ∀ v ∈ cs, v.oneCell' = true)
    (h : K (a.put o.dst (goInt (Nat.min sLen dLen))) (w.setRow g (splice cur off cs).toArray)) :
    if Region.wanted o (yielded ops a.tmps) = true then Oper.wp Tryz.prog o a w K Q else E := by
  have hw : Region.wanted o (yielded ops a.tmps) = true := by simp [Region.wanted, hgd]
  rw [if_pos hw]
  have hrun := run_copy28 w o.type g off dLen dCap ad sLen sCap cur cs hg hn hsrc hfit h1
  unfold Oper.wp
  simp [execOp, ho, resolve, invoke, builtin, hd, hs, hrun, Result.andThen]
  exact h
end Go.Proofs.YtehgpnnfjgmiiaaGreat
end
section
namespace Go.Proofs.YtehgpnnfjgmiiaaGreat
open Go.Shelf Go.RowKit Go.Lib Go.Great
set_option maxRecDepth 100000
set_option maxHeartbeats 1000000
theorem compareBytes_anti : ∀ a b : List UInt8, compareBytes a b = - compareBytes b a
  | [], [] => rfl
  | [], _ :: _ => rfl
  | _ :: _, [] => rfl
  | x :: a, y :: b => by
    have ih := compareBytes_anti a b
    unfold compareBytes
    by_cases hxy : x < y
    · have hyx : ¬ y < x := fun h => by rw [UInt8.lt_iff_toNat_lt] at *; omega
      rw [if_pos hxy, if_neg hyx, if_pos hxy]
    · rw [if_neg hxy]
      by_cases hyx : y < x
      · rw [if_pos hyx, if_pos hyx]; rfl
      · rw [if_neg hyx, if_neg hyx, if_neg hxy]; exact ih
theorem compareBytes_trans : ∀ a b c : List UInt8, compareBytes a b = 1 → compareBytes b c = 1 → compareBytes a c = 1
  | [], [], _, h, _ => absurd h (by simp [compareBytes])
  | [], _ :: _, _, h, _ => absurd h (by simp [compareBytes])
  | _ :: _, [], [], _, h => absurd h (by simp [compareBytes])
  | _ :: _, [], _ :: _, _, h => absurd h (by simp [compareBytes])
  | _ :: _, _ :: _, [], _, _ => rfl
  | x :: a, y :: b, z :: c, h1, h2 => by
    have ih := compareBytes_trans a b c
    simp only [compareBytes, UInt8.lt_iff_toNat_lt] at h1 h2 ⊢
    by_cases hxy : x.toNat < y.toNat
    · rw [if_pos hxy] at h1; simp at h1
    · rw [if_neg hxy] at h1
      by_cases hyz : y.toNat < z.toNat
      · rw [if_pos hyz] at h2; simp at h2
      · rw [if_neg hyz] at h2
        rw [if_neg (by omega)]
        by_cases hzx : z.toNat < x.toNat
        · rw [if_pos hzx]
        · rw [if_neg hzx]
          rw [if_neg (by omega)] at h1 h2
          exact ih h1 h2
end Go.Proofs.YtehgpnnfjgmiiaaGreat
end
section
namespace Go.Proofs.YtehgpnnfjgmiiaaGreat
open Go.Shelf Go.RowKit Go.Lib Go.Great
set_option maxRecDepth 100000
set_option maxHeartbeats 2000000
theorem cmpP_lt_trans {x y z : Ins} (h1 : cmpP x y < 0) (h2 : cmpP y z < 0) : cmpP x z < 0 := by
  unfold cmpP at *
  have a1 := compareBytes_anti x.pub y.pub
  have a2 := compareBytes_anti y.pub z.pub
  have a3 := compareBytes_anti x.pub z.pub
  have b1 := (less_cmp x.pub y.pub).2.2
  have b2 := (less_cmp y.pub z.pub).2.2
  have := compareBytes_trans z.pub y.pub x.pub (by omega) (by omega)
  omega
/-- In order, by publishers. -/
def SrtP (L : List Ins) : Prop := ∀ i j, i < j → j < L.length → cmpP L[i]! L[j]! < 0
theorem goodR_srt {L : List Ins} (h : goodR L = true) : SrtP L := by
  have hk := ((goodR_iff L).1 h).2
  have hs : ∀ k, k + 1 < L.length → cmpP L[k]! L[k + 1]! < 0 := fun k hk1 => by
    have := hk (k + 1) hk1
    unfold okAt at this
    rw [Bool.and_eq_true, Bool.or_eq_true, decide_eq_true_eq, decide_eq_true_eq] at this
    rcases this.2 with e | e
    · omega
    · simpa using e
  intro i j hij hj
  induction j with
  | zero => omega
  | succ j ih =>
    by_cases e : i = j
    · subst e; exact hs i hj
    · exact cmpP_lt_trans (ih (by omega) (by omega)) (hs j hj)
end Go.Proofs.YtehgpnnfjgmiiaaGreat
end
section
namespace Go.Proofs.YtehgpnnfjgmiiaaGreat
open Go.Shelf Go.RowKit Go.Lib Go.Great
set_option maxRecDepth 100000
set_option maxHeartbeats 400000
theorem own_bel {w w' : World} {base n : Nat} {v : Value} {L : List Ins} (h : w.ownsRow base 79 28 v n (flatE encI L)) (hb : Below w.heap.size w w') : w'.ownsRow base 79 28 v n (flatE encI L) :=
  h.kept (grown_of_bel hb none) (by cases v.ownBlock <;> simp)
end Go.Proofs.YtehgpnnfjgmiiaaGreat
end
