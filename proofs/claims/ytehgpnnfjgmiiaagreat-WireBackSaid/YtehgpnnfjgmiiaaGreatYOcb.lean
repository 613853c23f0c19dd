/- What a read that fails leaves of a roster: plain. No condition. What putting instances one by one leaves: plain. No condition. Merge of the program. Conditions: at most 10,000 instances each, targets of at most 100,000 bytes. Light of the statements. Condition: a length that an int holds. Bytes of the reference of layer inst. Conditions: targets of at most 100,000 bytes. Walk of RosterMerges. Condition: lengths that an int holds. Rows that grow; with of the reference, plain. No condition. Good of the reference: rosters. Conditions: at most 10,000 instances, targets of at most 100,000 bytes. Same of the reference at instances. No condition. Walk of RosterReads; in a region that draws its order: a call that alone may come next, and one walk of what only reads behind it. No condition. Operations of a region that draws its order, one by one; leaving one out of a row. No condition. Walk of InstBack. Conditions: the lengths together of at most 4611686018427387904 bytes. -/
import Derived.Test.YtehgpnnfjgmiiaaGreatProg
import Derived.Test.YtehgpnnfjgmiiaaGreatYOaa
import Derived.Test.YtehgpnnfjgmiiaaGreatYJVwt
import Derived.Test.YtehgpnnfjgmiiaaGreatYOga
import Derived.Test.YtehgpnnfjgmiiaaGreatYJPWords
import Derived.RegionTactic
import Derived.RegionCalls
import Derived.WalkKit
import Derived.Deep.RegionHeld3
import Derived.Deep.QuietTactic
import Derived.BigQuiet
import Derived.Test.YtehgpnnfjgmiiaaGreatYKCdi
import Derived.Test.YtehgpnnfjgmiiaaGreatYJLcd
import Derived.Shelf.Abstract
import Derived.Sort.Grow
import Derived.Lib.SlBytesConst
import Derived.LoopTactic
import Derived.Stop.BytesEq
import Derived.Deep.AppendSrc
import Derived.Lib.ConvBytes
import Derived.Laws.ResultCell
import Derived.Deep.CutRange
section
namespace Go.Proofs.YtehgpnnfjgmiiaaGreat
open Go.Shelf Go.RowKit Go.Lib Go.Great
set_option maxRecDepth 100000
set_option maxHeartbeats 400000
theorem goodR_all {L : List Ins} (h : goodR L = true) : ∀ x ∈ L, goodI x = true := by
  intro x hx
  obtain ⟨k, hk, rfl⟩ := List.mem_iff_getElem.1 hx
  have := ((goodR_iff L).1 h).2 k hk
  unfold okAt at this
  rw [Bool.and_eq_true, getElem!_pos L k hk] at this
  exact this.1
end Go.Proofs.YtehgpnnfjgmiiaaGreat
end
section
namespace Go.Proofs.YtehgpnnfjgmiiaaGreat
open Go.Shelf Go.RowKit Go.Lib Go.Great
set_option maxRecDepth 100000
set_option maxHeartbeats 400000
/-! The two orders. -/
abbrev Asc (L : List Ins) : Prop := L.Pairwise (fun x y => cmpP x y < 0)
end Go.Proofs.YtehgpnnfjgmiiaaGreat
end
section
namespace Go.Proofs.YtehgpnnfjgmiiaaGreat
open Go.Shelf Go.RowKit Go.Lib Go.Great
set_option maxRecDepth 100000
set_option maxHeartbeats 400000
/-- A row of the program's own. -/
def OwnR (w : World) (M : List Ins) (W : World) (v : Value) : Prop := W.ownsRow w.heap.size 79 28 v M.length (flatE encI M) ∧ Below w.heap.size w W
theorem OwnR.bel {w W W' : World} {M : List Ins} {v : Value} (h : OwnR w M W v) (hb : Below W.heap.size W W') : OwnR w M W' v := ⟨own_bel h.1 hb, h.2.trans (hb.mono h.2.size)⟩
end Go.Proofs.YtehgpnnfjgmiiaaGreat
end
section
namespace Go.Proofs.YtehgpnnfjgmiiaaGreat
open Go.Shelf Go.RowKit Go.Lib Go.Great
set_option maxRecDepth 100000
set_option maxHeartbeats 400000
/-- Instances that are not more than are looked at. -/
def lightR (L : List Ins) : Bool := L.all (fun i => decide (i.tgt.length ≤ 300)) && decide (L.length ≤ 40)
theorem light_of {L : List Ins} {k : Nat} (hk : k < L.length) (h : ¬ L[k]!.tgt.length ≤ 300) : lightR L = false := by
  unfold lightR
  rw [Bool.and_eq_false_iff]
  left
  rw [List.all_eq_false]
  refine ⟨L[k]!, ?_, by simpa using h⟩
  rw [getElem!_pos L k hk]
  exact List.getElem_mem hk
theorem light_end {L : List Ins} (h : ∀ k, k < L.length → L[k]!.tgt.length ≤ 300) : lightR L = decide (L.length ≤ 40) := by
  unfold lightR
  have : L.all (fun i => decide (i.tgt.length ≤ 300)) = true := by
    rw [List.all_eq_true]
    intro x hx
    obtain ⟨k, hk, rfl⟩ := List.getElem_of_mem hx
    have := h k hk
    rw [getElem!_pos L k hk] at this
    simpa using this
  rw [this, Bool.true_and]
theorem light_none (A : Option Addr) (c : Nat) (w : World) : Calls Tryz.prog 21 #[.slice A 0 c] w fun e w' => e = .returned (.bool true) ∧ w' = w := by
  go_enter Tryz.func21, Tryz.ntmps21
  go_wp2
  go_loopg [7] 0 (fun _ s wr => s = .int .i64 0 ∧ wr = w)
  case atStart => exact ⟨rfl, rfl⟩
  case round =>
    obtain ⟨rfl, rfl⟩ := hrel
    go_wp2
    go_ret
    exact ⟨rfl, rfl⟩
theorem light_some (b off c n : Nat) (L : List Ins) (w : World) (hn : L.length = n) (hL : n ≤ 9223372036854775807) (hb : b < w.heap.size) (hr : w.rangeAt b off (flatE encI L)) :
    Calls Tryz.prog 21 #[.slice (some ⟨b, off, none⟩) n c] w fun e w' => e = .returned (.bool (lightR L)) ∧ Below w.heap.size w w' := by
  have HLD : Hid (∀ k, k < n → ∀ W, Below w.heap.size w W → (loadVar 79 ⟨b, off + k * 28, none⟩).run Tryz.prog W = .ok (.agg (encI L[k]!).toArray) W) := Lib.hid (fun k hk W hW => row_load hr hb hW (by omega))
  have HF : Hid (∀ k, k < n → ¬ L[k]!.tgt.length ≤ 300 → lightR L = false) := Lib.hid (fun k hk h => light_of (by omega) h)
  have HE : Hid ((∀ k, k < n → L[k]!.tgt.length ≤ 300) → lightR L = decide (n ≤ 40)) := Lib.hid (fun h => by rw [← hn]; exact light_end (fun k hk => h k (by omega)))
  clear hr hn
  generalize lightR L = r at *
  go_enter Tryz.func21, Tryz.ntmps21
  go_wp2
  go_loopw [7] (fun i wr => ∃ k : Nat, i = .int .i64 (k : Int) ∧ k ≤ n ∧ (∀ j, j < k → L[j]!.tgt.length ≤ 300) ∧ Below w.heap.size w wr) (fun i _ => n - (RowKit.intOf i).toNat)
  case atStart => exact ⟨0, rfl, by omega, fun j hj => by omega, Below.refl _ _⟩
  case round =>
    obtain ⟨k, rfl, hk, hF, hbr⟩ := hrel
    have HD := Lib.hid hF
    clear hF
    by_cases hlt : k < n
    · have hlt' : (k : Int) < (n : Int) := by omega
      have hbn : Below w.heap.size w (wr.alloc (.cells (encI L[k]!).toArray 79)) := hbr.alloc hbr.size _
      have HBN := Lib.hid hbn
      have hfl := (fldB (heap_alloc_new wr (.cells (encI L[k]!).toArray 79))).tgt
      have hld := Lib.hid (HLD.out k hlt wr hbr)
      have HFK := HF.out k hlt
      have HDK : Hid (L[k]!.tgt.length ≤ 300 → ∀ j, j < k + 1 → L[j]!.tgt.length ≤ 300) := Lib.hid (fun h j hj => by
        rcases Nat.lt_or_ge j k with h' | h'
        · exact HD.out j h'
        · obtain rfl : j = k := by omega
          exact h)
      clear HD HF HE HLD hbn
      generalize L[k]! = Y at *
      have hsz : (bstr Y.tgt).size = Y.tgt.length := by show Y.tgt.toArray.size = _; simp
      generalize bstr Y.tgt = S at *
      by_cases hs : Y.tgt.length ≤ 300
      · have hs1 : ¬ (S.size : Int) > 300 := by omega
        have HX := Lib.hid (HDK.out hs)
        clear HFK hs hsz HDK
        go_wp2_with (first
          | ((with_reducible refine wpList_loadV (op := ⟨some 10, _, _, _, _, _⟩) rfl 79 (.tmp 9) rfl _ ?_ _ hld.out ?_); rfl)
          | (with_reducible refine wpList_alloc28 (o := ⟨some 4, _, _, _, _, _⟩) wr.heap.size rfl rfl 4 rfl rfl ?_)
          | ((with_reducible refine wpList_store28n (o := ⟨none, _, _, _, _, _⟩) rfl (.tmp 4) (.tmp 10) rfl wr.heap.size rfl zeroI Y ?_ ?_ ?_); rfl; rfl))
        go_roundw
        case rel => exact ⟨k + 1, by go_num, by omega, HX.out, HBN.out⟩
        case measure => simp [RowKit.intOf]; omega
      · have hs1 : (S.size : Int) > 300 := by omega
        have HX := Lib.hid (HFK hs)
        clear HFK hs hsz HDK
        go_wp2_with (first
          | ((with_reducible refine wpList_loadV (op := ⟨some 10, _, _, _, _, _⟩) rfl 79 (.tmp 9) rfl _ ?_ _ hld.out ?_); rfl)
          | (with_reducible refine wpList_alloc28 (o := ⟨some 4, _, _, _, _, _⟩) wr.heap.size rfl rfl 4 rfl rfl ?_)
          | ((with_reducible refine wpList_store28n (o := ⟨none, _, _, _, _, _⟩) rfl (.tmp 4) (.tmp 10) rfl wr.heap.size rfl zeroI Y ?_ ?_ ?_); rfl; rfl))
        go_ret
        exact ⟨by rw [HX.out]; rfl, HBN.out⟩
    · obtain rfl : k = n := by omega
      have HX := Lib.hid (HE.out HD.out)
      have HB := Lib.hid hbr
      clear HD HF HE HLD hbr
      by_cases h4 : k ≤ 40
      · have h4' : (k : Int) ≤ 40 := by omega
        go_wp2
        go_ret
        exact ⟨by rw [HX.out]; simp [h4], HB.out⟩
      · have h4' : ¬ (k : Int) ≤ 40 := by omega
        go_wp2
        go_ret
        exact ⟨by rw [HX.out]; simp [h4], HB.out⟩
theorem light_any (A : Option Addr) (c : Nat) (L : List Ins) (w : World) (hL : L.length ≤ 9223372036854775807) (hA : IAt w w.heap.size A L) :
    Calls Tryz.prog 21 #[.slice A L.length c] w fun e w' => e = .returned (.bool (lightR L)) ∧ Below w.heap.size w w' := by
  rcases hA with rfl | ⟨g, off, rfl, hg, hr⟩
  · exact (light_none A c w).mono (by rintro e w' ⟨rfl, rfl⟩; exact ⟨rfl, Below.refl _ _⟩)
  · exact light_some g off c L.length L w rfl hL hg hr
end Go.Proofs.YtehgpnnfjgmiiaaGreat
end
section
namespace Go.Proofs.YtehgpnnfjgmiiaaGreat
open Go.Shelf Go.RowKit Go.Lib Go.Great
set_option maxRecDepth 100000
set_option maxHeartbeats 2000000
theorem wpList_appB {ops : Array Oper} {rest : List Oper} {o : Oper} {a : Act} {w : World} {Q : Exit → Act → World → Prop} (hgd : o.guard = none) (d : Nat) (hd : o.dst = some d) (s x : Operand)
    (ho : o.op = .call { callee := .builtin .append, args := #[s, x], argTypes := #[31, 31] })
    (base : Nat) (v : Value) (L : List UInt8) (hs : a.eval s = v) (hown : w.ownsRow base 5 1 v L.length (bcells L)) (y : Value) (M : List UInt8) (hx : a.eval x = y) (hr : Src Tryz.prog 1 31 y M.length (bcells M) w) (h63 : L.length + M.length ≤ 10000000) (hbase : base ≤ w.heap.size)
    (h : ∀ A' c' w', w'.ownsRow base 5 1 (.slice A' (L ++ M).length c') (L ++ M).length (bcells (L ++ M)) → w.grownBy w' v.ownBlock → wpList Tryz.prog ops Q rest (a.put (some d) (.slice A' (L ++ M).length c')) w') :
    wpList Tryz.prog ops Q (o :: rest) a w :=
  wpList_plain hgd fun K hK => by
    have := step_appB (K := fun a' w' => wpList Tryz.prog ops Q rest a' w') (Q := Q) (E := True) (ops := ops) hgd d hd s x ho base v L hs hown y M hx hr h63 hbase (fun v' w' h1 h2 => by
      obtain ⟨A', c', rfl, _, _⟩ := own_bat h1
      exact h A' c' w' h1 h2)
    have hw : Region.wanted o (yielded ops a.tmps) = true := by simp [Region.wanted, hgd]
    rw [if_pos hw] at this
    exact Oper.wp_mono (fun a' w' h => hK a' w' h) this
/-- While Bytes of the reference runs. -/
structure RBW (w : World) (i : Ins) (W : World) : Prop where
  h1 : W.heap[w.heap.size]? = some (.cells (encI i).toArray 79 (0, 0))
  be : Below w.heap.size w W
theorem RBW.bel {w W W' : World} {i : Ins} (r : RBW w i W) (hb : Below W.heap.size W W') : RBW w i W' :=
  ⟨(hb.block _ (Array.getElem?_eq_some_iff.1 r.h1).1).trans r.h1, r.be.trans (hb.mono r.be.size)⟩
theorem RBW.cell {w W : World} {i : Ins} (r : RBW w i W) {j : Nat} {v : Value} (hv : (tailI i)[j]? = some v) : W.cell? ⟨w.heap.size, 20 + j, none⟩ = some v := by
  rw [cell_of_row _ _ _ _ 79 (0, 0) r.h1, encI_get]
  exact hv
theorem RBW.grown {w W W' : World} {i : Ins} {ob : Option Nat} (r : RBW w i W) (hg : W.grownBy W' ob) (ho : ∀ k, ob = some k → w.heap.size + 1 ≤ k) : RBW w i W' := by
  have hl := (Array.getElem?_eq_some_iff.1 r.h1).1
  exact ⟨(hg.block _ hl (by intro e; have := ho w.heap.size (by first | exact e | exact e.symm); omega)).trans r.h1, below_ownB r.be r.be.size hg (fun k hk => by have := ho k hk; omega)⟩
end Go.Proofs.YtehgpnnfjgmiiaaGreat
end
section
namespace Go.Proofs.YtehgpnnfjgmiiaaGreat
open Go.Shelf Go.RowKit Go.Lib Go.Great
set_option maxRecDepth 100000
set_option maxHeartbeats 400000
theorem IAt.src {w : World} {B : Nat} {A : Option Addr} {L : List Ins} {t e : TypeId} (hT : InsT t e) (h : IAt w B A L) (c : Nat) : Src Tryz.prog 28 t (.slice A L.length c) L.length (flatE encI L) w := by
  cases A with
  | none =>
    rcases h with rfl | ⟨g, off, e, _⟩
    · exact Src.ofNil w hT.und c
    · cases e
  | some x =>
    refine Src.ofSlice w hT.und x L.length c (flatE encI L) (by rw [flatE_length encI_length]) (fun j u hu => ?_) (flatE_one _)
    rcases h with rfl | ⟨g, off, e, _, hr⟩
    · simp [flatE] at hu
    · injection e with e
      subst e
      rw [Addr.add_mid]
      exact hr j u hu
theorem OwnR.be {w W : World} {M : List Ins} {v : Value} (h : OwnR w M W v) : Below w.heap.size w W := h.2
end Go.Proofs.YtehgpnnfjgmiiaaGreat
end
section
namespace Go.Proofs.YtehgpnnfjgmiiaaGreat
open Go.Shelf Go.RowKit Go.Lib Go.Great
set_option maxRecDepth 100000
set_option maxHeartbeats 400000
theorem src_newI {t e : TypeId} (hT : InsT t e) (x : Ins) (w : World) : Src Tryz.prog 28 t (.slice (some ⟨w.heap.size, 0, none⟩) 1 1) 1 (flatE encI [x]) (w.alloc (.cells (encI x).toArray e)) := by
  refine Src.ofSlice _ hT.und _ 1 1 (flatE encI [x]) (by rw [flatE_length encI_length]; rfl) (fun j u hu => ?_) (flatE_one _)
  rw [Addr.add_mid]
  have e1 : flatE encI [x] = encI x := by unfold flatE; simp
  rw [e1] at hu
  exact row_range (heap_alloc_new w (.cells (encI x).toArray e)) j u hu
/-- A row of its own beyond what was there. -/
structure GroR (w1 : World) (W : World) (v : Value) (o : List Ins) : Prop where
  be : Below w1.heap.size w1 W
  own : W.ownsRow w1.heap.size 79 28 v o.length (flatE encI o)
section
variable {w1 W W' : World} {v v' : Value} {o : List Ins}
theorem GroR.start (w1 : World) : GroR w1 w1 (.slice none 0 0) [] := ⟨Below.refl _ _, World.ownsRow_nil w1 _ 79 28⟩
theorem GroR.bel (h : GroR w1 W v o) (hb : Below W.heap.size W W') : GroR w1 W' v o := ⟨h.be.trans (hb.mono h.be.size), own_bel h.own hb⟩
theorem GroR.push (h : GroR w1 W v o) (M : List Ins) (hg : W.grownBy W' v.ownBlock) (ho : W'.ownsRow w1.heap.size 79 28 v' (o ++ M).length (flatE encI (o ++ M))) : GroR w1 W' v' (o ++ M) :=
  ⟨below_ownB h.be h.be.size hg (fun k hk => (h.own.lt k hk).1), ho⟩
theorem GroR.out {w : World} (h : GroR w1 W v o) (hb : Below w.heap.size w w1) : OwnR w o W v := ⟨own_baseC h.own hb.size, hb.trans (h.be.mono hb.size)⟩
end
end Go.Proofs.YtehgpnnfjgmiiaaGreat
end
section
namespace Go.Proofs.YtehgpnnfjgmiiaaGreat
open Go.Shelf Go.RowKit Go.Lib Go.Great
set_option maxRecDepth 100000
set_option maxHeartbeats 2000000
end Go.Proofs.YtehgpnnfjgmiiaaGreat
end
section
namespace Go.Proofs.YtehgpnnfjgmiiaaGreat
open Go.Shelf Go.RowKit Go.Lib Go.Great
set_option maxRecDepth 100000
set_option maxHeartbeats 400000
theorem req_len (A A' : Option Addr) (n m c c' : Nat) (w : World) (h : n ≠ m) : Calls Tryz.prog 38 #[.slice A n c, .slice A' m c'] w fun e w' => e = .returned (.bool false) ∧ w' = w := by
  have h' : ¬ (n : Int) = (m : Int) := by omega
  go_enter Tryz.func38, Tryz.ntmps38
  go_wp2
  go_ret
  exact ⟨rfl, rfl⟩
theorem req_none (A A' : Option Addr) (c c' : Nat) (w : World) : Calls Tryz.prog 38 #[.slice A 0 c, .slice A' 0 c'] w fun e w' => e = .returned (.bool true) ∧ w' = w := by
  go_enter Tryz.func38, Tryz.ntmps38
  go_wp2
  go_loopg [5] 0 (fun _ s wr => s = .int .i64 0 ∧ wr = w)
  case atStart => exact ⟨rfl, rfl⟩
  case round =>
    obtain ⟨rfl, rfl⟩ := hrel
    go_wp2
    go_ret
    exact ⟨rfl, rfl⟩
theorem req_some (g1 o1 c1 g2 o2 c2 n : Nat) (xs ys : List Ins) (w : World) (hx : xs.length = n) (hy : ys.length = n) (hn : n ≤ 10000) (hg1 : g1 < w.heap.size) (hr1 : w.rangeAt g1 o1 (flatE encI xs)) (hg2 : g2 < w.heap.size) (hr2 : w.rangeAt g2 o2 (flatE encI ys)) :
    Calls Tryz.prog 38 #[.slice (some ⟨g1, o1, none⟩) n c1, .slice (some ⟨g2, o2, none⟩) n c2] w fun e w' => e = .returned (.bool (sameR xs ys)) ∧ Below w.heap.size w w' := by
  have HL1 : Hid (∀ k, k < n → ∀ W, Below w.heap.size w W → (loadVar 79 ⟨g1, o1 + k * 28, none⟩).run Tryz.prog W = .ok (.agg (encI xs[k]!).toArray) W) := Lib.hid (fun k hk W hW => row_load hr1 hg1 hW (by omega))
  have HL2 : Hid (∀ k, k < n → ∀ W, Below w.heap.size w W → (loadVar 79 ⟨g2, o2 + k * 28, none⟩).run Tryz.prog W = .ok (.agg (encI ys[k]!).toArray) W) := Lib.hid (fun k hk W hW => row_load hr2 hg2 hW (by omega))
  have HT : Hid ((∀ k, k < n → eqI xs[k]! ys[k]! = true) → sameR xs ys = true) := Lib.hid (fun h => by
    unfold sameR
    rw [Bool.and_eq_true, decide_eq_true_eq, List.all_eq_true]
    exact ⟨by omega, fun k hk => h k (by rw [List.mem_range] at hk; omega)⟩)
  have HF : Hid (∀ k, k < n → eqI xs[k]! ys[k]! = false → sameR xs ys = false) := Lib.hid (fun k hk h => by
    cases hs : sameR xs ys with
    | false => rfl
    | true => rw [(sameR_iff xs ys).1 hs, eqI_self] at h; cases h)
  generalize sameR xs ys = r at *
  clear hr1 hr2
  go_enter Tryz.func38, Tryz.ntmps38
  go_wp2
  go_loopw [5] (fun i wr => ∃ k : Nat, i = .int .i64 (k : Int) ∧ k ≤ n ∧ (∀ j, j < k → eqI xs[j]! ys[j]! = true) ∧ Below w.heap.size w wr) (fun i _ => n - (RowKit.intOf i).toNat)
  case atStart => exact ⟨0, rfl, by omega, fun j hj => by omega, Below.refl _ _⟩
  case round =>
    obtain ⟨k, rfl, hk, hF, hbr⟩ := hrel
    have HD := Lib.hid hF
    clear hF
    by_cases hlt : k < n
    · have hlt' : (k : Int) < (n : Int) := by omega
      have HBN := Lib.hid hbr
      have HQ1 : Hid (∀ q : Kept wr.heap.size wr, (loadVar 79 ⟨g1, o1 + k * 28, none⟩).run Tryz.prog q.val = .ok (.agg (encI xs[k]!).toArray) q.val) := Lib.hid (fun q => HL1.out k hlt _ (HBN.out.trans (q.property.mono HBN.out.size)))
      have HQ2 : Hid (∀ q : Kept wr.heap.size wr, (loadVar 79 ⟨g2, o2 + k * 28, none⟩).run Tryz.prog q.val = .ok (.agg (encI ys[k]!).toArray) q.val) := Lib.hid (fun q => HL2.out k hlt _ (HBN.out.trans (q.property.mono HBN.out.size)))
      have he := fun W => eqIns xs[k]! ys[k]! W
      have HNX : Hid (eqI xs[k]! ys[k]! = true → ∀ wx, Below w.heap.size w wx → ∃ k' : Nat, Value.int .i64 ((k : Int) + 1) = .int .i64 (k' : Int) ∧ k' ≤ n ∧ (∀ j, j < k' → eqI xs[j]! ys[j]! = true) ∧ Below w.heap.size w wx) := Lib.hid (fun h wx hx => ⟨k + 1, by simp, by omega, fun j hj => by
        by_cases e : j = k
        · subst e; exact h
        · exact HD.out j (by omega), hx⟩)
      have HRF := Lib.hid (HF.out k hlt)
      clear HT HF HD HL1 HL2 hbr
      cases hq : eqI xs[k]! ys[k]! with
      | false =>
        rw [hq] at he
        have HRR : Hid (r = false) := Lib.hid (HRF.out hq)
        clear HRF HNX hq
        generalize (encI xs[k]!).toArray = X at *
        generalize (encI ys[k]!).toArray = Y at *
        go_upto_region 6 with fail
        refine wp_region_kept wr.heap.size wr (Below.refl _ _) (by kernel_rfl) (by kernel_rfl) ?_
        repeat (first
          | (go_big_quiet_want; (with_reducible refine quiet_loadV 79 (.tmp 19) rfl _ ?_ _ HQ1.out ?_); rfl; simp only [Act.put, List.setIfInBounds_toArray, List.set_cons_zero, List.set_cons_succ]; go_big_quiet_on)
          | (go_big_quiet_want; (with_reducible refine quiet_loadV 79 (.tmp 23) rfl _ ?_ _ HQ2.out ?_); rfl; simp only [Act.put, List.setIfInBounds_toArray, List.set_cons_zero, List.set_cons_succ]; go_big_quiet_on)
          | go_big_quiet_step (fail))
        refine wpQuiet_nil ?_
        rintro wk ⟨⟨_, hwk⟩, rfl⟩
        go_wp2
        go_ret
        exact ⟨by rw [HRR.out]; rfl, HBN.out.trans (hwk.mono HBN.out.size)⟩
      | true =>
        rw [hq] at he
        have HNY := Lib.hid (HNX.out hq)
        clear HRF HNX hq
        generalize (encI xs[k]!).toArray = X at *
        generalize (encI ys[k]!).toArray = Y at *
        go_upto_region 6 with fail
        refine wp_region_kept wr.heap.size wr (Below.refl _ _) (by kernel_rfl) (by kernel_rfl) ?_
        repeat (first
          | (go_big_quiet_want; (with_reducible refine quiet_loadV 79 (.tmp 19) rfl _ ?_ _ HQ1.out ?_); rfl; simp only [Act.put, List.setIfInBounds_toArray, List.set_cons_zero, List.set_cons_succ]; go_big_quiet_on)
          | (go_big_quiet_want; (with_reducible refine quiet_loadV 79 (.tmp 23) rfl _ ?_ _ HQ2.out ?_); rfl; simp only [Act.put, List.setIfInBounds_toArray, List.set_cons_zero, List.set_cons_succ]; go_big_quiet_on)
          | go_big_quiet_step (fail))
        refine wpQuiet_nil ?_
        rintro wk ⟨⟨_, hwk⟩, rfl⟩
        have HBW := Lib.hid (HNY.out _ (HBN.out.trans (hwk.mono HBN.out.size)))
        clear hwk
        go_wp2
        go_roundw
        case rel => exact HBW.out
        case measure => simp [RowKit.intOf]; omega
    · have hlt' : ¬ (k : Int) < (n : Int) := by omega
      have HRT : Hid (r = true) := Lib.hid (HT.out (fun j hj => HD.out j (by omega)))
      have HBR := Lib.hid hbr
      clear HT HF HD HL1 HL2 hbr
      go_wp2
      go_ret
      exact ⟨by rw [HRT.out]; rfl, HBR.out⟩
theorem rsame_any (A A' : Option Addr) (c c' : Nat) (xs ys : List Ins) (w : World) (hx : xs.length ≤ 10000) (hA : IAt w w.heap.size A xs) (hA' : IAt w w.heap.size A' ys) :
    Calls Tryz.prog 38 #[.slice A xs.length c, .slice A' ys.length c'] w fun e w' => e = .returned (.bool (sameR xs ys)) ∧ Below w.heap.size w w' := by
  by_cases h : xs.length = ys.length
  · rcases hA with rfl | ⟨g1, o1, rfl, hg1, hr1⟩
    · have hy : ys = [] := List.eq_nil_of_length_eq_zero (by simpa using h.symm)
      subst hy
      refine (req_none A A' c c' w).mono ?_
      rintro e w' ⟨rfl, rfl⟩
      exact ⟨rfl, Below.refl _ _⟩
    · rcases hA' with rfl | ⟨g2, o2, rfl, hg2, hr2⟩
      · have hx0 : xs = [] := List.eq_nil_of_length_eq_zero (by simpa using h)
        subst hx0
        refine (req_none _ A' c c' w).mono ?_
        rintro e w' ⟨rfl, rfl⟩
        exact ⟨rfl, Below.refl _ _⟩
      · rw [← h]
        exact req_some g1 o1 c g2 o2 c' xs.length xs ys w rfl h.symm hx hg1 hr1 hg2 hr2
  · have hs : sameR xs ys = false := by unfold sameR; rw [decide_eq_false h, Bool.false_and]
    rw [hs]
    refine (req_len A A' _ _ c c' w h).mono ?_
    rintro e w' ⟨rfl, rfl⟩
    exact ⟨rfl, Below.refl _ _⟩
end Go.Proofs.YtehgpnnfjgmiiaaGreat
end
section
namespace Go.Proofs.YtehgpnnfjgmiiaaGreat
open Go.Shelf Go.RowKit Go.Lib Go.Great
set_option maxRecDepth 100000
set_option maxHeartbeats 400000
end Go.Proofs.YtehgpnnfjgmiiaaGreat
end
section
namespace Go.Proofs.YtehgpnnfjgmiiaaGreat
open Go.Shelf Go.RowKit Go.Lib Go.Great
set_option maxRecDepth 100000
set_option maxHeartbeats 400000
section
variable {P : Program} {md : Region.Mode} {ops : Array Oper} {Q : Exit → Act → World → Prop} {fuel : Nat} {listed : Array Bool} {a : Act} {w : World}
end
def headI (A : Option Addr) (c : Nat) : Option Addr := if c = 0 then A else A.map (·.add 0)
def cutI (A : Option Addr) (c k : Nat) : Option Addr := if c = k then A else A.map (·.add (k * 28))
section
variable {w w' : World} {B c k : Nat} {A : Option Addr} {L : List Ins}
end
end Go.Proofs.YtehgpnnfjgmiiaaGreat
end
section
namespace Go.Proofs.YtehgpnnfjgmiiaaGreat
open Go.Shelf Go.RowKit Go.Lib Go.Great
set_option maxRecDepth 100000
set_option maxHeartbeats 4000000
theorem wpList_appN {ops : Array Oper} {rest : List Oper} {o : Oper} {a : Act} {w : World} {Q : Exit → Act → World → Prop} (hgd : o.guard = none) (d : Nat) (hd : o.dst = some d) (s x : Operand)
    (ho : o.op = .call { callee := .builtin .append, args := #[s, x], argTypes := #[31, 31] })
    (base : Nat) (v : Value) (L : List UInt8) (hs : a.eval s = v) (hown : w.ownsRow base 5 1 v L.length (bcells L)) (y : Value) (M : List UInt8) (hx : a.eval x = y) (hr : Src Tryz.prog 1 31 y M.length (bcells M) w) (h63 : L.length + M.length ≤ 10000000) (hbase : base ≤ w.heap.size)
    (N : List UInt8) (m : Nat) (hN : L ++ M = N) (hm : N.length = m)
    (h : ∀ A' c' w', w'.ownsRow base 5 1 (.slice A' m c') N.length (bcells N) → w.grownBy w' v.ownBlock → wpList Tryz.prog ops Q rest (a.put (some d) (.slice A' m c')) w') :
    wpList Tryz.prog ops Q (o :: rest) a w := by
  subst hN hm
  exact wpList_appB hgd d hd s x ho base v L hs hown y M hx hr h63 hbase h
end Go.Proofs.YtehgpnnfjgmiiaaGreat
end
