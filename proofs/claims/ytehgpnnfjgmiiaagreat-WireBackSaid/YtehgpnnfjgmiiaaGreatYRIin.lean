/- Instances in raw cells, field by field; what is read, plain. No condition. Num and Text of a reader whose bytes lie below a bound. Conditions: at most 900,000 bytes. While an instance is read: the worlds; the copy of the publisher. Conditions: at most 900,000 bytes. -/
import Derived.Test.YtehgpnnfjgmiiaaGreatYOja
import Derived.Test.YtehgpnnfjgmiiaaGreatYOcb
import Derived.Test.YtehgpnnfjgmiiaaGreatYOga
import Derived.Test.YtehgpnnfjgmiiaaGreatProg
import Derived.RegionTactic
import Derived.RegionCalls
import Derived.WalkKit
import Derived.Deep.RegionHeld3
import Derived.Deep.QuietTactic
import Derived.BigQuiet
import Derived.LoopTactic
import Derived.Laws.BitsAllLaws
import Derived.Deep.MidRow
import Derived.Deep.DeepCutAuto
import Derived.Great.BuildSlice
import Derived.Lib.SlBytesConst
import Derived.Stop.BytesEq
import Derived.Shelf.Abstract
import Derived.Test.YtehgpnnfjgmiiaaGreatYRERefc
import Derived.Test.YtehgpnnfjgmiiaaGreatYREOcta
import Derived.Deep.AppendSrc
import Derived.Laws.BytesString
import Derived.Laws.CopyOwn
import Derived.Deep.AppendLies
import Derived.Deep.Draws
import Derived.WalkSpells
import Derived.Test.YtehgpnnfjgmiiaaGreatRows
import Derived.WalkLawsBesides
import Derived.Lib.Hide
import Derived.Outline
import Derived.Laws.BitsLemmas
import Derived.Laws.Bits64
import Derived.Sort.Grow
import Derived.Lib.ConvBytes
import Derived.StillTailTactics
import Derived.Lib.OwnBridge
import Derived.Lib.SliceRun
import Derived.Below
import Derived.ProofKit
import Derived.OpenShut
import Derived.ChangeOld
import Derived.Laws.Tables
import Derived.Deep.LoopGhost
import Derived.Shelf.LaysM
import Derived.RangeFuncFrom
import Derived.RangeFuncLeaves
import Derived.RangeFuncNested
import Derived.RangeFuncBound
import Derived.RangeFuncCalls
import Derived.OwnWalkIn
import Derived.TacticsInMore
import Derived.LoopNIn
import Derived.LoopIn
import Derived.Lib.Join
import Derived.Shelf.SlGeneric
import Derived.Shelf.Strings.Search1
import Derived.Shelf.Strings.Search2
import Derived.Ground.GgzProg
import Derived.Deep.Cut
import Derived.Maps.AppendAt
import Derived.RangeFuncBox
import Derived.Lib.AppendStr
import Derived.Laws.ResultCell
import Derived.Shelf.SlicesE.Clone
import Derived.Lib.Bytealg
import Derived.Test.YtehgpnnfjgmiiaaGreatYRERdrb
section
namespace Go.Proofs.YtehgpnnfjgmiiaaGreat
open Go.Shelf Go.RowKit Go.Lib Go.Great
set_option maxRecDepth 100000
set_option maxHeartbeats 1000000
/-- An instance's cells, of any parts. -/
def encR (p : List UInt8) (s b l : Nat) (k : Bool) (pr we po : Nat) (t : List UInt8) : List Value := bcells p ++ ([.int .u64 (s : Int), .int .u64 (b : Int), .int .u32 (l : Int), .bool k, .int .u16 (pr : Int), .int .u16 (we : Int), .int .u16 (po : Int), .string (bstr t)] : List Value)
theorem encR_enc (i : Ins) : encI i = encR i.pub i.seq i.born i.life i.gone i.pri i.wei i.port i.tgt := rfl
theorem set_tail {p : List UInt8} (hp : p.length = 20) (T : List Value) (k : Nat) (v : Value) : (bcells p ++ T).toArray.setIfInBounds (20 + k) v = (bcells p ++ T.set k v).toArray := by
  rw [List.setIfInBounds_toArray, List.set_append_right _ _ (by rw [bcells_length, hp]; omega), bcells_length, hp, Nat.add_sub_cancel_left]
section
variable {W : World} {q : Nat} {p : List UInt8} {s b l : Nat} {k : Bool} {pr we po : Nat} {t : List UInt8}
theorem putS (hp : p.length = 20) (h : W.heap[q]? = some (.cells (encR p s b l k pr we po t).toArray 79 (0, 0))) (s' : Nat) : (W.setCell ⟨q, 20, none⟩ (.int .u64 (s' : Int))).heap[q]? = some (.cells (encR p s' b l k pr we po t).toArray 79 (0, 0)) := by
  rw [heap_setCell_same W q 20 _ 79 _ h]
  exact congrArg (fun a => some (Obj.cells a 79 (0, 0))) (set_tail hp _ 0 _)
theorem putBo (hp : p.length = 20) (h : W.heap[q]? = some (.cells (encR p s b l k pr we po t).toArray 79 (0, 0))) (b' : Nat) : (W.setCell ⟨q, 21, none⟩ (.int .u64 (b' : Int))).heap[q]? = some (.cells (encR p s b' l k pr we po t).toArray 79 (0, 0)) := by
  rw [heap_setCell_same W q 21 _ 79 _ h]
  exact congrArg (fun a => some (Obj.cells a 79 (0, 0))) (set_tail hp _ 1 _)
theorem putLi (hp : p.length = 20) (h : W.heap[q]? = some (.cells (encR p s b l k pr we po t).toArray 79 (0, 0))) (l' : Nat) : (W.setCell ⟨q, 22, none⟩ (.int .u32 (l' : Int))).heap[q]? = some (.cells (encR p s b l' k pr we po t).toArray 79 (0, 0)) := by
  rw [heap_setCell_same W q 22 _ 79 _ h]
  exact congrArg (fun a => some (Obj.cells a 79 (0, 0))) (set_tail hp _ 2 _)
theorem putGo (hp : p.length = 20) (h : W.heap[q]? = some (.cells (encR p s b l k pr we po t).toArray 79 (0, 0))) (k' : Bool) : (W.setCell ⟨q, 23, none⟩ (.bool k')).heap[q]? = some (.cells (encR p s b l k' pr we po t).toArray 79 (0, 0)) := by
  rw [heap_setCell_same W q 23 _ 79 _ h]
  exact congrArg (fun a => some (Obj.cells a 79 (0, 0))) (set_tail hp _ 3 _)
theorem putPr (hp : p.length = 20) (h : W.heap[q]? = some (.cells (encR p s b l k pr we po t).toArray 79 (0, 0))) (x : Nat) : (W.setCell ⟨q, 24, none⟩ (.int .u16 (x : Int))).heap[q]? = some (.cells (encR p s b l k x we po t).toArray 79 (0, 0)) := by
  rw [heap_setCell_same W q 24 _ 79 _ h]
  exact congrArg (fun a => some (Obj.cells a 79 (0, 0))) (set_tail hp _ 4 _)
theorem putWe (hp : p.length = 20) (h : W.heap[q]? = some (.cells (encR p s b l k pr we po t).toArray 79 (0, 0))) (x : Nat) : (W.setCell ⟨q, 25, none⟩ (.int .u16 (x : Int))).heap[q]? = some (.cells (encR p s b l k pr x po t).toArray 79 (0, 0)) := by
  rw [heap_setCell_same W q 25 _ 79 _ h]
  exact congrArg (fun a => some (Obj.cells a 79 (0, 0))) (set_tail hp _ 5 _)
theorem putPo (hp : p.length = 20) (h : W.heap[q]? = some (.cells (encR p s b l k pr we po t).toArray 79 (0, 0))) (x : Nat) : (W.setCell ⟨q, 26, none⟩ (.int .u16 (x : Int))).heap[q]? = some (.cells (encR p s b l k pr we x t).toArray 79 (0, 0)) := by
  rw [heap_setCell_same W q 26 _ 79 _ h]
  exact congrArg (fun a => some (Obj.cells a 79 (0, 0))) (set_tail hp _ 6 _)
theorem putTg (hp : p.length = 20) (h : W.heap[q]? = some (.cells (encR p s b l k pr we po t).toArray 79 (0, 0))) (x : List UInt8) : (W.setCell ⟨q, 27, none⟩ (.string (bstr x))).heap[q]? = some (.cells (encR p s b l k pr we po x).toArray 79 (0, 0)) := by
  rw [heap_setCell_same W q 27 _ 79 _ h]
  exact congrArg (fun a => some (Obj.cells a 79 (0, 0))) (set_tail hp _ 7 _)
end
theorem getN_ltI (xs : List UInt8) (n : Nat) (h : xs.length ≤ n) : getN xs < 256 ^ n := Nat.lt_of_lt_of_le (getN_lt xs) (Nat.pow_le_pow_right (by omega) h)
theorem numV_lt (s : St) (n : Nat) : numV s n < 256 ^ n := by
  unfold numV
  split
  · exact getN_ltI _ _ (by rw [List.length_take]; simp; omega)
  · exact Nat.pow_pos (by omega)
/-- The publisher that is read, or zeros. -/
def pubV (s : St) : List UInt8 := if (takeV s 20).length = 20 then takeV s 20 else List.replicate 20 0
theorem pubV_length (s : St) : (pubV s).length = 20 := by
  unfold pubV
  split
  · assumption
  · simp
def s2 (s : St) : St := numS (s1 s) 8
def s3 (s : St) : St := numS (s2 s) 8
def s4 (s : St) : St := numS (s3 s) 4
def s5 (s : St) : St := numS (s4 s) 1
def s6 (s : St) : St := numS (s5 s) 2
def s7 (s : St) : St := numS (s6 s) 2
def s8 (s : St) : St := numS (s7 s) 2
def s9 (s : St) : St := txtS (s8 s) 1024
/-- The flag that is read. -/
def flagV (s : St) : Nat := numV (s4 s) 1
/-- What may be an instance. -/
def nextI (s : St) : Ins :=
  if flagV s = 0 then ⟨pubV s, numV (s1 s) 8, numV (s2 s) 8, numV (s3 s) 4, false, numV (s5 s) 2, numV (s6 s) 2, numV (s7 s) 2, txtV (s8 s) 1024, pubV_length s, numV_lt _ 8, numV_lt _ 8, numV_lt _ 4, numV_lt _ 2, numV_lt _ 2, numV_lt _ 2⟩
  else ⟨pubV s, numV (s1 s) 8, numV (s2 s) 8, numV (s3 s) 4, decide (flagV s = 1), 0, 0, 0, [], pubV_length s, numV_lt _ 8, numV_lt _ 8, numV_lt _ 4, by omega, by omega, by omega⟩
def nextS (s : St) : St := if flagV s = 0 then s9 s else s5 s
/-- What is read. -/
def readI (s : St) : Ins := if goodI (nextI s) = true then nextI s else zeroI
def readS (s : St) : St := if goodI (nextI s) = true then nextS s else ⟨[], true⟩
end Go.Proofs.YtehgpnnfjgmiiaaGreat
end
section
namespace Go.Proofs.YtehgpnnfjgmiiaaGreat
open Go.Shelf Go.RowKit Go.Lib Go.Great
set_option maxRecDepth 100000
set_option maxHeartbeats 1000000
section
variable {w w' : World} {g B : Nat} {s : St}
theorem RdrB.hB (h : RdrB w g s B) : B ≤ w.heap.size := by obtain ⟨_, _, _, _, _, _, _, hB⟩ := h; exact hB
theorem RdrB.fail (h : RdrB w g s B) (hr : RdrS w' g ⟨[], true⟩) (hg : w.heap.size ≤ w'.heap.size) : RdrB w' g ⟨[], true⟩ B := by
  obtain ⟨⟨A', c', hh', _, hc'⟩, _, _⟩ := hr
  exact ⟨A', c', hh', .inl rfl, hc', fun _ => rfl, by simp, Nat.le_trans h.hB hg⟩
theorem rdrB_cut {c k : Nat} {A : Option Addr} {ys : List UInt8} (hh : w.heap[g]? = some (.cells #[.slice A ys.length c, .bool true, .bool false] 100 (0, 0))) (hx : BAt w B A ys) (hc : ys.length ≤ c) (hk : k ≤ ys.length) (hl : ys.length ≤ 900000) (hB : B ≤ w.heap.size) :
    RdrB (w.setCell ⟨g, 0, none⟩ (.slice (cutA A c k) (ys.length - k) (c - k))) g ⟨ys.drop k, false⟩ B := by
  have e1 : (w.setCell ⟨g, 0, none⟩ (.slice (cutA A c k) (ys.length - k) (c - k))).heap.size = w.heap.size := by simp [World.setCell]
  refine ⟨cutA A c k, c - k, ?_, ?_, by simp only [List.length_drop]; omega, by simp, by simp only [List.length_drop]; omega, by rw [e1]; exact hB⟩
  · have s0 := heap_setCell_same w g 0 _ 100 (.slice (cutA A c k) (ys.length - k) (c - k)) hh
    simp only [List.length_drop]
    simpa using s0
  · have hx' : BAt w B (cutA A c k) (ys.drop k) := hx.cut (by omega) hc
    have := hx'.set (j := 0) (.slice (cutA A c k) (ys.length - k) (c - k)) (hx'.ne hh (by simp) (by simp) (by simp))
    simpa [World.setCell] using this
def NumPB (w : World) (g : Nat) (s : St) (wd : Int) (B : Nat) (e : Ending) (w' : World) : Prop := e = .returned (.int .u64 (numV s wd : Int)) ∧ RdrB w' g (numS s wd) B ∧ w.grownBy w' (some g)
theorem num_anyB (h : RdrB w g s B) (wd : Int) (hw : wd ≤ 9223372036854775807) : Calls Tryz.prog 40 #[.pointer (some ⟨g, 0, none⟩), .int .i64 wd] w (NumPB w g s wd B) := by
  by_cases hk : numOk s wd
  · have HB := Lib.hid (bad_any h.rs)
    obtain ⟨A, c, hh, hx, hc, hbd, hl, hB⟩ := id h
    obtain ⟨hb', hk1, hk2, hk3⟩ := id hk
    rw [hb'] at HB
    obtain ⟨k, rfl⟩ : ∃ k : Nat, wd = k := ⟨wd.toNat, by omega⟩
    have c0 : w.cell? ⟨g, 0, none⟩ = some (.slice A s.ys.length c) := by
      have := cell_of_row w g 0 _ 100 (0, 0) hh
      simpa using this
    have f0 := frozen_of_row w g 0 _ 100 hh
    have HN := Lib.hid (number_yes g c k A s.ys w c0 f0 (hx.more hB) hl (by omega) (by omega) (by omega))
    have R : NumPB w g s k B (.returned (.int .u64 (getN (s.ys.take k) : Int))) (w.setCell ⟨g, 0, none⟩ (.slice (cutA A c k) (s.ys.length - k) (c - k))) := by
      refine ⟨by simp [numV, hk], ?_, grownBy_setCell (World.grownBy.refl w _) _ _⟩
      simp only [numS, if_pos hk, Int.toNat_natCast]
      rw [hb'] at hh
      exact rdrB_cut hh hx hc (by omega) hl hB
    have HR := Lib.hid R
    clear hh hx h R hb' hk hk1 hk2 hk3 hbd c0 f0
    go_enter Tryz.func40, Tryz.ntmps40
    go_wp2_with (first
      | (go_at_call 64; (with_reducible refine (HB.out).mono ?_); rintro e w1 ⟨rfl, rfl⟩)
      | (go_at_call 65; (with_reducible refine (HN.out).mono ?_); rintro e w1 ⟨rfl, rfl⟩))
    go_ret
    exact HR.out
  · refine (num_any h.rs wd hw).mono ?_
    rintro e w' ⟨he, hr, hg⟩
    refine ⟨he, ?_, hg⟩
    have e2 : numS s wd = ⟨[], true⟩ := by unfold numS; rw [if_neg hk]
    rw [e2] at hr ⊢
    exact h.fail hr hg.size
def TxtPB (w : World) (g : Nat) (s : St) (most : Int) (B : Nat) (e : Ending) (w' : World) : Prop := e = .returned (.string (bstr (txtV s most))) ∧ RdrB w' g (txtS s most) B ∧ w.grownBy w' (some g)
theorem txt_anyB (h : RdrB w g s B) (most : Int) (hw : most ≤ 9223372036854775807) : Calls Tryz.prog 125 #[.pointer (some ⟨g, 0, none⟩), .int .i64 most] w (TxtPB w g s most B) := by
  by_cases hok : txtOk s most
  · have HB := Lib.hid (bad_any h.rs)
    obtain ⟨A, c, hh, hx, hc, hbd, hl, hB⟩ := id h
    obtain ⟨hb', hk⟩ := id hok
    rw [hb'] at HB
    have hT := rtxt_yes A c s.ys _ most hh (hx.more hB) hc hl (by simp) _ rfl hk.1 hk.2.1 hk.2.2.1 hk.2.2.2
    have e1 : txtV s most = (s.ys.drop 2).take (getN (s.ys.take 2)) := by simp only [txtV, if_pos hok]
    have R : ∀ w', (w.setCell ⟨g, 0, none⟩ (.slice (cutA A c 2) (s.ys.length - 2) (c - 2))).setCell ⟨g, 0, none⟩ (.slice (cutA (cutA A c 2) (c - 2) (getN (s.ys.take 2))) (s.ys.length - 2 - getN (s.ys.take 2)) (c - 2 - getN (s.ys.take 2))) = w' → RdrB w' g (txtS s most) B ∧ w.grownBy w' (some g) := by
      rintro w' rfl
      refine ⟨?_, grownBy_setCell (grownBy_setCell (World.grownBy.refl w _) _ _) _ _⟩
      simp only [txtS, if_pos hok]
      rw [hb'] at hh
      have e2 : (s.ys.drop 2).length = s.ys.length - 2 := by rw [List.length_drop]
      have e3 : (w.setCell ⟨g, 0, none⟩ (.slice (cutA A c 2) (s.ys.length - 2) (c - 2))).heap.size = w.heap.size := by simp [World.setCell]
      have q1 : (w.setCell ⟨g, 0, none⟩ (.slice (cutA A c 2) (s.ys.length - 2) (c - 2))).heap[g]? = some (.cells #[.slice (cutA A c 2) (s.ys.drop 2).length (c - 2), .bool true, .bool false] 100 (0, 0)) := by
        have s0 := heap_setCell_same w g 0 _ 100 (.slice (cutA A c 2) (s.ys.length - 2) (c - 2)) hh
        rw [e2]
        simpa using s0
      have q2 : BAt (w.setCell ⟨g, 0, none⟩ (.slice (cutA A c 2) (s.ys.length - 2) (c - 2))) B (cutA A c 2) (s.ys.drop 2) := by
        have hx' : BAt w B (cutA A c 2) (s.ys.drop 2) := hx.cut hk.1 hc
        have := hx'.set (j := 0) (.slice (cutA A c 2) (s.ys.length - 2) (c - 2)) (hx'.ne hh (by simp) (by simp) (by simp))
        simpa [World.setCell] using this
      have q4 := rdrB_cut (k := getN (s.ys.take 2)) q1 q2 (by rw [e2]; omega) (by rw [e2]; omega) (by rw [e2]; omega) (by rw [e3]; exact hB)
      rw [e2] at q4
      exact q4
    have HR := Lib.hid R
    rw [← e1] at hT
    have HT := Lib.hid hT
    unfold TxtPB
    generalize txtV s most = tv at HT ⊢
    generalize txtS s most = ts at HR ⊢
    clear hh hx h R hb' hok hT e1 hk hbd
    go_enter Tryz.func125, Tryz.ntmps125
    go_wp2_with (first
      | (go_at_call 64; (with_reducible refine (HB.out).mono ?_); rintro e w1 ⟨rfl, rfl⟩)
      | (go_at_call 133; (with_reducible refine (HT.out).mono ?_); rintro e w1 ⟨rfl, hw1⟩; have Hw1 := Lib.hid hw1; clear hw1))
    go_ret
    exact ⟨rfl, HR.out _ Hw1.out⟩
  · refine (rdText_any h.rs most hw).mono ?_
    rintro e w' ⟨he, hr, hg⟩
    refine ⟨he, ?_, hg⟩
    have e2 : txtS s most = ⟨[], true⟩ := by unfold txtS; rw [if_neg hok]
    rw [e2] at hr ⊢
    exact h.fail hr hg.size
end
end Go.Proofs.YtehgpnnfjgmiiaaGreat
end
section
namespace Go.Proofs.YtehgpnnfjgmiiaaGreat
set_option maxRecDepth 100000
open Go.Shelf Go.RowKit Go.Lib Go.Great
set_option maxRecDepth 1000000
set_option maxHeartbeats 2000000
theorem row_there {w : World} {g : Nat} {cs : List Value} {ty : TypeId} (h : w.heap[g]? = some (.cells cs.toArray ty (0, 0))) : w.there g 0 cs.length := fun i hi => by
  rw [Nat.zero_add, cell_of_row w _ i _ ty (0, 0) h, frozen_of_row w _ i _ ty h]
  exact ⟨by simp; omega, rfl⟩
theorem size5c : (Tryz.prog.info? 5).map (·.size) = some 1 := by kernel_rfl
/-- While next runs: r is the block of what is told, q that of the instance. -/
structure NXI (w : World) (g B r q : Nat) (s : St) (cq : List Value) (W : World) : Prop where
  rd : RdrB W g s B
  hr : W.heap[r]? = some (.cells (encI zeroI).toArray 79 (0, 0))
  hq : W.heap[q]? = some (.cells cq.toArray 79 (0, 0))
  gr : w.grownBy W (some g)
  hg : g < w.heap.size
  hB : B ≤ w.heap.size
  rw : w.heap.size ≤ r
  qw : w.heap.size ≤ q
  rq : r ≠ q
section
variable {w W W' : World} {g B r q : Nat} {s s' : St} {cq cq' : List Value}
theorem NXI.lt (n : NXI w g B r q s cq W) : r < W.heap.size ∧ q < W.heap.size := ⟨(Array.getElem?_eq_some_iff.1 n.hr).1, (Array.getElem?_eq_some_iff.1 n.hq).1⟩
theorem NXI.bel (n : NXI w g B r q s cq W) (hb : Below W.heap.size W W') : NXI w g B r q s cq W' :=
  ⟨n.rd.below hb, (hb.block r n.lt.1).trans n.hr, (hb.block q n.lt.2).trans n.hq, grownBy_trans n.gr (grown_of_bel hb _), n.hg, n.hB, n.rw, n.qw, n.rq⟩
theorem NXI.read (n : NXI w g B r q s cq W) (h : RdrB W' g s' B) (hg : W.grownBy W' (some g)) : NXI w g B r q s' cq W' :=
  ⟨h, (hg.block r n.lt.1 (by intro e; injection e with e; have := n.hg; have := n.rw; omega)).trans n.hr, (hg.block q n.lt.2 (by intro e; injection e with e; have := n.hg; have := n.qw; omega)).trans n.hq, grownBy_trans n.gr hg, n.hg, n.hB, n.rw, n.qw, n.rq⟩
/-- The instance's block changes. -/
theorem NXI.put (n : NXI w g B r q s cq W) (hq : W'.heap[q]? = some (.cells cq'.toArray 79 (0, 0))) (hg : W.grownBy W' (some q)) : NXI w g B r q s cq' W' where
  rd := n.rd.keep (hg.block g n.rd.lt (by intro e; injection e with e; have := n.hg; have := n.qw; omega)) hg.size (fun i hi _ => hg.block i (by have := n.rd.lt; have := n.gr.size; have := n.hB; omega) (by intro e; injection e with e; have := n.hB; have := n.qw; omega))
  hr := (hg.block r n.lt.1 (by intro e; injection e with e; have := n.rq; omega)).trans n.hr
  hq := hq
  gr := ⟨hg.os.trans n.gr.os, hg.tape.trans n.gr.tape, hg.output.trans n.gr.output, Nat.le_trans n.gr.size hg.size, fun i hi hne => (hg.block i (Nat.lt_of_lt_of_le hi n.gr.size) (by intro e; injection e with e; have := n.qw; omega)).trans (n.gr.block i hi hne)⟩
  hg := n.hg
  hB := n.hB
  rw := n.rw
  qw := n.qw
  rq := n.rq
/-- One cell of it. -/
theorem NXI.set (n : NXI w g B r q s cq W) {j : Nat} {v : Value} (hq : (W.setCell ⟨q, j, none⟩ v).heap[q]? = some (.cells cq'.toArray 79 (0, 0))) : NXI w g B r q s cq' (W.setCell ⟨q, j, none⟩ v) :=
  n.put hq (grownBy_setCell (World.grownBy.refl W _) _ _)
theorem NXI.cell (n : NXI w g B r q s cq W) {j : Nat} {v : Value} (hv : cq[j]? = some v) : W.cell? ⟨q, j, none⟩ = some v ∧ W.frozen? ⟨q, j, none⟩ = false := by
  refine ⟨?_, frozen_of_row _ _ _ _ _ n.hq⟩
  rw [cell_of_row _ _ j _ 79 (0, 0) n.hq, List.getElem?_toArray]
  exact hv
theorem NXI.take (n : NXI w g B r q s cq W) (k : Int) (hk : k ≤ 9223372036854775807) : Calls Tryz.prog 67 #[.pointer (some ⟨g, 0, none⟩), .int .i64 k] W fun e W' => ∃ A c, e = .returned (.slice A (takeV s k).length c) ∧ NXI w g B r q (takeS s k) cq W' ∧ BAt W' W'.heap.size A (takeV s k) := by
  refine (take_anyB n.rd k hk).mono ?_
  rintro e W' ⟨v, rfl, ho, hr, hg⟩
  obtain ⟨A, c, rfl, hA, _⟩ := own_bat ho
  exact ⟨A, c, rfl, n.read hr hg, hA⟩
theorem NXI.num (n : NXI w g B r q s cq W) (k : Int) (hk : k ≤ 9223372036854775807) {j : Nat} {v : Value} (hv : cq[j]? = some v) : Calls Tryz.prog 40 #[.pointer (some ⟨g, 0, none⟩), .int .i64 k] W fun e W' => e = .returned (.int .u64 (numV s k : Int)) ∧ NXI w g B r q (numS s k) cq W' ∧ W'.cell? ⟨q, j, none⟩ = some v ∧ W'.frozen? ⟨q, j, none⟩ = false := by
  refine (num_anyB n.rd k hk).mono ?_
  rintro e W' ⟨rfl, hr, hg⟩
  have n2 := n.read hr hg
  exact ⟨rfl, n2, n2.cell hv⟩
theorem NXI.txt (n : NXI w g B r q s cq W) (k : Int) (hk : k ≤ 9223372036854775807) {j : Nat} {v : Value} (hv : cq[j]? = some v) : Calls Tryz.prog 125 #[.pointer (some ⟨g, 0, none⟩), .int .i64 k] W fun e W' => e = .returned (.string (bstr (txtV s k))) ∧ NXI w g B r q (txtS s k) cq W' ∧ W'.cell? ⟨q, j, none⟩ = some v ∧ W'.frozen? ⟨q, j, none⟩ = false := by
  refine (txt_anyB n.rd k hk).mono ?_
  rintro e W' ⟨rfl, hr, hg⟩
  have n2 := n.read hr hg
  exact ⟨rfl, n2, n2.cell hv⟩
/-- The told block takes the instance. -/
theorem NXI.fin (n : NXI w g B r q s cq W) (c : Ins) : W.there r 0 28 ∧ (W.setCells r 0 (encI c)).rangeAt r 0 (encI c) ∧ RdrB (W.setCells r 0 (encI c)) g s B ∧ w.grownBy (W.setCells r 0 (encI c)) (some g) := by
  have ht : W.there r 0 28 := by
    have := row_there n.hr
    rw [encI_length] at this
    exact this
  have hgc : W.grownBy (W.setCells r 0 (encI c)) (some r) := grown_cells (encI c) 0 W (World.grownBy.refl W _)
  refine ⟨ht, World.rangeAt_setCells_same W r 0 (encI c) (by rw [encI_length]; exact ht), ?_, ?_⟩
  · exact n.rd.keep (hgc.block g n.rd.lt (by intro e; injection e with e; have := n.hg; have := n.rw; omega)) hgc.size (fun i hi _ => hgc.block i (by have := n.gr.size; have := n.hB; omega) (by intro e; injection e with e; have := n.hB; have := n.rw; omega))
  · exact ⟨hgc.os.trans n.gr.os, hgc.tape.trans n.gr.tape, hgc.output.trans n.gr.output, Nat.le_trans n.gr.size hgc.size, fun i hi hne => (hgc.block i (Nat.lt_of_lt_of_le hi n.gr.size) (by intro e; injection e with e; have := n.rw; omega)).trans (n.gr.block i hi hne)⟩
end
theorem takeV_20 (s : St) : (takeV s 20).length = 20 ∨ takeV s 20 = [] := by
  unfold takeV
  split
  · rename_i h
    left
    have := h.2.2
    rw [List.length_take]
    have e : (20 : Int).toNat = 20 := rfl
    omega
  · exact .inr rfl
/-- The zeros take what is read of the publisher. -/
theorem copy_pub (s : St) : splice (encI zeroI) 0 (bcells (takeV s 20)) = encR (pubV s) 0 0 0 false 0 0 0 [] := by
  unfold splice pubV
  rcases takeV_20 s with h | h
  · rw [if_pos h, List.take_zero, List.nil_append, bcells_length, h]
    rfl
  · rw [h]
    rfl
end Go.Proofs.YtehgpnnfjgmiiaaGreat
end
