/- A reader whose bytes lie below a bound; Take of it. Conditions: at most 900,000 bytes. Contract of next of package contact. Conditions: at most 900,000 bytes. Contract of next of package contact. Conditions: at most 900,000 bytes. Instances in raw cells, field by field; what is read, plain. No condition. Num and Text of a reader whose bytes lie below a bound. Conditions: at most 900,000 bytes. -/
import Derived.Test.YtehgpnnfjgmiiaaGreatVOja
import Derived.Test.YtehgpnnfjgmiiaaGreatVObd
import Derived.Test.YtehgpnnfjgmiiaaGreatVIiv
import Derived.Test.YtehgpnnfjgmiiaaGreatVObc
import Derived.Test.YtehgpnnfjgmiiaaGreatVRERefb
import Derived.Test.YtehgpnnfjgmiiaaGreatProg
import Derived.RegionTactic
import Derived.RegionCalls
import Derived.WalkKit
import Derived.Deep.RegionHeld3
import Derived.Deep.QuietTactic
import Derived.BigQuiet
import Derived.LoopTactic
import Derived.Laws.BitsAllLaws
import Derived.Deep.MidRow
import Derived.Deep.DeepCutAuto
import Derived.Great.BuildSlice
import Derived.Lib.SlBytesConst
import Derived.Stop.BytesEq
import Derived.Test.YtehgpnnfjgmiiaaGreatVREOctc
import Derived.Deep.AppendSrc
import Derived.Laws.BytesString
import Derived.Laws.CopyOwn
import Derived.Deep.AppendLies
import Derived.Deep.Draws
import Derived.WalkSpells
import Derived.Test.YtehgpnnfjgmiiaaGreatRows
import Derived.WalkLawsBesides
import Derived.Lib.Hide
import Derived.Outline
import Derived.Laws.BitsLemmas
import Derived.Laws.Bits64
import Derived.Sort.Grow
import Derived.Lib.ConvBytes
import Derived.StillTailTactics
import Derived.Lib.OwnBridge
import Derived.Lib.SliceRun
import Derived.Below
import Derived.ProofKit
import Derived.OpenShut
import Derived.ChangeOld
import Derived.Laws.Tables
import Derived.Deep.LoopGhost
import Derived.Shelf.LaysM
import Derived.Shelf.Abstract
import Derived.RangeFuncFrom
import Derived.RangeFuncLeaves
import Derived.RangeFuncNested
import Derived.RangeFuncBound
import Derived.RangeFuncCalls
import Derived.OwnWalkIn
import Derived.TacticsInMore
import Derived.LoopNIn
import Derived.LoopIn
import Derived.Lib.Join
import Derived.Shelf.SlGeneric
import Derived.Shelf.Strings.Search1
import Derived.Shelf.Strings.Search2
import Derived.Ground.GgzProg
import Derived.Deep.Cut
import Derived.Maps.AppendAt
import Derived.RangeFuncBox
import Derived.Lib.AppendStr
import Derived.Laws.ResultCell
import Derived.Shelf.SlicesE.Clone
import Derived.Lib.Bytealg
import Derived.Test.YtehgpnnfjgmiiaaGreatVRERdrd
section
namespace Go.Proofs.YtehgpnnfjgmiiaaGreat
open Go.Shelf Go.RowKit Go.Lib Go.Sort Go.Great
set_option maxRecDepth 100000
set_option maxHeartbeats 1000000
/-- A reader whose bytes lie in a block below B. -/
def RdrB (w : World) (g : Nat) (s : St) (B : Nat) : Prop :=
  ∃ A c, w.heap[g]? = some (.cells #[.slice A s.ys.length c, .bool true, .bool s.bad] 100 (0, 0)) ∧ BAt w B A s.ys ∧ s.ys.length ≤ c ∧ (s.bad = true → s.ys = []) ∧ s.ys.length ≤ 900000 ∧ B ≤ w.heap.size
section
variable {w w' : World} {g B : Nat} {s : St}
theorem RdrB.rs (h : RdrB w g s B) : RdrS w g s := by
  obtain ⟨A, c, hh, hx, hc, hb, hl, hB⟩ := h
  exact ⟨⟨A, c, hh, hx.more hB, hc⟩, hb, hl⟩
theorem RdrS.rb (h : RdrS w g s) : RdrB w g s w.heap.size := by
  obtain ⟨⟨A, c, hh, hx, hc⟩, hb, hl⟩ := h
  exact ⟨A, c, hh, hx, hc, hb, hl, Nat.le_refl _⟩
/-- The reader's block and all below B stay. -/
theorem RdrB.keep (h : RdrB w g s B) (hg : w'.heap[g]? = w.heap[g]?) (hs : w.heap.size ≤ w'.heap.size) (hk : ∀ i, i < B → i ≠ g → w'.heap[i]? = w.heap[i]?) : RdrB w' g s B := by
  obtain ⟨A, c, hh, hx, hc, hb, hl, hB⟩ := h
  refine ⟨A, c, hg.trans hh, ?_, hc, hb, hl, by omega⟩
  rcases hx with hx | ⟨g', off, rfl, hlt, hcell⟩
  · exact .inl hx
  · refine .inr ⟨g', off, rfl, hlt, fun j hj => ?_⟩
    rw [← hcell j hj]
    have : w'.heap[g']? = w.heap[g']? := by
      by_cases e : g' = g
      · rw [e]; exact hg
      · exact hk g' hlt e
    simp only [World.cell?, this]
theorem RdrB.lt (h : RdrB w g s B) : g < w.heap.size := h.rs.lt
theorem RdrB.below (h : RdrB w g s B) (hb : Below w.heap.size w w') : RdrB w' g s B := by
  obtain ⟨A, c, _, _, _, _, _, hB⟩ := id h
  exact h.keep (hb.block g h.lt) hb.size (fun i hi _ => hb.block i (by omega))
def TakePB (w : World) (g : Nat) (s : St) (n : Int) (B : Nat) (e : Ending) (w' : World) : Prop :=
  ∃ v, e = .returned v ∧ w'.ownsRow w.heap.size 5 1 v (takeV s n).length (bcells (takeV s n)) ∧ RdrB w' g (takeS s n) B ∧ w.grownBy w' (some g)
theorem take_anyB (h : RdrB w g s B) (n : Int) (hw : n ≤ 9223372036854775807) : Calls Tryz.prog 67 #[.pointer (some ⟨g, 0, none⟩), .int .i64 n] w (TakePB w g s n B) := by
  have hS := h.rs
  have HB := Lib.hid (bad_any hS)
  obtain ⟨A, c, hh, hxB, hc, hbd, hlen, hBw⟩ := id h
  have hx := hxB.more hBw
  have c0 := cell_of_row w g 0 _ 100 (0, 0) hh
  simp at c0
  have hf := fun i => frozen_of_row w g i _ 100 hh
  by_cases hb : s.bad = true
  · have hno : ¬ takeOk s n := fun hk => hb.symm.trans hk.1 |> fun h => by cases h
    have R : TakePB w g s n B (.returned (.slice none 0 0)) w := by
      refine ⟨_, rfl, by simp only [takeV, if_neg hno]; exact World.ownsRow_nil _ _ _ _, ?_, World.grownBy.refl w _⟩
      simp only [takeS, if_neg hno]
      have e : s = ⟨[], true⟩ := by cases s; simp only [St.mk.injEq] at *; exact ⟨hbd hb, hb⟩
      rw [← e]
      exact h
    have HR := Lib.hid R
    rw [hb] at HB
    clear hh hx h R hb hno hxB hS hbd
    go_enter Tryz.func67, Tryz.ntmps67
    go_wp2_with (go_at_call 64; (with_reducible refine (HB.out).mono ?_); rintro e w1 ⟨rfl, rfl⟩)
    go_ret
    exact HR.out
  · have hb' : s.bad = false := by simpa using hb
    rw [hb'] at HB
    by_cases hk : 0 ≤ n ∧ n ≤ s.ys.length
    · obtain ⟨k, rfl⟩ : ∃ k : Nat, n = k := ⟨n.toNat, by omega⟩
      have hok : takeOk s (k : Int) := ⟨hb', hk⟩
      have HN := Lib.hid (cut_yes g c s.ys.length k A w c0 (hf 0) hlen hc (by omega))
      have hhd : BAt w w.heap.size (headA A c) (s.ys.take k) := hx.head hc
      have hx1 : BAt (w.setCell ⟨g, 0, none⟩ (.slice (cutA A c k) (s.ys.length - k) (c - k))) (w.setCell ⟨g, 0, none⟩ (.slice (cutA A c k) (s.ys.length - k) (c - k))).heap.size (headA A c) (s.ys.take k) := by
        have := hhd.set (j := 0) (.slice (cutA A c k) (s.ys.length - k) (c - k)) (hhd.ne hh (by simp) (by simp) (by simp))
        simpa [World.setCell] using this
      have HC := Lib.hid (clone_len (headA A c) k c (s.ys.take k) _ hx1 (by rw [List.length_take]; omega) (by rw [List.length_take]; omega))
      have R : ∀ e w', OwnB (w.setCell ⟨g, 0, none⟩ (.slice (cutA A c k) (s.ys.length - k) (c - k))) (s.ys.take k) e w' → TakePB w g s k B e w' := by
        rintro e w' ⟨v, he, ho, hbl⟩
        have e1 : (w.setCell ⟨g, 0, none⟩ (.slice (cutA A c k) (s.ys.length - k) (c - k))).heap.size = w.heap.size := by simp [World.setCell]
        refine ⟨v, he, ?_, ?_, grownBy_trans (grownBy_setCell (World.grownBy.refl w _) 0 _) (grownBy_of_below hbl (Nat.le_refl _) _)⟩
        · simp only [takeV, if_pos hok, Int.toNat_natCast]
          rw [e1] at ho
          exact ho
        · simp only [takeS, if_pos hok, Int.toNat_natCast]
          rw [hb'] at hh
          have h1 : RdrB (w.setCell ⟨g, 0, none⟩ (.slice (cutA A c k) (s.ys.length - k) (c - k))) g ⟨s.ys.drop k, false⟩ B := by
            refine ⟨cutA A c k, c - k, ?_, ?_, by simp only [List.length_drop]; omega, by simp, by simp only [List.length_drop]; omega, by rw [e1]; exact hBw⟩
            · have s0 := heap_setCell_same w g 0 _ 100 (.slice (cutA A c k) (s.ys.length - k) (c - k)) hh
              simp only [List.length_drop]
              simpa using s0
            · have hx' : BAt w B (cutA A c k) (s.ys.drop k) := hxB.cut (by omega) hc
              have := hx'.set (j := 0) (.slice (cutA A c k) (s.ys.length - k) (c - k)) (hx'.ne hh (by simp) (by simp) (by simp))
              simpa [World.setCell] using this
          exact h1.below hbl
      have HR := Lib.hid R
      clear hh hx h R hb hb' hok hhd hx1 hxB hS hbd
      go_enter Tryz.func67, Tryz.ntmps67
      go_wp2_with (first
        | (go_at_call 64; (with_reducible refine (HB.out).mono ?_); rintro e w1 ⟨rfl, rfl⟩)
        | (go_at_call 90; (with_reducible refine (HN.out).mono ?_); rintro e w1 ⟨rfl, rfl⟩)
        | (go_at_call 50; (with_reducible refine (HC.out).mono ?_); rintro e w1 ⟨v1, rfl, ho1, hb1⟩))
      go_ret
      exact HR.out _ _ ⟨v1, rfl, ho1, hb1⟩
    · have hno : ¬ takeOk s n := fun h' => hk h'.2
      refine (take_any hS n hw).mono ?_
      rintro e w' ⟨v, rfl, ho, hr, hg⟩
      refine ⟨v, rfl, ho, ?_, hg⟩
      have hB2 : B ≤ w'.heap.size := Nat.le_trans hBw hg.size
      simp only [takeS, if_neg hno] at hr ⊢
      obtain ⟨⟨A', c', hh', _, hc'⟩, _, _⟩ := hr
      exact ⟨A', c', hh', .inl rfl, hc', fun _ => rfl, by simp, hB2⟩
end
end Go.Proofs.YtehgpnnfjgmiiaaGreat
end
section
namespace Go.Proofs.YtehgpnnfjgmiiaaGreat
open Go.Shelf Go.RowKit Go.Lib Go.Sort Go.Great
set_option maxRecDepth 100000
set_option maxHeartbeats 1000000
theorem getN_lt' (xs : List UInt8) (n : Nat) (h : xs.length ≤ n) : getN xs < 256 ^ n := by
  have h1 : getN xs < 256 ^ xs.length := getN_lt xs
  exact Nat.lt_of_lt_of_le h1 (Nat.pow_le_pow_right (by omega) h)
end Go.Proofs.YtehgpnnfjgmiiaaGreat
end
section
namespace Go.Proofs.YtehgpnnfjgmiiaaGreat
set_option maxRecDepth 100000
open Go.Shelf Go.RowKit Go.Lib Go.Sort Go.Great
set_option maxRecDepth 1000000
set_option maxHeartbeats 2000000
theorem grown_cells {g : Nat} {W : World} : ∀ (vs : List Value) (o : Nat) (W1 : World), W.grownBy W1 (some g) → W.grownBy (W1.setCells g o vs) (some g)
  | [], _, _, h => h
  | _ :: vs, o, W1, h => grown_cells vs (o + 1) _ (grownBy_setCell h o _)
theorem step_copy_row {P : Program} {ops : Array Oper} {o : Oper} {a : Act} {w : World} {K : Act → World → Prop} {Q : Exit → Act → World → Prop} {E : Prop} (hgd : o.guard = none) (dd : Nat) (hdd : o.dst = some dd) (d s : Operand) (dT sT : TypeId)
    (ho : o.op = .call { callee := .builtin .copy, args := #[d, s], argTypes := #[dT, sT] }) (elem : TypeId) (hu : P.underlying dT = some (.slice elem)) (hsz : (P.info? elem).map (·.size) = some 1)
    (dp sp : Option Addr) (dLen dCap sLen sCap : Nat) (hd : a.eval d = .slice dp dLen dCap) (hs : a.eval s = .slice sp sLen sCap)
    (g off : Nat) (cur : List Value) (t : TypeId) (hg : w.heap[g]? = some (.cells cur.toArray t (0, 0))) (cs : List Value) (hn : cs.length = Nat.min sLen dLen)
    (hpos : 0 < cs.length → dp = some ⟨g, off, none⟩ ∧ ∃ ad, sp = some ad ∧ ∀ j v, cs[j]? = some v → w.cell? (ad.add j) = some v)
    (hfit : off + cs.length ≤ cur.length) (h1 : ∀ v ∈ cs, v.oneCell' = true)
    (h : ∀ w', w'.heap[g]? = some (.cells (splice cur off cs).toArray t (0, 0)) → w.grownBy w' (some g) → K (a.put (some dd) (goInt cs.length)) w') :
    if Region.wanted o (yielded ops a.tmps) = true then Oper.wp P o a w K Q else E := by
  have hw : Region.wanted o (yielded ops a.tmps) = true := by simp [Region.wanted, hgd]
  rw [if_pos hw]
  rw [← hdd] at h
  by_cases h0 : cs.length = 0
  · obtain rfl : cs = [] := List.eq_nil_of_length_eq_zero h0
    have hrun := run_copy_none (P := P) w dT sT o.type elem dp sp dLen dCap sLen sCap hu hsz (by simpa using hn.symm)
    unfold Oper.wp
    simp [execOp, ho, resolve, invoke, builtin, hd, hs, hrun, Result.andThen]
    exact h w (by simpa [splice] using hg) (World.grownBy.refl w _)
  · obtain ⟨rfl, ad, rfl, hsrc⟩ := hpos (by omega)
    have hrun := run_copy_row (P := P) w dT sT o.type elem g off dLen dCap ad sLen sCap cur.toArray t cs hu hsz hg hn hsrc (by simpa using hfit) h1
    unfold Oper.wp
    simp [execOp, ho, resolve, invoke, builtin, hd, hs, hrun, Result.andThen]
    exact h _ (by simpa [splice] using setRow_heap w g _ _ t _ hg) ⟨rfl, rfl, rfl, by simp, fun k _ hk => setRow_other w g k _ (fun e => hk (by simp [e]))⟩
section
variable {w W W' : World} {g B r q : Nat} {s s' : St} {cq cq' : List Value}
end
end Go.Proofs.YtehgpnnfjgmiiaaGreat
end
section
namespace Go.Proofs.YtehgpnnfjgmiiaaGreat
open Go.Shelf Go.RowKit Go.Lib Go.Great
set_option maxRecDepth 100000
set_option maxHeartbeats 1000000
/-- An instance's cells, of any parts. -/
def encR (p : List UInt8) (s b l : Nat) (k : Bool) (pr we po : Nat) (t : List UInt8) : List Value := bcells p ++ ([.int .u64 (s : Int), .int .u64 (b : Int), .int .u32 (l : Int), .bool k, .int .u16 (pr : Int), .int .u16 (we : Int), .int .u16 (po : Int), .string (bstr t)] : List Value)
theorem encR_enc (i : Ins) : encI i = encR i.pub i.seq i.born i.life i.gone i.pri i.wei i.port i.tgt := rfl
theorem set_tail {p : List UInt8} (hp : p.length = 20) (T : List Value) (k : Nat) (v : Value) : (bcells p ++ T).toArray.setIfInBounds (20 + k) v = (bcells p ++ T.set k v).toArray := by
  rw [List.setIfInBounds_toArray, List.set_append_right _ _ (by rw [bcells_length, hp]; omega), bcells_length, hp, Nat.add_sub_cancel_left]
section
variable {W : World} {q : Nat} {p : List UInt8} {s b l : Nat} {k : Bool} {pr we po : Nat} {t : List UInt8}
theorem putS (hp : p.length = 20) (h : W.heap[q]? = some (.cells (encR p s b l k pr we po t).toArray 79 (0, 0))) (s' : Nat) : (W.setCell ⟨q, 20, none⟩ (.int .u64 (s' : Int))).heap[q]? = some (.cells (encR p s' b l k pr we po t).toArray 79 (0, 0)) := by
  rw [heap_setCell_same W q 20 _ 79 _ h]
  exact congrArg (fun a => some (Obj.cells a 79 (0, 0))) (set_tail hp _ 0 _)
theorem putBo (hp : p.length = 20) (h : W.heap[q]? = some (.cells (encR p s b l k pr we po t).toArray 79 (0, 0))) (b' : Nat) : (W.setCell ⟨q, 21, none⟩ (.int .u64 (b' : Int))).heap[q]? = some (.cells (encR p s b' l k pr we po t).toArray 79 (0, 0)) := by
  rw [heap_setCell_same W q 21 _ 79 _ h]
  exact congrArg (fun a => some (Obj.cells a 79 (0, 0))) (set_tail hp _ 1 _)
theorem putLi (hp : p.length = 20) (h : W.heap[q]? = some (.cells (encR p s b l k pr we po t).toArray 79 (0, 0))) (l' : Nat) : (W.setCell ⟨q, 22, none⟩ (.int .u32 (l' : Int))).heap[q]? = some (.cells (encR p s b l' k pr we po t).toArray 79 (0, 0)) := by
  rw [heap_setCell_same W q 22 _ 79 _ h]
  exact congrArg (fun a => some (Obj.cells a 79 (0, 0))) (set_tail hp _ 2 _)
theorem putGo (hp : p.length = 20) (h : W.heap[q]? = some (.cells (encR p s b l k pr we po t).toArray 79 (0, 0))) (k' : Bool) : (W.setCell ⟨q, 23, none⟩ (.bool k')).heap[q]? = some (.cells (encR p s b l k' pr we po t).toArray 79 (0, 0)) := by
  rw [heap_setCell_same W q 23 _ 79 _ h]
  exact congrArg (fun a => some (Obj.cells a 79 (0, 0))) (set_tail hp _ 3 _)
theorem putPr (hp : p.length = 20) (h : W.heap[q]? = some (.cells (encR p s b l k pr we po t).toArray 79 (0, 0))) (x : Nat) : (W.setCell ⟨q, 24, none⟩ (.int .u16 (x : Int))).heap[q]? = some (.cells (encR p s b l k x we po t).toArray 79 (0, 0)) := by
  rw [heap_setCell_same W q 24 _ 79 _ h]
  exact congrArg (fun a => some (Obj.cells a 79 (0, 0))) (set_tail hp _ 4 _)
theorem putWe (hp : p.length = 20) (h : W.heap[q]? = some (.cells (encR p s b l k pr we po t).toArray 79 (0, 0))) (x : Nat) : (W.setCell ⟨q, 25, none⟩ (.int .u16 (x : Int))).heap[q]? = some (.cells (encR p s b l k pr x po t).toArray 79 (0, 0)) := by
  rw [heap_setCell_same W q 25 _ 79 _ h]
  exact congrArg (fun a => some (Obj.cells a 79 (0, 0))) (set_tail hp _ 5 _)
theorem putPo (hp : p.length = 20) (h : W.heap[q]? = some (.cells (encR p s b l k pr we po t).toArray 79 (0, 0))) (x : Nat) : (W.setCell ⟨q, 26, none⟩ (.int .u16 (x : Int))).heap[q]? = some (.cells (encR p s b l k pr we x t).toArray 79 (0, 0)) := by
  rw [heap_setCell_same W q 26 _ 79 _ h]
  exact congrArg (fun a => some (Obj.cells a 79 (0, 0))) (set_tail hp _ 6 _)
theorem putTg (hp : p.length = 20) (h : W.heap[q]? = some (.cells (encR p s b l k pr we po t).toArray 79 (0, 0))) (x : List UInt8) : (W.setCell ⟨q, 27, none⟩ (.string (bstr x))).heap[q]? = some (.cells (encR p s b l k pr we po x).toArray 79 (0, 0)) := by
  rw [heap_setCell_same W q 27 _ 79 _ h]
  exact congrArg (fun a => some (Obj.cells a 79 (0, 0))) (set_tail hp _ 7 _)
end
theorem getN_ltI (xs : List UInt8) (n : Nat) (h : xs.length ≤ n) : getN xs < 256 ^ n := Nat.lt_of_lt_of_le (getN_lt xs) (Nat.pow_le_pow_right (by omega) h)
theorem numV_lt (s : St) (n : Nat) : numV s n < 256 ^ n := by
  unfold numV
  split
  · exact getN_ltI _ _ (by rw [List.length_take]; simp; omega)
  · exact Nat.pow_pos (by omega)
/-- The publisher that is read, or zeros. -/
def pubV (s : St) : List UInt8 := if (takeV s 20).length = 20 then takeV s 20 else List.replicate 20 0
theorem pubV_length (s : St) : (pubV s).length = 20 := by
  unfold pubV
  split
  · assumption
  · simp
def s2 (s : St) : St := numS (s1 s) 8
def s3 (s : St) : St := numS (s2 s) 8
def s4 (s : St) : St := numS (s3 s) 4
def s5 (s : St) : St := numS (s4 s) 1
def s6 (s : St) : St := numS (s5 s) 2
def s7 (s : St) : St := numS (s6 s) 2
def s8 (s : St) : St := numS (s7 s) 2
def s9 (s : St) : St := txtS (s8 s) 1024
/-- The flag that is read. -/
def flagV (s : St) : Nat := numV (s4 s) 1
/-- What may be an instance. -/
def nextI (s : St) : Ins :=
  if flagV s = 0 then ⟨pubV s, numV (s1 s) 8, numV (s2 s) 8, numV (s3 s) 4, false, numV (s5 s) 2, numV (s6 s) 2, numV (s7 s) 2, txtV (s8 s) 1024, pubV_length s, numV_lt _ 8, numV_lt _ 8, numV_lt _ 4, numV_lt _ 2, numV_lt _ 2, numV_lt _ 2⟩
  else ⟨pubV s, numV (s1 s) 8, numV (s2 s) 8, numV (s3 s) 4, decide (flagV s = 1), 0, 0, 0, [], pubV_length s, numV_lt _ 8, numV_lt _ 8, numV_lt _ 4, by omega, by omega, by omega⟩
def nextS (s : St) : St := if flagV s = 0 then s9 s else s5 s
/-- What is read. -/
def readI (s : St) : Ins := if goodI (nextI s) = true then nextI s else zeroI
def readS (s : St) : St := if goodI (nextI s) = true then nextS s else ⟨[], true⟩
end Go.Proofs.YtehgpnnfjgmiiaaGreat
end
section
namespace Go.Proofs.YtehgpnnfjgmiiaaGreat
open Go.Shelf Go.RowKit Go.Lib Go.Great
set_option maxRecDepth 100000
set_option maxHeartbeats 1000000
section
variable {w w' : World} {g B : Nat} {s : St}
theorem RdrB.hB (h : RdrB w g s B) : B ≤ w.heap.size := by obtain ⟨_, _, _, _, _, _, _, hB⟩ := h; exact hB
theorem RdrB.fail (h : RdrB w g s B) (hr : RdrS w' g ⟨[], true⟩) (hg : w.heap.size ≤ w'.heap.size) : RdrB w' g ⟨[], true⟩ B := by
  obtain ⟨⟨A', c', hh', _, hc'⟩, _, _⟩ := hr
  exact ⟨A', c', hh', .inl rfl, hc', fun _ => rfl, by simp, Nat.le_trans h.hB hg⟩
theorem rdrB_cut {c k : Nat} {A : Option Addr} {ys : List UInt8} (hh : w.heap[g]? = some (.cells #[.slice A ys.length c, .bool true, .bool false] 100 (0, 0))) (hx : BAt w B A ys) (hc : ys.length ≤ c) (hk : k ≤ ys.length) (hl : ys.length ≤ 900000) (hB : B ≤ w.heap.size) :
    RdrB (w.setCell ⟨g, 0, none⟩ (.slice (cutA A c k) (ys.length - k) (c - k))) g ⟨ys.drop k, false⟩ B := by
  have e1 : (w.setCell ⟨g, 0, none⟩ (.slice (cutA A c k) (ys.length - k) (c - k))).heap.size = w.heap.size := by simp [World.setCell]
  refine ⟨cutA A c k, c - k, ?_, ?_, by simp only [List.length_drop]; omega, by simp, by simp only [List.length_drop]; omega, by rw [e1]; exact hB⟩
  · have s0 := heap_setCell_same w g 0 _ 100 (.slice (cutA A c k) (ys.length - k) (c - k)) hh
    simp only [List.length_drop]
    simpa using s0
  · have hx' : BAt w B (cutA A c k) (ys.drop k) := hx.cut (by omega) hc
    have := hx'.set (j := 0) (.slice (cutA A c k) (ys.length - k) (c - k)) (hx'.ne hh (by simp) (by simp) (by simp))
    simpa [World.setCell] using this
def NumPB (w : World) (g : Nat) (s : St) (wd : Int) (B : Nat) (e : Ending) (w' : World) : Prop := e = .returned (.int .u64 (numV s wd : Int)) ∧ RdrB w' g (numS s wd) B ∧ w.grownBy w' (some g)
theorem num_anyB (h : RdrB w g s B) (wd : Int) (hw : wd ≤ 9223372036854775807) : Calls Tryz.prog 40 #[.pointer (some ⟨g, 0, none⟩), .int .i64 wd] w (NumPB w g s wd B) := by
  by_cases hk : numOk s wd
  · have HB := Lib.hid (bad_any h.rs)
    obtain ⟨A, c, hh, hx, hc, hbd, hl, hB⟩ := id h
    obtain ⟨hb', hk1, hk2, hk3⟩ := id hk
    rw [hb'] at HB
    obtain ⟨k, rfl⟩ : ∃ k : Nat, wd = k := ⟨wd.toNat, by omega⟩
    have c0 : w.cell? ⟨g, 0, none⟩ = some (.slice A s.ys.length c) := by
      have := cell_of_row w g 0 _ 100 (0, 0) hh
      simpa using this
    have f0 := frozen_of_row w g 0 _ 100 hh
    have HN := Lib.hid (number_yes g c k A s.ys w c0 f0 (hx.more hB) hl (by omega) (by omega) (by omega))
    have R : NumPB w g s k B (.returned (.int .u64 (getN (s.ys.take k) : Int))) (w.setCell ⟨g, 0, none⟩ (.slice (cutA A c k) (s.ys.length - k) (c - k))) := by
      refine ⟨by simp [numV, hk], ?_, grownBy_setCell (World.grownBy.refl w _) _ _⟩
      simp only [numS, if_pos hk, Int.toNat_natCast]
      rw [hb'] at hh
      exact rdrB_cut hh hx hc (by omega) hl hB
    have HR := Lib.hid R
    clear hh hx h R hb' hk hk1 hk2 hk3 hbd c0 f0
    go_enter Tryz.func40, Tryz.ntmps40
    go_wp2_with (first
      | (go_at_call 64; (with_reducible refine (HB.out).mono ?_); rintro e w1 ⟨rfl, rfl⟩)
      | (go_at_call 65; (with_reducible refine (HN.out).mono ?_); rintro e w1 ⟨rfl, rfl⟩))
    go_ret
    exact HR.out
  · refine (num_any h.rs wd hw).mono ?_
    rintro e w' ⟨he, hr, hg⟩
    refine ⟨he, ?_, hg⟩
    have e2 : numS s wd = ⟨[], true⟩ := by unfold numS; rw [if_neg hk]
    rw [e2] at hr ⊢
    exact h.fail hr hg.size
def TxtPB (w : World) (g : Nat) (s : St) (most : Int) (B : Nat) (e : Ending) (w' : World) : Prop := e = .returned (.string (bstr (txtV s most))) ∧ RdrB w' g (txtS s most) B ∧ w.grownBy w' (some g)
theorem txt_anyB (h : RdrB w g s B) (most : Int) (hw : most ≤ 9223372036854775807) : Calls Tryz.prog 125 #[.pointer (some ⟨g, 0, none⟩), .int .i64 most] w (TxtPB w g s most B) := by
  by_cases hok : txtOk s most
  · have HB := Lib.hid (bad_any h.rs)
    obtain ⟨A, c, hh, hx, hc, hbd, hl, hB⟩ := id h
    obtain ⟨hb', hk⟩ := id hok
    rw [hb'] at HB
    have hT := rtxt_yes A c s.ys _ most hh (hx.more hB) hc hl (by simp) _ rfl hk.1 hk.2.1 hk.2.2.1 hk.2.2.2
    have e1 : txtV s most = (s.ys.drop 2).take (getN (s.ys.take 2)) := by simp only [txtV, if_pos hok]
    have R : ∀ w', (w.setCell ⟨g, 0, none⟩ (.slice (cutA A c 2) (s.ys.length - 2) (c - 2))).setCell ⟨g, 0, none⟩ (.slice (cutA (cutA A c 2) (c - 2) (getN (s.ys.take 2))) (s.ys.length - 2 - getN (s.ys.take 2)) (c - 2 - getN (s.ys.take 2))) = w' → RdrB w' g (txtS s most) B ∧ w.grownBy w' (some g) := by
      rintro w' rfl
      refine ⟨?_, grownBy_setCell (grownBy_setCell (World.grownBy.refl w _) _ _) _ _⟩
      simp only [txtS, if_pos hok]
      rw [hb'] at hh
      have e2 : (s.ys.drop 2).length = s.ys.length - 2 := by rw [List.length_drop]
      have e3 : (w.setCell ⟨g, 0, none⟩ (.slice (cutA A c 2) (s.ys.length - 2) (c - 2))).heap.size = w.heap.size := by simp [World.setCell]
      have q1 : (w.setCell ⟨g, 0, none⟩ (.slice (cutA A c 2) (s.ys.length - 2) (c - 2))).heap[g]? = some (.cells #[.slice (cutA A c 2) (s.ys.drop 2).length (c - 2), .bool true, .bool false] 100 (0, 0)) := by
        have s0 := heap_setCell_same w g 0 _ 100 (.slice (cutA A c 2) (s.ys.length - 2) (c - 2)) hh
        rw [e2]
        simpa using s0
      have q2 : BAt (w.setCell ⟨g, 0, none⟩ (.slice (cutA A c 2) (s.ys.length - 2) (c - 2))) B (cutA A c 2) (s.ys.drop 2) := by
        have hx' : BAt w B (cutA A c 2) (s.ys.drop 2) := hx.cut hk.1 hc
        have := hx'.set (j := 0) (.slice (cutA A c 2) (s.ys.length - 2) (c - 2)) (hx'.ne hh (by simp) (by simp) (by simp))
        simpa [World.setCell] using this
      have q4 := rdrB_cut (k := getN (s.ys.take 2)) q1 q2 (by rw [e2]; omega) (by rw [e2]; omega) (by rw [e2]; omega) (by rw [e3]; exact hB)
      rw [e2] at q4
      exact q4
    have HR := Lib.hid R
    rw [← e1] at hT
    have HT := Lib.hid hT
    unfold TxtPB
    generalize txtV s most = tv at HT ⊢
    generalize txtS s most = ts at HR ⊢
    clear hh hx h R hb' hok hT e1 hk hbd
    go_enter Tryz.func125, Tryz.ntmps125
    go_wp2_with (first
      | (go_at_call 64; (with_reducible refine (HB.out).mono ?_); rintro e w1 ⟨rfl, rfl⟩)
      | (go_at_call 133; (with_reducible refine (HT.out).mono ?_); rintro e w1 ⟨rfl, hw1⟩; have Hw1 := Lib.hid hw1; clear hw1))
    go_ret
    exact ⟨rfl, HR.out _ Hw1.out⟩
  · refine (rdText_any h.rs most hw).mono ?_
    rintro e w' ⟨he, hr, hg⟩
    refine ⟨he, ?_, hg⟩
    have e2 : txtS s most = ⟨[], true⟩ := by unfold txtS; rw [if_neg hok]
    rw [e2] at hr ⊢
    exact h.fail hr hg.size
end
end Go.Proofs.YtehgpnnfjgmiiaaGreat
end
