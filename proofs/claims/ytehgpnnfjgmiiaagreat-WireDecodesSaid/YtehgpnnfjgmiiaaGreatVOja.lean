/- roster.Bytes of the program. Conditions: at most 10,000 instances, targets of at most 100,000 bytes. Bytes of the reference. Conditions: at most 10,000 instances, targets of at most 100,000 bytes. RosterTells: what its walk rests upon, and its short ways. Conditions: lengths that an int holds. Slices of bytes and numbers that come in, as lists. No condition. Instances and bytes that come in. No condition. Slices of instances that come in. No condition. A reader of package octet in memory, and contracts of the calls that read: Num, Take, Text, Left, Bad, Done. Conditions: the bytes that are left are fewer than 900,000. Words on slices of bytes for the walks of this seat: plain lemmas on memory, over any program. No condition. Numbers as bytes: plain lemmas without a program. No condition. Contracts of the functions of package octet that make bytes, and of their references: what Put and Text put. Conditions: the bytes that come in are fewer than a million. Bytes as numbers: plain lemmas without a program. No condition. Contracts of Get of package octet and of its reference. Conditions: the bytes that come in are fewer than a million; a place is one that an int can be. -/
import Derived.Test.YtehgpnnfjgmiiaaGreatProg
import Derived.Test.YtehgpnnfjgmiiaaGreatVObc
import Derived.Test.YtehgpnnfjgmiiaaGreatVObd
import Derived.Test.YtehgpnnfjgmiiaaGreatVIiv
import Derived.Test.YtehgpnnfjgmiiaaGreatVIie
import Derived.Test.YtehgpnnfjgmiiaaGreatVJLra
import Derived.Test.YtehgpnnfjgmiiaaGreatVKCrd
import Derived.Test.YtehgpnnfjgmiiaaGreatVJLcd
import Derived.RangeFuncBox
import Derived.Test.YtehgpnnfjgmiiaaGreatVKCdi
import Derived.RangeFuncFrom
import Derived.RangeFuncLeaves
import Derived.Test.YtehgpnnfjgmiiaaGreatRows
import Derived.ProofKit
import Derived.OpenShut
import Derived.ChangeOld
import Derived.SizedLaws
import Derived.Test.YtehgpnnfjgmiiaaGreatVIia
import Derived.Deep.Slices
import Derived.Deep.Strs
import Derived.WalkKit
import Derived.Deep.AppendSrc
import Derived.Laws.BytesString
import Derived.Laws.CopyOwn
import Derived.Deep.AppendLies
import Derived.Deep.Draws
import Derived.WalkSpells
import Derived.WalkLawsBesides
import Derived.Lib.Hide
import Derived.Outline
import Derived.Laws.BitsAllLaws
import Derived.Laws.BitsLemmas
import Derived.Laws.Bits64
import Derived.LoopTactic
import Derived.Deep.MidRow
import Derived.BigQuiet
import Derived.RegionTactic
import Derived.RegionCalls
import Derived.Deep.RegionHeld3
import Derived.Deep.QuietTactic
section
namespace Go.Proofs.YtehgpnnfjgmiiaaGreat
open Go.Shelf Go.RowKit Go.Lib Go.Great
set_option maxRecDepth 100000
set_option maxHeartbeats 400000
/-- The bytes of the first k of a roster. -/
def upR (L : List Ins) (k : Nat) : List UInt8 := putB L.length 1 ++ (L.take k).flatMap byI
/-- The bytes of a roster. -/
def byR (L : List Ins) : List UInt8 := if goodR L then upR L L.length else []
def errR (L : List Ins) : Int := if goodR L then 0 else 2
theorem upR_succ (L : List Ins) (k : Nat) (h : k < L.length) : upR L k ++ byI L[k]! = upR L (k + 1) := by
  unfold upR
  have e : L.take (k + 1) = L.take k ++ [L[k]] := by rw [List.take_add_one, List.getElem?_eq_getElem h]; rfl
  rw [e, getElem!_pos L k h, List.flatMap_append]
  simp
theorem byI_len4 (i : Ins) : (byI i).length ≤ 400 := by
  unfold byI
  split
  · rename_i h
    have := goodI_len h
    unfold bytesI headB
    split <;> simp [putB_length, i.hp] <;> omega
  · simp
theorem upR_len (L : List Ins) (k : Nat) : (upR L k).length ≤ 1 + k * 400 := by
  unfold upR
  rw [List.length_append, putB_length]
  have : ∀ M : List Ins, (M.flatMap byI).length ≤ M.length * 400 := fun M => by
    induction M with
    | nil => simp
    | cons y M ih => rw [List.flatMap_cons, List.length_append, List.length_cons]; have := byI_len4 y; omega
  have h := this (L.take k)
  rw [List.length_take] at h
  have : min k L.length * 400 ≤ k * 400 := Nat.mul_le_mul_right _ (Nat.min_le_left _ _)
  omega
theorem rbytes_bad (A : Option Addr) (c : Nat) (L : List Ins) (w : World) (ht : ∀ y ∈ L, y.tgt.length ≤ 100000) (hA : IAt w w.heap.size A L) (hg : goodR L = false) :
    Calls Tryz.prog 54 #[.slice A L.length c] w fun e w' => ∃ v, e = .returned (.tuple #[v, .int .i64 (errR L)]) ∧ IsB v (byR L) w' ∧ Below w.heap.size w w' := by
  have HG := Lib.hid (gd_any A c L w ht hA)
  rw [hg] at HG
  have HN : Hid (errR L = 2 ∧ byR L = []) := Lib.hid (by unfold errR byR; rw [hg]; exact ⟨rfl, rfl⟩)
  rw [HN.out.1, HN.out.2]
  clear ht hA hg
  go_enter Tryz.func54, Tryz.ntmps54
  go_wp2_with (first | (go_at_call 33; (with_reducible refine HG.out.mono ?_); rintro e w1 ⟨rfl, hb1⟩))
  go_ret2
  exact ⟨_, rfl, IsB.nil _, hb1⟩
theorem byI_good {i : Ins} (h : goodI i = true) : errI i = 0 := by unfold errI; rw [if_pos h]
theorem rbytes_good (A : Option Addr) (c : Nat) (L : List Ins) (w : World) (ht : ∀ y ∈ L, y.tgt.length ≤ 100000) (hA : IAt w w.heap.size A L) (hg : goodR L = true) :
    Calls Tryz.prog 54 #[.slice A L.length c] w fun e w' => ∃ v, e = .returned (.tuple #[v, .int .i64 (errR L)]) ∧ IsB v (byR L) w' ∧ Below w.heap.size w w' := by
  have hl := ((goodR_iff L).1 hg).1
  have HG := Lib.hid (gd_any A c L w ht hA)
  rw [hg] at HG
  have HN : Hid (errR L = 0 ∧ byR L = upR L L.length) := Lib.hid (by unfold errR byR; rw [hg]; exact ⟨rfl, rfl⟩)
  rw [HN.out.1, HN.out.2]
  have HPUT : Hid (∀ W, Below w.heap.size w W → Calls Tryz.prog 22 #[.slice none 0 0, .int .u64 (L.length : Int), .int .i64 1] W fun e w' => ∃ v, e = .returned v ∧ w'.ownsRow w.heap.size 5 1 v (upR L 0).length (bcells (upR L 0)) ∧ Below w.heap.size w w') := Lib.hid (fun W hW => by
    refine (put_yes none 0 L.length 1 [] W (.inl rfl) (by simp) (by omega) (by omega) (by omega)).mono ?_
    rintro e w' ⟨v, rfl, ho, hb⟩
    have e0 : upR L 0 = [] ++ putB L.length 1 := by unfold upR; simp
    rw [e0]
    exact ⟨v, rfl, own_baseC ho hW.size, hW.trans (hb.mono hW.size)⟩)
  have HLD : Hid (∀ k, k < L.length → ∃ g off, A = some ⟨g, off, none⟩ ∧ ∀ W, Below w.heap.size w W → (loadVar 79 ⟨g, off + k * 28, none⟩).run Tryz.prog W = .ok (.agg (encI L[k]!).toArray) W) := Lib.hid (fun k hk => by
    rcases hA with e | ⟨g, off, e, hgl, hr⟩
    · rw [e] at hk; simp at hk
    · exact ⟨g, off, e, fun W hW => row_load hr hgl hW hk⟩)
  have HBY : Hid (∀ k, k < L.length → ∀ W, Calls Tryz.prog 80 #[.agg (encI L[k]!).toArray] W fun e w' => ∃ v, e = .returned (.tuple #[v, .int .i64 0]) ∧ IsB v (byI L[k]!) w' ∧ Below W.heap.size W w') := Lib.hid (fun k hk W => by
    have hgk : goodI L[k]! = true := by
      have := ((goodR_iff L).1 hg).2 k hk
      unfold okAt at this
      rw [Bool.and_eq_true] at this
      exact this.1
    have := ibytes_any L[k]! (ht _ (by rw [getElem!_pos L k hk]; exact List.getElem_mem hk)) W
    rw [byI_good hgk] at this
    exact this)
  have HUP : Hid (∀ k, k < L.length → upR L k ++ byI L[k]! = upR L (k + 1) ∧ (upR L k).length + (byI L[k]!).length ≤ 10000000) := Lib.hid (fun k hk => ⟨upR_succ L k hk, by have := upR_len L k; have := byI_len4 L[k]!; omega⟩)
  clear HN
  generalize hn : L.length = n at *
  have hnu : (n : Int) % 18446744073709551616 = (n : Int) := by omega
  clear hA ht hg
  go_enter Tryz.func54, Tryz.ntmps54
  go_upto_region 5 with (first
    | (go_at_call 33; (with_reducible refine HG.out.mono ?_); rintro e w1 ⟨rfl, hb1⟩)
    | (go_at_call 22; (with_reducible refine (HPUT.out _ hb1).mono ?_); rintro e2 w2 ⟨v, rfl, ho2, hb2⟩))
  have HO2 := Lib.hid ho2
  have HB2 := Lib.hid hb2
  clear ho2 hb2 hb1 HG HPUT
  go_loopw [4, 18] (fun v0 i wr => ∃ (k : Nat) (v : Value), v0 = v ∧ i = .int .i64 (k : Int) ∧ k ≤ n ∧ wr.ownsRow w.heap.size 5 1 v (upR L k).length (bcells (upR L k)) ∧ Below w.heap.size w wr) (fun _ i _ => n - (RowKit.intOf i).toNat)
  case atStart => exact ⟨0, _, rfl, rfl, by omega, HO2.out, HB2.out⟩
  case round =>
    obtain ⟨k, v4, hv4, rfl, hk, ho, hbr⟩ := hrel
    obtain rfl := hv4.symm
    clear HO2 HB2
    by_cases hlt : k < n
    · have hlt' : (k : Int) < (n : Int) := by omega
      obtain ⟨g, off, rfl, hld⟩ := HLD.out k hlt
      have HLV := Lib.hid (hld wr hbr)
      have HB := Lib.hid (HBY.out k hlt)
      obtain ⟨hup, hul⟩ := HUP.out k hlt
      obtain ⟨Y, hY⟩ : ∃ Y : Ins, Y = L[k]! := ⟨_, rfl⟩
      rw [← hY] at HLV HB hup hul
      have HUPk := Lib.hid hup
      have HULk := Lib.hid hul
      have hbn : Below wr.heap.size wr (wr.alloc (.cells (encI Y).toArray 79)) := (Below.refl _ wr).alloc (Nat.le_refl _) _
      have HLK : Hid ((loadVar 79 ⟨wr.heap.size, 0, none⟩).run Tryz.prog (wr.alloc (.cells (encI Y).toArray 79)) = .ok (.agg (encI Y).toArray) (wr.alloc (.cells (encI Y).toArray 79))) := Lib.hid (load28 (row_range (heap_alloc_new wr _)))
      have HOW : Hid (∀ W, Below (wr.alloc (.cells (encI Y).toArray 79)).heap.size (wr.alloc (.cells (encI Y).toArray 79)) W → W.ownsRow w.heap.size 5 1 v4 (upR L k).length (bcells (upR L k)) ∧ Below w.heap.size w W ∧ w.heap.size ≤ W.heap.size) := Lib.hid (fun W hW => by
        have h1 := hbn.trans (hW.mono hbn.size)
        exact ⟨ho.kept (grown_of_bel h1 none) (by cases v4.ownBlock <;> simp), hbr.trans (h1.mono hbr.size), Nat.le_trans hbr.size h1.size⟩)
      have HOB : Hid (∀ q, v4.ownBlock = some q → w.heap.size ≤ q) := Lib.hid (fun q hq => (ho.lt q hq).1)
      have HSRC : Hid (∀ W v, IsB v (byI Y) W → Src Tryz.prog 1 31 v (byI Y).length (bcells (byI Y)) W) := Lib.hid (fun W v hi => by
        obtain ⟨A', c', rfl, _, hA'⟩ := hi
        exact hA'.src Tryz.underlying31 c')
      have HNX : Hid (∀ W A' c' w', Below (wr.alloc (.cells (encI Y).toArray 79)).heap.size (wr.alloc (.cells (encI Y).toArray 79)) W → w'.ownsRow w.heap.size 5 1 (.slice A' (upR L (k + 1)).length c') (upR L (k + 1)).length (bcells (upR L (k + 1))) → W.grownBy w' v4.ownBlock → ∃ (k' : Nat) (v : Value), Value.slice A' (upR L (k + 1)).length c' = v ∧ Value.int .i64 ((k : Int) + 1) = .int .i64 (k' : Int) ∧ k' ≤ n ∧ w'.ownsRow w.heap.size 5 1 v (upR L k').length (bcells (upR L k')) ∧ Below w.heap.size w w') := Lib.hid (fun W A' c' w' hW ho' hg' => by
        obtain ⟨_, q2, q3⟩ := HOW.out W hW
        exact ⟨k + 1, _, rfl, by simp, by omega, ho', below_ownB q2 q3 hg' HOB.out⟩)
      clear hY hld hup hul hbn ho hbr HLD HBY HUP
      go_wp2_with (first
        | ((with_reducible refine wpList_loadV (op := ⟨some 21, _, _, _, _, _⟩) rfl 79 (.tmp 20) rfl _ ?_ _ HLV.out ?_); rfl)
        | (with_reducible refine wpList_alloc28 (o := ⟨some 6, _, _, _, _, _⟩) wr.heap.size rfl rfl 6 rfl rfl ?_)
        | ((with_reducible refine wpList_store28n (o := ⟨none, _, _, _, _, _⟩) rfl (.tmp 6) (.tmp 21) rfl wr.heap.size rfl zeroI Y ?_ ?_ ?_); rfl; rfl)
        | ((with_reducible refine wpList_loadV (op := ⟨some 23, _, _, _, _, _⟩) rfl 79 (.tmp 6) rfl _ ?_ _ HLK.out ?_); rfl)
        | (go_at_call 80; (with_reducible refine (HB.out _).mono ?_); rintro e5 w5 ⟨v5, rfl, hi5, hb5⟩)
        | (at_builtin; (refine wpList_appN (o := ⟨some 29, _, _, _, _, _⟩) rfl 29 rfl (.tmp 27) (.tmp 28) rfl w.heap.size v4 (upR L k) ?_ (HOW.out _ hb5).1 v5 (byI Y) ?_ (HSRC.out _ _ hi5) HULk.out (HOW.out _ hb5).2.2 (upR L (k + 1)) (upR L (k + 1)).length HUPk.out rfl ?_); rfl; rfl; intro A6 c6 w6 ho6 hg6))
      go_roundw
      case rel => exact HNX.out _ _ _ _ hb5 ho6 hg6
      case measure => simp [RowKit.intOf]; omega
    · obtain rfl : k = n := by omega
      have hlt' : ¬ (k : Int) < (k : Int) := by omega
      have HI := Lib.hid (IsB.of_own ho)
      have HBR := Lib.hid hbr
      clear HLD HBY HUP ho hbr
      go_wp2
      go_ret2
      exact ⟨_, rfl, HI.out, HBR.out⟩
/-- Bytes of the program. -/
theorem rosbytes_any (A : Option Addr) (c : Nat) (L : List Ins) (w : World) (ht : ∀ y ∈ L, y.tgt.length ≤ 100000) (hA : IAt w w.heap.size A L) :
    Calls Tryz.prog 54 #[.slice A L.length c] w fun e w' => ∃ v, e = .returned (.tuple #[v, .int .i64 (errR L)]) ∧ IsB v (byR L) w' ∧ Below w.heap.size w w' := by
  cases hg : goodR L with
  | false => exact rbytes_bad A c L w ht hA hg
  | true => exact rbytes_good A c L w ht hA hg
end Go.Proofs.YtehgpnnfjgmiiaaGreat
end
section
namespace Go.Proofs.YtehgpnnfjgmiiaaGreat
open Go.Shelf Go.RowKit Go.Lib Go.Great
set_option maxRecDepth 100000
set_option maxHeartbeats 400000
end Go.Proofs.YtehgpnnfjgmiiaaGreat
end
section
namespace Go.Proofs.YtehgpnnfjgmiiaaGreat
open Go.Shelf Go.RowKit Go.Lib Go.Great
set_option maxRecDepth 100000
set_option maxHeartbeats 400000
theorem IAt.bel {M : List Ins} {A : Option Addr} {W W' : World} (h : IAt W W.heap.size A M) (hb : Below W.heap.size W W') : IAt W' W'.heap.size A M := (h.below hb).more hb.size
end Go.Proofs.YtehgpnnfjgmiiaaGreat
end
section
namespace Go.Proofs.YtehgpnnfjgmiiaaGreat
set_option maxRecDepth 100000
set_option linter.unusedVariables false
open Go.ChangeShapes Go.WideShapes Go.ChangeAt Go.RowKit

/-- The bytes of a row of numbers that fit a byte. -/
def bytesOf (zs : List Int) : List UInt8 := zs.map fun n => UInt8.ofNat n.toNat
section
variable {H : Type} {enc : TypeId × Value → H} {W : World} {base : Nat} {sp : Nat → Bool} {hd : Bool} {a : Option Addr} {len cap : Nat} {d : DataW H} {p : List MemPlace}
end
end Go.Proofs.YtehgpnnfjgmiiaaGreat
end
section
namespace Go.Proofs.YtehgpnnfjgmiiaaGreat
set_option maxRecDepth 100000
open Go.ChangeShapes Go.WideShapes Go.ChangeAt Go.RowKit Go.Deep
section
variable {H : Type} {enc : TypeId × Value → H} {w : World} {base : Nat} {spare : Nat → Bool} {held : Bool}
end
end Go.Proofs.YtehgpnnfjgmiiaaGreat
end
section
namespace Go.Proofs.YtehgpnnfjgmiiaaGreat
set_option maxRecDepth 100000
open Go.ChangeShapes Go.WideShapes Go.ChangeAt Go.RowKit Go.Deep
end Go.Proofs.YtehgpnnfjgmiiaaGreat
end
section
namespace Go.Proofs.YtehgpnnfjgmiiaaGreat
set_option maxRecDepth 100000
open Go.RowKit
set_option linter.unusedVariables false

def headA (A : Option Addr) (c : Nat) : Option Addr := if c = 0 then A else A.map (·.add 0)

theorem size5 (W : World) : (sizeOf (Tryz.prog.elem 31)).run Tryz.prog W = .ok 1 W := by
  obtain ⟨i0, hi, hz0, hz1, hz2⟩ := info_parts info5
  have : Tryz.prog.elem 31 = 5 := by kernel_rfl
  rw [this]
  simp [sizeOf, typeInfo, hi, hz1]
theorem under22Q : Tryz.prog.underlying 31 = some (.slice (Tryz.prog.elem 31)) := by kernel_rfl

theorem run_head (A : Option Addr) (n c k : Nat) (hk : k ≤ c) (W : World) :
    (Instr.slice 31 (.slice A n c) none (some (.int .i64 (k : Int))) none).run Tryz.prog W = .ok (.slice (headA A c) k c) W := by
  rw [run_slice_h W 31 A n c under22Q .i64 k (by omega) (by omega), size5]
  simp [Result.andThen, sliced, headA]

end Go.Proofs.YtehgpnnfjgmiiaaGreat
end
section
namespace Go.Proofs.YtehgpnnfjgmiiaaGreat
set_option maxRecDepth 100000
open Go.RowKit

section
variable {w w' : World} {B B' : Nat} {A : Option Addr} {xs : List UInt8}
end

theorem grownBy_of_below {a w : World} {B : Nat} (h : Below B a w) (hB : a.heap.size ≤ B) (row : Option Nat) : a.grownBy w row := ⟨h.os, h.tape, h.output, h.size, fun i hi _ => h.block i (by omega)⟩
theorem own_base {w : World} {base base' : Nat} {e : TypeId} {v : Value} {n size : Nat} {xs : List Value} (h : w.ownsRow base e size v n xs) (hb : base' ≤ base) : w.ownsRow base' e size v n xs := by
  refine ⟨h.1, ?_⟩
  rcases h.2 with hn | ⟨g, cap, cur, hv, hg, r⟩
  · exact .inl hn
  · exact .inr ⟨g, cap, cur, hv, by omega, r⟩

theorem slice_of_own {w : World} {base : Nat} {e : TypeId} {v : Value} {n : Nat} {xs : List Value} (h : w.ownsRow base e 1 v n xs) : ∃ A c, v = .slice A n c := by
  rcases h.2 with ⟨rfl, rfl⟩ | ⟨g, cap, cur, rfl, _⟩
  · exact ⟨_, _, rfl⟩
  · exact ⟨_, _, rfl⟩

theorem run_convert_own {P : Program} {w : World} {base : Nat} {v : Value} {n : Nat} {xs : List UInt8} (src dst e : TypeId) (hs : P.underlying src = some (.slice e)) (he : P.underlying e = some (.int .u8)) (hd : P.underlying dst = some .string)
    (h : w.ownsRow base e 1 v n (bcells xs)) : (convert src dst v).run P w = .ok (.string (bstr xs)) w := by
  have hn : n = xs.length := by have := h.1; rw [bcells_length] at this; omega
  subst hn
  obtain ⟨A, c, rfl⟩ := slice_of_own h
  exact run_convert_bat src dst e c hs he hd (BAt.of_own h (Nat.le_refl _))

end Go.Proofs.YtehgpnnfjgmiiaaGreat
end
section
namespace Go.Proofs.YtehgpnnfjgmiiaaGreat
set_option maxRecDepth 100000

/-- The same of any width: nothing where there is no such width. -/
def putI (N : Nat) (wd : Int) : List UInt8 := if 1 ≤ wd ∧ wd ≤ 8 then putB N wd.toNat else []

end Go.Proofs.YtehgpnnfjgmiiaaGreat
end
section
namespace Go.Proofs.YtehgpnnfjgmiiaaGreat
set_option maxRecDepth 100000
open Go.RowKit

theorem isWidth_no (n : Int) (w : World) (h : ¬ (1 ≤ n ∧ n ≤ 8)) : Calls Tryz.prog 49 #[.int .i64 n] w fun e w' => e = .returned (.bool false) ∧ w = w' := by
  by_cases h1 : 1 ≤ n
  · have d2 : ¬ n ≤ 8 := by omega
    clear h
    go_enter Tryz.func49, Tryz.ntmps49
    go_wp2
    go_ret
    exact ⟨rfl, rfl⟩
  · clear h
    go_enter Tryz.func49, Tryz.ntmps49
    go_wp2
    go_ret
    exact ⟨rfl, rfl⟩

theorem clone_any (A : Option Addr) (c : Nat) (xs : List UInt8) (w : World) (hx : BAt w w.heap.size A xs) (hl : xs.length ≤ 1000000) :
    Calls Tryz.prog 50 #[.slice A xs.length c] w (OwnB w xs) := by
  obtain ⟨i0, hi, hz0, hz1, hz2⟩ := info_parts info5
  have hnil : ∀ (w : World) (a : Option Addr) (n c n' c' : Nat), (binOp .eql 31 (.slice a n c) (.slice none n' c')).run Tryz.prog w = .ok (.bool a.isNone) w := fun w a n c n' c' => Lib.run_eql_slice_nil w _ _ a n c n' c' Tryz.underlying31
  cases A with
  | none =>
    have := hx.none_
    subst this
    go_enter Tryz.func50, Tryz.ntmps50
    go_wp2
    go_ret
    exact ⟨_, rfl, World.ownsRow_nil _ _ _ _, Below.refl _ _⟩
  | some a =>
    have HL := Lib.hid hl
    clear hl
    go_enter Tryz.func50, Tryz.ntmps50
    go_wp2_with (at_builtin; refine wpList_append_src _ rfl (.tmp 5) (.tmp 6) _ _ rfl w.heap.size 5 i0 _ 1 Tryz.underlying31 hi hz0 hz1 hz2 rfl (.slice (some ⟨w.heap.size, 0, none⟩) 0 0) 0 [] rfl (World.ownsRow_made (e := 5) (size := 1) w #[] 0 (Nat.le_refl _) (Nat.zero_le _) rfl) _ xs.length (bcells xs) rfl ((hx.below ((Below.refl _ w).alloc (Nat.le_refl _) _)).src Tryz.underlying31 _) (by have := HL.out; simp only [maxLen]; omega) (by have := HL.out; omega) (by simp) ?_; intro v1 w1 hown1 hg1 hat1)
    go_ret
    exact ⟨v1, rfl, by simpa using hown1, ((Below.refl _ w).alloc (Nat.le_refl _) _).grown hg1 (by simp) (by simp [Value.ownBlock])⟩

end Go.Proofs.YtehgpnnfjgmiiaaGreat
end
section
namespace Go.Proofs.YtehgpnnfjgmiiaaGreat
set_option maxRecDepth 100000

/-- The number that bytes are. -/
def getN (xs : List UInt8) : Nat := xs.foldl (fun n b => n * 256 + b.toNat) 0
theorem getN_snoc (xs : List UInt8) (b : UInt8) : getN (xs ++ [b]) = getN xs * 256 + b.toNat := by simp [getN]
theorem foldN_lt (xs : List UInt8) : ∀ n : Nat, xs.foldl (fun n b => n * 256 + b.toNat) n < (n + 1) * 256 ^ xs.length := by
  induction xs with
  | nil => intro n; simp
  | cons b xs ih =>
    intro n
    have h := ih (n * 256 + b.toNat)
    have hb := b.toNat_lt
    rw [List.foldl_cons, List.length_cons, Nat.pow_succ]
    have h2 : (n * 256 + b.toNat + 1) * 256 ^ xs.length ≤ (n + 1) * 256 * 256 ^ xs.length := Nat.mul_le_mul_right _ (by omega)
    have h3 : (n + 1) * 256 * 256 ^ xs.length = (n + 1) * (256 ^ xs.length * 256) := by rw [Nat.mul_assoc, Nat.mul_comm 256]
    omega
theorem getN_lt (xs : List UInt8) : getN xs < 256 ^ xs.length := by
  have := foldN_lt xs 0
  simpa [getN] using this
theorem getN_take_lt' (xs : List UInt8) (j : Nat) (h : j < 8) : getN (xs.take j) < 72057594037927936 := by
  have h1 := getN_lt (xs.take j)
  have h2 : 256 ^ (xs.take j).length ≤ 256 ^ 7 := Nat.pow_le_pow_right (by omega) (by rw [List.length_take]; omega)
  have h3 : (256 : Nat) ^ 7 = 72057594037927936 := by decide
  omega
theorem getN_take_succ (xs : List UInt8) (j : Nat) (h : j < xs.length) : getN (xs.take (j + 1)) = getN (xs.take j) * 256 + (xs[j]).toNat := by
  rw [List.take_succ_eq_append_getElem h, getN_snoc]

theorem or_byte (n b : Nat) (hn : n < 72057594037927936) (hb : b < 256) :
    bits BinOp.or IntKind.u64 (IntKind.u64.wrap ((n : Int) * 256)) (IntKind.u64.wrap (b : Int)) = ((n * 256 + b : Nat) : Int) := by
  have h1 : IntKind.u64.wrap ((n : Int) * 256) = ((n * 256 : Nat) : Int) := by rw [IntKind.wrap_u64]; omega
  have h2 : IntKind.u64.wrap (b : Int) = (b : Int) := by rw [IntKind.wrap_u64]; omega
  rw [h1, h2, u64_or_nat _ _ (by omega) (by omega)]
  congr 1
  have := Nat.shiftLeft_add_eq_or_of_lt (i := 8) (b := b) (by omega) n
  rw [Nat.shiftLeft_eq, show (2 : Nat) ^ 8 = 256 from rfl] at this
  exact this.symm
theorem add_byte (n b : Nat) (hn : n < 72057594037927936) (hb : b < 256) :
    IntKind.u64.wrap (IntKind.u64.wrap ((n : Int) * 256) + IntKind.u64.wrap (b : Int)) = ((n * 256 + b : Nat) : Int) := by
  simp only [IntKind.wrap_u64]
  omega

end Go.Proofs.YtehgpnnfjgmiiaaGreat
end
section
namespace Go.Proofs.YtehgpnnfjgmiiaaGreat
set_option maxRecDepth 100000
open Go.RowKit
set_option linter.unusedVariables false

theorem get_no (A : Option Addr) (c : Nat) (xs : List UInt8) (at_ wd : Int) (w : World) (hl : xs.length ≤ 1000000) (ha : at_ ≤ 9223372036854775807) (hw : wd ≤ 9223372036854775807) (h : ¬ (1 ≤ wd ∧ wd ≤ 8 ∧ 0 ≤ at_ ∧ at_ + wd ≤ xs.length)) :
    Calls Tryz.prog 89 #[.slice A xs.length c, .int .i64 at_, .int .i64 wd] w fun e w' => e = .returned (.tuple #[.int .u64 0, .bool false]) ∧ w = w' := by
  by_cases h1 : 1 ≤ wd ∧ wd ≤ 8
  · by_cases h2 : 0 ≤ at_
    · have h3 : (xs.length : Int) - at_ < wd := by omega
      clear h
      go_enter Tryz.func89, Tryz.ntmps89
      go_wp2_with (go_at_call 49; refine (isWidth_yes _ _ h1.1 h1.2).mono ?_; rintro e w1 ⟨rfl, rfl⟩)
      go_ret2
      exact ⟨rfl, rfl⟩
    · clear h
      go_enter Tryz.func89, Tryz.ntmps89
      go_wp2_with (go_at_call 49; refine (isWidth_yes _ _ h1.1 h1.2).mono ?_; rintro e w1 ⟨rfl, rfl⟩)
      go_ret2
      exact ⟨rfl, rfl⟩
  · clear h
    go_enter Tryz.func89, Tryz.ntmps89
    go_wp2_with (go_at_call 49; refine (isWidth_no _ _ h1).mono ?_; rintro e w1 ⟨rfl, rfl⟩)
    go_ret2
    exact ⟨rfl, rfl⟩

set_option maxRecDepth 100000 in
theorem get_yes (A : Option Addr) (c : Nat) (xs : List UInt8) (a k : Nat) (w : World) (hx : BAt w w.heap.size A xs) (hl : xs.length ≤ 1000000) (hk1 : 1 ≤ k) (hk : k ≤ 8) (h : a + k ≤ xs.length) :
    Calls Tryz.prog 89 #[.slice A xs.length c, .int .i64 a, .int .i64 k] w fun e w' => e = .returned (.tuple #[.int .u64 (getN ((xs.drop a).take k)), .bool true]) ∧ w = w' := by
  obtain ⟨g, off, rfl, hg, hc⟩ := hx.some_ (by omega)
  go_enter Tryz.func89, Tryz.ntmps89
  go_wp2_with (go_at_call 49; refine (isWidth_yes _ _ (by omega) (by omega)).mono ?_; rintro e w1 ⟨rfl, rfl⟩)
  go_loop [8, 26] (fun n i => ∃ j : Nat, j ≤ k ∧ i = .int .i64 j ∧ n = .int .u64 (getN ((xs.drop a).take j))) (fun _ i => k - (intOf i).toNat)
  case atStart => exact ⟨0, by omega, rfl, by simp [getN]⟩
  case round =>
    obtain ⟨j, hj, rfl, rfl⟩ := hrel
    by_cases hlt : j < k
    · have hcj := hc (a + j) (by omega)
      have R : bits BinOp.or IntKind.u64 (IntKind.u64.wrap ((getN (List.take j (List.drop a xs)) : Int) * 256)) (IntKind.u64.wrap (xs[a + j].toNat : Int)) = (getN (List.take (j + 1) (List.drop a xs)) : Int) := by
        rw [or_byte _ _ (getN_take_lt' _ _ (by omega)) (xs[a + j]).toNat_lt, getN_take_succ _ _ (by rw [List.length_drop]; omega)]
        simp
      have HR := Lib.hid R
      clear hc hg R
      go_wp2
      go_round
      case rel => exact ⟨j + 1, by omega, by go_num, by rw [HR.out]⟩
      case measure => simp [intOf]; omega
    · obtain rfl : j = k := by omega
      go_wp2
      go_ret2
      exact ⟨rfl, rfl⟩

theorem rget_no (A : Option Addr) (c : Nat) (xs : List UInt8) (at_ wd : Int) (w : World) (hl : xs.length ≤ 1000000) (ha : at_ ≤ 9223372036854775807) (hw : wd ≤ 9223372036854775807) (h : ¬ (1 ≤ wd ∧ wd ≤ 8 ∧ 0 ≤ at_ ∧ at_ + wd ≤ xs.length)) :
    Calls Tryz.prog 73 #[.slice A xs.length c, .int .i64 at_, .int .i64 wd] w fun e w' => e = .returned (.tuple #[.int .u64 0, .bool false]) ∧ w = w' := by
  by_cases h1 : wd < 1
  · clear h
    go_enter Tryz.func73, Tryz.ntmps73
    go_wp2
    go_ret2
    exact ⟨rfl, rfl⟩
  · by_cases h1b : 8 < wd
    · clear h
      go_enter Tryz.func73, Tryz.ntmps73
      go_wp2
      go_ret2
      exact ⟨rfl, rfl⟩
    · by_cases h2 : at_ < 0
      · clear h
        go_enter Tryz.func73, Tryz.ntmps73
        go_wp2
        go_ret2
        exact ⟨rfl, rfl⟩
      · by_cases h3 : (xs.length : Int) < at_
        · clear h
          go_enter Tryz.func73, Tryz.ntmps73
          go_wp2
          go_ret2
          exact ⟨rfl, rfl⟩
        · have h4 : (xs.length : Int) - at_ < wd := by omega
          clear h
          go_enter Tryz.func73, Tryz.ntmps73
          go_wp2
          go_ret2
          exact ⟨rfl, rfl⟩

set_option maxRecDepth 100000 in
theorem rget_yes (A : Option Addr) (c : Nat) (xs : List UInt8) (a k : Nat) (w : World) (hx : BAt w w.heap.size A xs) (hl : xs.length ≤ 1000000) (hk1 : 1 ≤ k) (hk : k ≤ 8) (h : a + k ≤ xs.length) :
    Calls Tryz.prog 73 #[.slice A xs.length c, .int .i64 a, .int .i64 k] w fun e w' => e = .returned (.tuple #[.int .u64 (getN ((xs.drop a).take k)), .bool true]) ∧ w = w' := by
  obtain ⟨g, off, rfl, hg, hc⟩ := hx.some_ (by omega)
  go_enter Tryz.func73, Tryz.ntmps73
  go_wp2
  go_loop [8, 9] (fun n i => ∃ j : Nat, j ≤ k ∧ i = .int .i64 j ∧ n = .int .u64 (getN ((xs.drop a).take j))) (fun _ i => k - (intOf i).toNat)
  case atStart => exact ⟨0, by omega, rfl, by simp [getN]⟩
  case round =>
    obtain ⟨j, hj, rfl, rfl⟩ := hrel
    by_cases hlt : j < k
    · have hcj := hc (a + j) (by omega)
      have R : IntKind.u64.wrap (IntKind.u64.wrap ((getN (List.take j (List.drop a xs)) : Int) * 256) + IntKind.u64.wrap (xs[a + j].toNat : Int)) = (getN (List.take (j + 1) (List.drop a xs)) : Int) := by
        rw [add_byte _ _ (getN_take_lt' _ _ (by omega)) (xs[a + j]).toNat_lt, getN_take_succ _ _ (by rw [List.length_drop]; omega)]
        simp
      have HR := Lib.hid R
      clear hc hg R
      go_wp2
      go_round
      case rel => exact ⟨j + 1, by omega, by go_num, by rw [HR.out]⟩
      case measure => simp [intOf]; omega
    · obtain rfl : j = k := by omega
      go_wp2
      go_ret2
      exact ⟨rfl, rfl⟩

end Go.Proofs.YtehgpnnfjgmiiaaGreat
end
