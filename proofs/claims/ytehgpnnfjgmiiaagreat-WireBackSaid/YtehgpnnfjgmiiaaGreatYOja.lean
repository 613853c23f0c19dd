/- roster.Bytes of the program. Conditions: at most 10,000 instances, targets of at most 100,000 bytes. Bytes of the reference. Conditions: at most 10,000 instances, targets of at most 100,000 bytes. RosterTells: what its walk rests upon, and its short ways. Conditions: lengths that an int holds. Slices of bytes and numbers that come in, as lists. No condition. Instances and bytes that come in. No condition. Slices of instances that come in. No condition. A reader of package octet in memory, and contracts of the calls that read: Num, Take, Text, Left, Bad, Done. Conditions: the bytes that are left are fewer than 900,000. Words on slices of bytes for the walks of this seat: plain lemmas on memory, over any program. No condition. Numbers as bytes: plain lemmas without a program. No condition. -/
import Derived.Test.YtehgpnnfjgmiiaaGreatProg
import Derived.Test.YtehgpnnfjgmiiaaGreatYOaa
import Derived.Test.YtehgpnnfjgmiiaaGreatYOcb
import Derived.Test.YtehgpnnfjgmiiaaGreatYJVwt
import Derived.Test.YtehgpnnfjgmiiaaGreatYJLcd
import Derived.RangeFuncBox
import Derived.Test.YtehgpnnfjgmiiaaGreatYKCdi
import Derived.RangeFuncFrom
import Derived.RangeFuncLeaves
import Derived.Test.YtehgpnnfjgmiiaaGreatRows
import Derived.ProofKit
import Derived.OpenShut
import Derived.ChangeOld
import Derived.SizedLaws
import Derived.Test.YtehgpnnfjgmiiaaGreatYIia
import Derived.Deep.Slices
import Derived.Deep.Strs
import Derived.Test.YtehgpnnfjgmiiaaGreatYOga
import Derived.WalkKit
import Derived.Deep.AppendSrc
import Derived.Laws.BytesString
import Derived.Laws.CopyOwn
import Derived.Deep.AppendLies
import Derived.Deep.Draws
import Derived.WalkSpells
import Derived.WalkLawsBesides
import Derived.Lib.Hide
import Derived.Outline
import Derived.Laws.BitsAllLaws
import Derived.Laws.BitsLemmas
import Derived.Laws.Bits64
import Derived.LoopTactic
import Derived.Deep.MidRow
import Derived.BigQuiet
import Derived.RegionTactic
import Derived.RegionCalls
import Derived.Deep.RegionHeld3
import Derived.Deep.QuietTactic
section
namespace Go.Proofs.YtehgpnnfjgmiiaaGreat
open Go.Shelf Go.RowKit Go.Lib Go.Great
set_option maxRecDepth 100000
set_option maxHeartbeats 400000
/-- The bytes of the first k of a roster. -/
def upR (L : List Ins) (k : Nat) : List UInt8 := putB L.length 1 ++ (L.take k).flatMap byI
/-- The bytes of a roster. -/
def byR (L : List Ins) : List UInt8 := if goodR L then upR L L.length else []
def errR (L : List Ins) : Int := if goodR L then 0 else 2
theorem upR_succ (L : List Ins) (k : Nat) (h : k < L.length) : upR L k ++ byI L[k]! = upR L (k + 1) := by
  unfold upR
  have e : L.take (k + 1) = L.take k ++ [L[k]] := by rw [List.take_add_one, List.getElem?_eq_getElem h]; rfl
  rw [e, getElem!_pos L k h, List.flatMap_append]
  simp
theorem byI_len4 (i : Ins) : (byI i).length ≤ 400 := by
  unfold byI
  split
  · rename_i h
    have := goodI_len h
    unfold bytesI headB
    split <;> simp [putB_length, i.hp] <;> omega
  · simp
theorem upR_len (L : List Ins) (k : Nat) : (upR L k).length ≤ 1 + k * 400 := by
  unfold upR
  rw [List.length_append, putB_length]
  have : ∀ M : List Ins, (M.flatMap byI).length ≤ M.length * 400 := fun M => by
    induction M with
    | nil => simp
    | cons y M ih => rw [List.flatMap_cons, List.length_append, List.length_cons]; have := byI_len4 y; omega
  have h := this (L.take k)
  rw [List.length_take] at h
  have : min k L.length * 400 ≤ k * 400 := Nat.mul_le_mul_right _ (Nat.min_le_left _ _)
  omega
theorem rbytes_bad (A : Option Addr) (c : Nat) (L : List Ins) (w : World) (ht : ∀ y ∈ L, y.tgt.length ≤ 100000) (hA : IAt w w.heap.size A L) (hg : goodR L = false) :
    Calls Tryz.prog 54 #[.slice A L.length c] w fun e w' => ∃ v, e = .returned (.tuple #[v, .int .i64 (errR L)]) ∧ IsB v (byR L) w' ∧ Below w.heap.size w w' := by
  have HG := Lib.hid (gd_any A c L w ht hA)
  rw [hg] at HG
  have HN : Hid (errR L = 2 ∧ byR L = []) := Lib.hid (by unfold errR byR; rw [hg]; exact ⟨rfl, rfl⟩)
  rw [HN.out.1, HN.out.2]
  clear ht hA hg
  go_enter Tryz.func54, Tryz.ntmps54
  go_wp2_with (first | (go_at_call 33; (with_reducible refine HG.out.mono ?_); rintro e w1 ⟨rfl, hb1⟩))
  go_ret2
  exact ⟨_, rfl, IsB.nil _, hb1⟩
theorem byI_good {i : Ins} (h : goodI i = true) : errI i = 0 := by unfold errI; rw [if_pos h]
theorem rbytes_good (A : Option Addr) (c : Nat) (L : List Ins) (w : World) (ht : ∀ y ∈ L, y.tgt.length ≤ 100000) (hA : IAt w w.heap.size A L) (hg : goodR L = true) :
    Calls Tryz.prog 54 #[.slice A L.length c] w fun e w' => ∃ v, e = .returned (.tuple #[v, .int .i64 (errR L)]) ∧ IsB v (byR L) w' ∧ Below w.heap.size w w' := by
  have hl := ((goodR_iff L).1 hg).1
  have HG := Lib.hid (gd_any A c L w ht hA)
  rw [hg] at HG
  have HN : Hid (errR L = 0 ∧ byR L = upR L L.length) := Lib.hid (by unfold errR byR; rw [hg]; exact ⟨rfl, rfl⟩)
  rw [HN.out.1, HN.out.2]
  have HPUT : Hid (∀ W, Below w.heap.size w W → Calls Tryz.prog 22 #[.slice none 0 0, .int .u64 (L.length : Int), .int .i64 1] W fun e w' => ∃ v, e = .returned v ∧ w'.ownsRow w.heap.size 5 1 v (upR L 0).length (bcells (upR L 0)) ∧ Below w.heap.size w w') := Lib.hid (fun W hW => by
    refine (put_yes none 0 L.length 1 [] W (.inl rfl) (by simp) (by omega) (by omega) (by omega)).mono ?_
    rintro e w' ⟨v, rfl, ho, hb⟩
    have e0 : upR L 0 = [] ++ putB L.length 1 := by unfold upR; simp
    rw [e0]
    exact ⟨v, rfl, own_baseC ho hW.size, hW.trans (hb.mono hW.size)⟩)
  have HLD : Hid (∀ k, k < L.length → ∃ g off, A = some ⟨g, off, none⟩ ∧ ∀ W, Below w.heap.size w W → (loadVar 79 ⟨g, off + k * 28, none⟩).run Tryz.prog W = .ok (.agg (encI L[k]!).toArray) W) := Lib.hid (fun k hk => by
    rcases hA with e | ⟨g, off, e, hgl, hr⟩
    · rw [e] at hk; simp at hk
    · exact ⟨g, off, e, fun W hW => row_load hr hgl hW hk⟩)
  have HBY : Hid (∀ k, k < L.length → ∀ W, Calls Tryz.prog 80 #[.agg (encI L[k]!).toArray] W fun e w' => ∃ v, e = .returned (.tuple #[v, .int .i64 0]) ∧ IsB v (byI L[k]!) w' ∧ Below W.heap.size W w') := Lib.hid (fun k hk W => by
    have hgk : goodI L[k]! = true := by
      have := ((goodR_iff L).1 hg).2 k hk
      unfold okAt at this
      rw [Bool.and_eq_true] at this
      exact this.1
    have := ibytes_any L[k]! (ht _ (by rw [getElem!_pos L k hk]; exact List.getElem_mem hk)) W
    rw [byI_good hgk] at this
    exact this)
  have HUP : Hid (∀ k, k < L.length → upR L k ++ byI L[k]! = upR L (k + 1) ∧ (upR L k).length + (byI L[k]!).length ≤ 10000000) := Lib.hid (fun k hk => ⟨upR_succ L k hk, by have := upR_len L k; have := byI_len4 L[k]!; omega⟩)
  clear HN
  generalize hn : L.length = n at *
  have hnu : (n : Int) % 18446744073709551616 = (n : Int) := by omega
  clear hA ht hg
  go_enter Tryz.func54, Tryz.ntmps54
  go_upto_region 5 with (first
    | (go_at_call 33; (with_reducible refine HG.out.mono ?_); rintro e w1 ⟨rfl, hb1⟩)
    | (go_at_call 22; (with_reducible refine (HPUT.out _ hb1).mono ?_); rintro e2 w2 ⟨v, rfl, ho2, hb2⟩))
  have HO2 := Lib.hid ho2
  have HB2 := Lib.hid hb2
  clear ho2 hb2 hb1 HG HPUT
  go_loopw [4, 18] (fun v0 i wr => ∃ (k : Nat) (v : Value), v0 = v ∧ i = .int .i64 (k : Int) ∧ k ≤ n ∧ wr.ownsRow w.heap.size 5 1 v (upR L k).length (bcells (upR L k)) ∧ Below w.heap.size w wr) (fun _ i _ => n - (RowKit.intOf i).toNat)
  case atStart => exact ⟨0, _, rfl, rfl, by omega, HO2.out, HB2.out⟩
  case round =>
    obtain ⟨k, v4, hv4, rfl, hk, ho, hbr⟩ := hrel
    obtain rfl := hv4.symm
    clear HO2 HB2
    by_cases hlt : k < n
    · have hlt' : (k : Int) < (n : Int) := by omega
      obtain ⟨g, off, rfl, hld⟩ := HLD.out k hlt
      have HLV := Lib.hid (hld wr hbr)
      have HB := Lib.hid (HBY.out k hlt)
      obtain ⟨hup, hul⟩ := HUP.out k hlt
      obtain ⟨Y, hY⟩ : ∃ Y : Ins, Y = L[k]! := ⟨_, rfl⟩
      rw [← hY] at HLV HB hup hul
      have HUPk := Lib.hid hup
      have HULk := Lib.hid hul
      have hbn : Below wr.heap.size wr (wr.alloc (.cells (encI Y).toArray 79)) := (Below.refl _ wr).alloc (Nat.le_refl _) _
      have HLK : Hid ((loadVar 79 ⟨wr.heap.size, 0, none⟩).run Tryz.prog (wr.alloc (.cells (encI Y).toArray 79)) = .ok (.agg (encI Y).toArray) (wr.alloc (.cells (encI Y).toArray 79))) := Lib.hid (load28 (row_range (heap_alloc_new wr _)))
      have HOW : Hid (∀ W, Below (wr.alloc (.cells (encI Y).toArray 79)).heap.size (wr.alloc (.cells (encI Y).toArray 79)) W → W.ownsRow w.heap.size 5 1 v4 (upR L k).length (bcells (upR L k)) ∧ Below w.heap.size w W ∧ w.heap.size ≤ W.heap.size) := Lib.hid (fun W hW => by
        have h1 := hbn.trans (hW.mono hbn.size)
        exact ⟨ho.kept (grown_of_bel h1 none) (by cases v4.ownBlock <;> simp), hbr.trans (h1.mono hbr.size), Nat.le_trans hbr.size h1.size⟩)
      have HOB : Hid (∀ q, v4.ownBlock = some q → w.heap.size ≤ q) := Lib.hid (fun q hq => (ho.lt q hq).1)
      have HSRC : Hid (∀ W v, IsB v (byI Y) W → Src Tryz.prog 1 31 v (byI Y).length (bcells (byI Y)) W) := Lib.hid (fun W v hi => by
        obtain ⟨A', c', rfl, _, hA'⟩ := hi
        exact hA'.src Tryz.underlying31 c')
      have HNX : Hid (∀ W A' c' w', Below (wr.alloc (.cells (encI Y).toArray 79)).heap.size (wr.alloc (.cells (encI Y).toArray 79)) W → w'.ownsRow w.heap.size 5 1 (.slice A' (upR L (k + 1)).length c') (upR L (k + 1)).length (bcells (upR L (k + 1))) → W.grownBy w' v4.ownBlock → ∃ (k' : Nat) (v : Value), Value.slice A' (upR L (k + 1)).length c' = v ∧ Value.int .i64 ((k : Int) + 1) = .int .i64 (k' : Int) ∧ k' ≤ n ∧ w'.ownsRow w.heap.size 5 1 v (upR L k').length (bcells (upR L k')) ∧ Below w.heap.size w w') := Lib.hid (fun W A' c' w' hW ho' hg' => by
        obtain ⟨_, q2, q3⟩ := HOW.out W hW
        exact ⟨k + 1, _, rfl, by simp, by omega, ho', below_ownB q2 q3 hg' HOB.out⟩)
      clear hY hld hup hul hbn ho hbr HLD HBY HUP
      go_wp2_with (first
        | ((with_reducible refine wpList_loadV (op := ⟨some 21, _, _, _, _, _⟩) rfl 79 (.tmp 20) rfl _ ?_ _ HLV.out ?_); rfl)
        | (with_reducible refine wpList_alloc28 (o := ⟨some 6, _, _, _, _, _⟩) wr.heap.size rfl rfl 6 rfl rfl ?_)
        | ((with_reducible refine wpList_store28n (o := ⟨none, _, _, _, _, _⟩) rfl (.tmp 6) (.tmp 21) rfl wr.heap.size rfl zeroI Y ?_ ?_ ?_); rfl; rfl)
        | ((with_reducible refine wpList_loadV (op := ⟨some 23, _, _, _, _, _⟩) rfl 79 (.tmp 6) rfl _ ?_ _ HLK.out ?_); rfl)
        | (go_at_call 80; (with_reducible refine (HB.out _).mono ?_); rintro e5 w5 ⟨v5, rfl, hi5, hb5⟩)
        | (at_builtin; (refine wpList_appN (o := ⟨some 29, _, _, _, _, _⟩) rfl 29 rfl (.tmp 27) (.tmp 28) rfl w.heap.size v4 (upR L k) ?_ (HOW.out _ hb5).1 v5 (byI Y) ?_ (HSRC.out _ _ hi5) HULk.out (HOW.out _ hb5).2.2 (upR L (k + 1)) (upR L (k + 1)).length HUPk.out rfl ?_); rfl; rfl; intro A6 c6 w6 ho6 hg6))
      go_roundw
      case rel => exact HNX.out _ _ _ _ hb5 ho6 hg6
      case measure => simp [RowKit.intOf]; omega
    · obtain rfl : k = n := by omega
      have hlt' : ¬ (k : Int) < (k : Int) := by omega
      have HI := Lib.hid (IsB.of_own ho)
      have HBR := Lib.hid hbr
      clear HLD HBY HUP ho hbr
      go_wp2
      go_ret2
      exact ⟨_, rfl, HI.out, HBR.out⟩
/-- Bytes of the program. -/
theorem rosbytes_any (A : Option Addr) (c : Nat) (L : List Ins) (w : World) (ht : ∀ y ∈ L, y.tgt.length ≤ 100000) (hA : IAt w w.heap.size A L) :
    Calls Tryz.prog 54 #[.slice A L.length c] w fun e w' => ∃ v, e = .returned (.tuple #[v, .int .i64 (errR L)]) ∧ IsB v (byR L) w' ∧ Below w.heap.size w w' := by
  cases hg : goodR L with
  | false => exact rbytes_bad A c L w ht hA hg
  | true => exact rbytes_good A c L w ht hA hg
end Go.Proofs.YtehgpnnfjgmiiaaGreat
end
section
namespace Go.Proofs.YtehgpnnfjgmiiaaGreat
open Go.Shelf Go.RowKit Go.Lib Go.Great
set_option maxRecDepth 100000
set_option maxHeartbeats 400000
end Go.Proofs.YtehgpnnfjgmiiaaGreat
end
section
namespace Go.Proofs.YtehgpnnfjgmiiaaGreat
open Go.Shelf Go.RowKit Go.Lib Go.Great
set_option maxRecDepth 100000
set_option maxHeartbeats 400000
theorem IAt.bel {M : List Ins} {A : Option Addr} {W W' : World} (h : IAt W W.heap.size A M) (hb : Below W.heap.size W W') : IAt W' W'.heap.size A M := (h.below hb).more hb.size
end Go.Proofs.YtehgpnnfjgmiiaaGreat
end
section
namespace Go.Proofs.YtehgpnnfjgmiiaaGreat
set_option maxRecDepth 100000
set_option linter.unusedVariables false
open Go.ChangeShapes Go.WideShapes Go.ChangeAt Go.RowKit

/-- The bytes of a row of numbers that fit a byte. -/
def bytesOf (zs : List Int) : List UInt8 := zs.map fun n => UInt8.ofNat n.toNat
section
variable {H : Type} {enc : TypeId × Value → H} {W : World} {base : Nat} {sp : Nat → Bool} {hd : Bool} {a : Option Addr} {len cap : Nat} {d : DataW H} {p : List MemPlace}
end
end Go.Proofs.YtehgpnnfjgmiiaaGreat
end
section
namespace Go.Proofs.YtehgpnnfjgmiiaaGreat
set_option maxRecDepth 100000
open Go.ChangeShapes Go.WideShapes Go.ChangeAt Go.RowKit Go.Deep
theorem wf_u8 {n : Int} (h : (Lit.int .u8 n).wf = true) : 0 ≤ n ∧ n ≤ 255 := by
  simp [Lit.wf, IntKind.min, IntKind.max, IntKind.bits, IntKind.signed] at h
  omega
theorem wf_u64 {n : Int} (h : (Lit.int .u64 n).wf = true) : 0 ≤ n ∧ n < 18446744073709551616 := by
  simp [Lit.wf, IntKind.min, IntKind.max, IntKind.bits, IntKind.signed] at h
  omega
theorem wf_u32 {n : Int} (h : (Lit.int .u32 n).wf = true) : 0 ≤ n ∧ n < 4294967296 := by
  simp [Lit.wf, IntKind.min, IntKind.max, IntKind.bits, IntKind.signed] at h
  omega
theorem wf_u16 {n : Int} (h : (Lit.int .u16 n).wf = true) : 0 ≤ n ∧ n < 65536 := by
  simp [Lit.wf, IntKind.min, IntKind.max, IntKind.bits, IntKind.signed] at h
  omega
section
variable {H : Type} {enc : TypeId × Value → H} {w : World} {base : Nat} {spare : Nat → Bool} {held : Bool}
theorem cells_bytes {fuel : Nat} {cs : List Value} {x : DataW H × List MemPlace} (h : DataW.trod enc Tryz.prog w base spare held fuel 24 cs = some x) : ∃ xs : List UInt8, xs.length = 20 ∧ cs = bcells xs := by
  have hu : Tryz.prog.underlying 24 = some (.array 20 5) := by kernel_rfl
  have hc5 : Tryz.prog.cellsOf 5 = 1 := by kernel_rfl
  have hc26 : Tryz.prog.cellsOf 24 = 20 := by kernel_rfl
  obtain ⟨ys, m, _, _, hl, hy, hi⟩ := DataW.trod_array hu h
  rw [hc26] at hl
  have hcell : ∀ i (hi20 : i < cs.length), ∃ n : Int, cs[i] = .int .u8 n ∧ 0 ≤ n ∧ n ≤ 255 := by
    intro i hi20
    have h1 := hi i (by omega)
    rw [hc5, Nat.mul_one] at h1
    rw [List.getElem?_eq_getElem (by omega)] at h1
    obtain ⟨n, he, _, hw⟩ := DataW.trod_int Tryz.underlying5 h1
    refine ⟨n, ?_, wf_u8 hw⟩
    rw [List.drop_eq_getElem_cons hi20, List.take_succ_cons, List.take_zero] at he
    injection he
  refine ⟨cs.map fun v => UInt8.ofNat (RowKit.intOf v).toNat, by simpa using hl, ?_⟩
  apply List.ext_getElem
  · simp [bcells]
  · intro i h1 h2
    obtain ⟨n, e, n0, n1⟩ := hcell i h1
    have e2 : (bcells (cs.map fun v => UInt8.ofNat (RowKit.intOf v).toNat))[i]'h2 = Value.int .u8 (((UInt8.ofNat (RowKit.intOf cs[i]).toNat).toNat : Nat) : Int) := by simp [bcells]
    rw [e2, e]
    have e3 : (UInt8.ofNat (RowKit.intOf (Value.int .u8 n)).toNat).toNat = n.toNat := by
      show (UInt8.ofNat n.toNat).toNat = n.toNat
      rw [UInt8.toNat_ofNat']
      omega
    rw [e3, Int.toNat_of_nonneg n0]
theorem one_cell {cs : List Value} {k : Nat} {v : Value} (h : (cs.drop k).take 1 = [v]) : cs[k]? = some v := by
  cases hd : cs.drop k with
  | nil => rw [hd] at h; simp at h
  | cons a r =>
    rw [hd] at h
    simp only [List.take_succ_cons, List.take_zero, List.cons.injEq, and_true] at h
    have := List.getElem?_drop (xs := cs) (i := k) (j := 0)
    rw [hd] at this
    simp only [List.getElem?_cons_zero, Nat.add_zero] at this
    rw [← this, h]
theorem cells_ins {fuel : Nat} {cs : List Value} {x : DataW H × List MemPlace} (h : DataW.trod enc Tryz.prog w base spare held fuel 79 cs = some x) : ∃ i : Ins, cs = encI i ∧ ∃ parts, x.1 = .agg parts ∧ parts[8]? = some (.lit (.string i.tgt)) := by
  have hu : Tryz.prog.underlying 79 = some (.struct #[⟨"Publisher", 24, 0, false, "", "", 0⟩, ⟨"Seq", 49, 20, false, "", "", 24⟩, ⟨"Born", 49, 21, false, "", "", 32⟩, ⟨"Life", 22, 22, false, "", "", 40⟩, ⟨"Gone", 4, 23, false, "", "", 44⟩, ⟨"Priority", 59, 24, false, "", "", 46⟩, ⟨"Weight", 59, 25, false, "", "", 48⟩, ⟨"Port", 59, 26, false, "", "", 50⟩, ⟨"Target", 9, 27, false, "", "", 56⟩]) := by kernel_rfl
  have c28 : Tryz.prog.cellsOf 79 = 28 := by kernel_rfl
  have c23 : Tryz.prog.cellsOf 24 = 20 := by kernel_rfl
  have c24 : Tryz.prog.cellsOf 49 = 1 := by kernel_rfl
  have c25 : Tryz.prog.cellsOf 22 = 1 := by kernel_rfl
  have c26 : Tryz.prog.cellsOf 59 = 1 := by kernel_rfl
  have c4 : Tryz.prog.cellsOf 4 = 1 := by kernel_rfl
  have c9 : Tryz.prog.cellsOf 9 = 1 := by kernel_rfl
  obtain ⟨ys, m, _, rfl, hl, hlen, hf⟩ := DataW.trod_struct hu h
  rw [c28] at hl
  have g : ∀ k (hk : k < 9), ∃ y, ys[k]? = some y := fun k hk => ⟨ys[k]'(by rw [hlen]; exact hk), List.getElem?_eq_getElem _⟩
  obtain ⟨y0, e0⟩ := g 0 (by omega)
  obtain ⟨y1, e1⟩ := g 1 (by omega)
  obtain ⟨y2, e2⟩ := g 2 (by omega)
  obtain ⟨y3, e3⟩ := g 3 (by omega)
  obtain ⟨y4, e4⟩ := g 4 (by omega)
  obtain ⟨y5, e5⟩ := g 5 (by omega)
  obtain ⟨y6, e6⟩ := g 6 (by omega)
  obtain ⟨y7, e7⟩ := g 7 (by omega)
  obtain ⟨y8, e8⟩ := g 8 (by omega)
  have t0 := (hf 0 ⟨"Publisher", 24, 0, false, "", "", 0⟩ rfl).trans e0
  have t1 := (hf 1 ⟨"Seq", 49, 20, false, "", "", 24⟩ rfl).trans e1
  have t2 := (hf 2 ⟨"Born", 49, 21, false, "", "", 32⟩ rfl).trans e2
  have t3 := (hf 3 ⟨"Life", 22, 22, false, "", "", 40⟩ rfl).trans e3
  have t4 := (hf 4 ⟨"Gone", 4, 23, false, "", "", 44⟩ rfl).trans e4
  have t5 := (hf 5 ⟨"Priority", 59, 24, false, "", "", 46⟩ rfl).trans e5
  have t6 := (hf 6 ⟨"Weight", 59, 25, false, "", "", 48⟩ rfl).trans e6
  have t7 := (hf 7 ⟨"Port", 59, 26, false, "", "", 50⟩ rfl).trans e7
  have t8 := (hf 8 ⟨"Target", 9, 27, false, "", "", 56⟩ rfl).trans e8
  simp only [c23, List.drop_zero] at t0
  simp only [c24] at t1 t2
  simp only [c25] at t3
  simp only [c4] at t4
  simp only [c26] at t5 t6 t7
  simp only [c9] at t8
  obtain ⟨xs, hx, q0⟩ := cells_bytes t0
  obtain ⟨n1, q1, _, w1⟩ := DataW.trod_int (k := .u64) (by kernel_rfl) t1
  obtain ⟨n2, q2, _, w2⟩ := DataW.trod_int (k := .u64) (by kernel_rfl) t2
  obtain ⟨n3, q3, _, w3⟩ := DataW.trod_int (k := .u32) (by kernel_rfl) t3
  obtain ⟨n4, q4, _⟩ := DataW.trod_bool (by kernel_rfl) t4
  obtain ⟨n5, q5, _, w5⟩ := DataW.trod_int (k := .u16) (by kernel_rfl) t5
  obtain ⟨n6, q6, _, w6⟩ := DataW.trod_int (k := .u16) (by kernel_rfl) t6
  obtain ⟨n7, q7, _, w7⟩ := DataW.trod_int (k := .u16) (by kernel_rfl) t7
  obtain ⟨n8, q8, r8, _⟩ := DataW.trod_string (by kernel_rfl) t8
  have v1 := wf_u64 w1
  have v2 := wf_u64 w2
  have v3 := wf_u32 w3
  have v5 := wf_u16 w5
  have v6 := wf_u16 w6
  have v7 := wf_u16 w7
  have p1 := one_cell q1
  have p2 := one_cell q2
  have p3 := one_cell q3
  have p4 := one_cell q4
  have p5 := one_cell q5
  have p6 := one_cell q6
  have p7 := one_cell q7
  have p8 := one_cell q8
  refine ⟨⟨xs, n1.toNat, n2.toNat, n3.toNat, n4, n5.toNat, n6.toNat, n7.toNat, n8.data.toList, hx, by omega, by omega, by omega, by omega, by omega, by omega⟩, ?_, ys.map (·.1), rfl, ?_⟩
  · have e1 : cs = cs.take 20 ++ cs.drop 20 := (List.take_append_drop 20 cs).symm
    rw [e1, q0]
    unfold encI
    congr 1
    have hb : (⟨n8.data.toList.toArray⟩ : ByteArray) = n8 := by simp
    have hb2 : bstr n8.data.toList = n8 := by unfold bstr; exact hb
    apply List.ext_getElem?
    intro k
    rw [List.getElem?_drop]
    unfold tailI
    simp only [Int.toNat_of_nonneg v1.1, Int.toNat_of_nonneg v2.1, Int.toNat_of_nonneg v3.1, Int.toNat_of_nonneg v5.1, Int.toNat_of_nonneg v6.1, Int.toNat_of_nonneg v7.1, hb2]
    match k with
    | 0 => exact p1
    | 1 => exact p2
    | 2 => exact p3
    | 3 => exact p4
    | 4 => exact p5
    | 5 => exact p6
    | 6 => exact p7
    | 7 => exact p8
    | k + 8 => rw [List.getElem?_eq_none (by rw [hl]; omega)]; rfl
  · rw [List.getElem?_map, e8]
    simp only [Option.map_some]
    rw [r8]
end
end Go.Proofs.YtehgpnnfjgmiiaaGreat
end
section
namespace Go.Proofs.YtehgpnnfjgmiiaaGreat
set_option maxRecDepth 100000
open Go.ChangeShapes Go.WideShapes Go.ChangeAt Go.RowKit Go.Deep
theorem addr_addI (b o i : Nat) : (⟨b, o, none⟩ : Addr).add i = ⟨b, o + i, none⟩ := by unfold Addr.add; split <;> simp_all
theorem und56 : Tryz.prog.underlying 26 = some (.slice 79) := by kernel_rfl
theorem open_inss {H : Type} {enc : TypeId × Value → H} {W : World} {base : Nat} {sp : Nat → Bool} {hd : Bool} {a : Option Addr} {len cap : Nat} {d : DataW H} {p : List MemPlace} (h : DataW.Trod enc Tryz.prog W base sp hd 26 (.slice a len cap) d p) :
    ∃ L : List Ins, L.length = len ∧ IAt W W.heap.size a L ∧ len ≤ cap ∧ len ≤ maxLen := by
  obtain ⟨fuel, hf⟩ := h
  have hc26 : Tryz.prog.cellsOf 79 = 28 := by kernel_rfl
  rcases open_slice und56 hf with ⟨hcs, _⟩ | ⟨x, l, c, m, n, D, Pl, hcs, _, hl, hm, hmm, hsp, hcell⟩
  · simp [Value.cells] at hcs
    obtain ⟨rfl, rfl, rfl⟩ := hcs
    exact ⟨[], rfl, .inl rfl, Nat.le_refl _, Nat.zero_le _⟩
  · simp [Value.cells] at hcs
    obtain ⟨rfl, rfl, rfl⟩ := hcs
    have hlm : len ≤ m := by rw [hmm]; split <;> omega
    obtain ⟨f, hf⟩ := choose_lt (α := Ins) (n := m) (p := fun i q => ∀ k, k < 28 → W.cell? ((x.add (i * 28)).add k) = (encI q)[k]?) (fun i hi => by
      obtain ⟨cs', c0, t0⟩ := hcell i hi
      rw [hc26] at c0
      obtain ⟨q, rfl, _⟩ := cells_ins t0
      exact ⟨q, (World.cells?_some c0).2.2⟩)
    refine ⟨(List.range len).map f, by simp, ?_, hl, Nat.le_trans hl hm⟩
    by_cases h0 : len = 0
    · left
      rw [h0]
      rfl
    · right
      have hget : ∀ i, i < len → ((List.range len).map f)[i]? = some (f i) := fun i hi => by simp [hi]
      obtain ⟨b, off, spot⟩ := x
      have hc0 : W.cell? (((⟨b, off, spot⟩ : Addr).add (0 * 28)).add 0) = some ((encI (f 0))[0]'(by rw [encI_length]; omega)) := by
        rw [hf 0 (by omega) 0 (by omega), List.getElem?_eq_getElem]
      have hspot : spot = none := by
        have := World.cell?_spot hc0
        simpa [Addr.add] using this
      subst hspot
      have e : ∀ i k, ((⟨b, off, none⟩ : Addr).add (i * 28)).add k = ⟨b, off + (i * 28 + k), none⟩ := fun i k => by rw [addr_addI, addr_addI, Nat.add_assoc]
      refine ⟨b, off, rfl, ?_, fun j v hv => ?_⟩
      · rw [e] at hc0
        exact World.block_lt_of_cell? W _ hc0
      · have hj : j < len * 28 := by
          have := (List.getElem?_eq_some_iff.1 hv).1
          rw [flatE_length encI_length] at this
          simpa using this
        have h1 := hf (j / 28) (by omega) (j % 28) (Nat.mod_lt _ (by omega))
        rw [e, show j / 28 * 28 + j % 28 = j by omega] at h1
        rw [h1]
        have h2 := flatE_get encI_length (by omega) ((List.range len).map f) (j / 28) _ (j % 28) (hget (j / 28) (by omega)) (Nat.mod_lt _ (by omega))
        rw [show j / 28 * 28 + j % 28 = j by omega, hv] at h2
        exact h2.symm
/-- A slice's address is none, or that of a row. -/
theorem okWide_spot {w : World} {r : Reach} {base : Nat} {t e : TypeId} {a : Option Addr} {len cap : Nat} (ht : Tryz.prog.underlying t = some (.slice e)) (h : Value.okWide Tryz.prog w r base t (.slice a len cap)) : a = none ∨ ∃ g off, a = some ⟨g, off, none⟩ := by
  cases a with
  | none => exact .inl rfl
  | some x =>
    simp only [Value.okWide, ht, Cell.okWide, Cell.ok, World.has] at h
    obtain ⟨g, off, spot⟩ := x
    obtain ⟨_, _, _, hs, _⟩ := h
    simp only at hs
    subst hs
    exact .inr ⟨g, off, rfl⟩
end Go.Proofs.YtehgpnnfjgmiiaaGreat
end
section
namespace Go.Proofs.YtehgpnnfjgmiiaaGreat
set_option maxRecDepth 100000
open Go.RowKit
set_option linter.unusedVariables false

def headA (A : Option Addr) (c : Nat) : Option Addr := if c = 0 then A else A.map (·.add 0)

theorem size5 (W : World) : (sizeOf (Tryz.prog.elem 31)).run Tryz.prog W = .ok 1 W := by
  obtain ⟨i0, hi, hz0, hz1, hz2⟩ := info_parts info5
  have : Tryz.prog.elem 31 = 5 := by kernel_rfl
  rw [this]
  simp [sizeOf, typeInfo, hi, hz1]
theorem under22Q : Tryz.prog.underlying 31 = some (.slice (Tryz.prog.elem 31)) := by kernel_rfl

theorem run_head (A : Option Addr) (n c k : Nat) (hk : k ≤ c) (W : World) :
    (Instr.slice 31 (.slice A n c) none (some (.int .i64 (k : Int))) none).run Tryz.prog W = .ok (.slice (headA A c) k c) W := by
  rw [run_slice_h W 31 A n c under22Q .i64 k (by omega) (by omega), size5]
  simp [Result.andThen, sliced, headA]

end Go.Proofs.YtehgpnnfjgmiiaaGreat
end
section
namespace Go.Proofs.YtehgpnnfjgmiiaaGreat
set_option maxRecDepth 100000
open Go.RowKit

section
variable {w w' : World} {B B' : Nat} {A : Option Addr} {xs : List UInt8}
end

theorem grownBy_of_below {a w : World} {B : Nat} (h : Below B a w) (hB : a.heap.size ≤ B) (row : Option Nat) : a.grownBy w row := ⟨h.os, h.tape, h.output, h.size, fun i hi _ => h.block i (by omega)⟩
theorem own_base {w : World} {base base' : Nat} {e : TypeId} {v : Value} {n size : Nat} {xs : List Value} (h : w.ownsRow base e size v n xs) (hb : base' ≤ base) : w.ownsRow base' e size v n xs := by
  refine ⟨h.1, ?_⟩
  rcases h.2 with hn | ⟨g, cap, cur, hv, hg, r⟩
  · exact .inl hn
  · exact .inr ⟨g, cap, cur, hv, by omega, r⟩

theorem slice_of_own {w : World} {base : Nat} {e : TypeId} {v : Value} {n : Nat} {xs : List Value} (h : w.ownsRow base e 1 v n xs) : ∃ A c, v = .slice A n c := by
  rcases h.2 with ⟨rfl, rfl⟩ | ⟨g, cap, cur, rfl, _⟩
  · exact ⟨_, _, rfl⟩
  · exact ⟨_, _, rfl⟩

theorem run_convert_own {P : Program} {w : World} {base : Nat} {v : Value} {n : Nat} {xs : List UInt8} (src dst e : TypeId) (hs : P.underlying src = some (.slice e)) (he : P.underlying e = some (.int .u8)) (hd : P.underlying dst = some .string)
    (h : w.ownsRow base e 1 v n (bcells xs)) : (convert src dst v).run P w = .ok (.string (bstr xs)) w := by
  have hn : n = xs.length := by have := h.1; rw [bcells_length] at this; omega
  subst hn
  obtain ⟨A, c, rfl⟩ := slice_of_own h
  exact run_convert_bat src dst e c hs he hd (BAt.of_own h (Nat.le_refl _))

end Go.Proofs.YtehgpnnfjgmiiaaGreat
end
section
namespace Go.Proofs.YtehgpnnfjgmiiaaGreat
set_option maxRecDepth 100000

/-- The same of any width: nothing where there is no such width. -/
def putI (N : Nat) (wd : Int) : List UInt8 := if 1 ≤ wd ∧ wd ≤ 8 then putB N wd.toNat else []

end Go.Proofs.YtehgpnnfjgmiiaaGreat
end
