/- Contracts of the references of Put and Text. Conditions: the bytes that come in are fewer than a million. Contracts of Get, Put and Text and of their references for whatever comes in, from a world of which what was there first is kept. Conditions: the bytes that come in are fewer than 900,000; places and widths are ints; a string is no longer than an int can say. A reader of package octet in memory, and contracts of the calls that read: Num, Take, Text, Left, Bad, Done. Conditions: the bytes that are left are fewer than 900,000. What a reader tells and what is left of it: plain definitions without a program. No condition. Contracts of the calls of a reader of package octet that was opened. Conditions: the bytes that are left are fewer than 900,000; a number that comes in is an int. Contracts of Take and Text of a reader of package octet that was opened, and of Open. Conditions: the bytes that are left are fewer than 900,000; a number that comes in is an int. -/
import Derived.Test.YtehgpnnfjgmiiaaGreatVOja
import Derived.Test.YtehgpnnfjgmiiaaGreatVObd
import Derived.Test.YtehgpnnfjgmiiaaGreatVIiv
import Derived.Test.YtehgpnnfjgmiiaaGreatVObc
import Derived.Test.YtehgpnnfjgmiiaaGreatProg
import Derived.RegionTactic
import Derived.RegionCalls
import Derived.WalkKit
import Derived.Deep.RegionHeld3
import Derived.Deep.QuietTactic
import Derived.BigQuiet
section
namespace Go.Proofs.YtehgpnnfjgmiiaaGreat
set_option maxRecDepth 100000
open Go.RowKit
set_option linter.unusedVariables false

end Go.Proofs.YtehgpnnfjgmiiaaGreat
end
section
namespace Go.Proofs.YtehgpnnfjgmiiaaGreat
set_option maxRecDepth 100000
open Go.RowKit
set_option linter.unusedVariables false

/-- What Get tells. -/
def getI (xs : List UInt8) (a wd : Int) : Nat × Bool := if 1 ≤ wd ∧ wd ≤ 8 ∧ 0 ≤ a ∧ a + wd ≤ xs.length then (getN ((xs.drop a.toNat).take wd.toNat), true) else (0, false)
theorem rget_any (A : Option Addr) (c : Nat) (xs : List UInt8) (a wd : Int) (w : World) (hx : BAt w w.heap.size A xs) (hl : xs.length ≤ 900000) (ha : a ≤ 9223372036854775807) (hw : wd ≤ 9223372036854775807) :
    Calls Tryz.prog 73 #[.slice A xs.length c, .int .i64 a, .int .i64 wd] w fun e w' => e = .returned (.tuple #[.int .u64 ((getI xs a wd).1 : Int), .bool (getI xs a wd).2]) ∧ w = w' := by
  by_cases h : 1 ≤ wd ∧ wd ≤ 8 ∧ 0 ≤ a ∧ a + wd ≤ xs.length
  · obtain ⟨k, rfl⟩ : ∃ k : Nat, wd = k := ⟨wd.toNat, by omega⟩
    obtain ⟨i, rfl⟩ : ∃ i : Nat, a = i := ⟨a.toNat, by omega⟩
    have := rget_yes A c xs i k w hx (by omega) (by omega) (by omega) (by omega)
    unfold getI
    rw [if_pos h]
    exact this
  · have := rget_no A c xs a wd w (by omega) ha hw h
    unfold getI
    rw [if_neg h]
    exact this

section
variable {w W : World} {A : Option Addr} {xs : List UInt8}
end

/-- A slice of bytes of the call's own, as a string. -/
theorem conv_own {w : World} {base n : Nat} {v : Value} {xs : List UInt8} (h : w.ownsRow base 5 1 v n (bcells xs)) : (convert 31 9 v).run Tryz.prog w = .ok (.string (bstr xs)) w :=
  run_convert_own 31 9 5 Tryz.underlying31 Tryz.underlying5 Tryz.underlying9 h

end Go.Proofs.YtehgpnnfjgmiiaaGreat
end
section
namespace Go.Proofs.YtehgpnnfjgmiiaaGreat
set_option maxRecDepth 100000
open Go.RowKit
set_option linter.unusedVariables false

/-- Where a slice lies from place k on, and up to a place. -/
def cutA (A : Option Addr) (c k : Nat) : Option Addr := if c = k then A else A.map (·.add k)
theorem addr_add (g off k : Nat) : (⟨g, off, none⟩ : Addr).add k = ⟨g, off + k, none⟩ := by
  unfold Addr.add
  split <;> simp_all

theorem BAt.cut {w : World} {B c k : Nat} {A : Option Addr} {ys : List UInt8} (h : BAt w B A ys) (hk : k ≤ ys.length) (hc : ys.length ≤ c) : BAt w B (cutA A c k) (ys.drop k) := by
  by_cases hn : ys.length = k
  · left
    exact List.drop_eq_nil_of_le (by omega)
  · obtain ⟨g, off, rfl, hg, hcell⟩ := h.some_ (by omega)
    right
    refine ⟨g, off + k, by unfold cutA; rw [if_neg (by omega), Option.map_some, addr_add], hg, fun j hj => ?_⟩
    rw [List.length_drop] at hj
    rw [Nat.add_assoc, hcell (k + j) (by omega), List.getElem_drop]
theorem BAt.head {w : World} {B c k : Nat} {A : Option Addr} {ys : List UInt8} (h : BAt w B A ys) (hc : ys.length ≤ c) : BAt w B (headA A c) (ys.take k) := by
  by_cases hn : (ys.take k).length = 0
  · left
    exact List.eq_nil_of_length_eq_zero hn
  · rw [List.length_take] at hn
    obtain ⟨g, off, rfl, hg, hcell⟩ := h.some_ (by omega)
    right
    refine ⟨g, off, by unfold headA; rw [if_neg (by omega), Option.map_some, addr_add, Nat.add_zero], hg, fun j hj => ?_⟩
    rw [List.length_take] at hj
    rw [hcell j (by omega), List.getElem_take]

theorem run_cut (A : Option Addr) (n c k : Nat) (hk : k ≤ n) (W : World) :
    (Instr.slice 31 (.slice A n c) (some (.int .i64 (k : Int))) none none).run Tryz.prog W = .ok (.slice (cutA A c k) (n - k) (c - k)) W := by
  rw [run_slice_l W 31 A n c under22Q .i64 k (by omega) (by omega), size5]
  simp [Result.andThen, sliced, cutA]
/-- A reader in block g: the bytes that are left, and whether it is bad. -/
def Rdr (w : World) (g : Nat) (ys : List UInt8) (bad : Bool) : Prop :=
  ∃ A c, w.heap[g]? = some (.cells #[.slice A ys.length c, .bool true, .bool bad] 100 (0, 0)) ∧ BAt w w.heap.size A ys ∧ ys.length ≤ c

theorem rest_left (g n c : Nat) (A : Option Addr) (w : World) (h0 : w.cell? ⟨g, 0, none⟩ = some (.slice A n c)) : Calls Tryz.prog 72 #[.pointer (some ⟨g, 0, none⟩)] w fun e w' => e = .returned (.int .i64 (n : Int)) ∧ w = w' := by
  go_enter Tryz.func72, Tryz.ntmps72
  go_wp2
  go_ret
  exact ⟨rfl, rfl⟩

theorem fail_any (g : Nat) (a b c : Value) (w : World) (h : w.heap[g]? = some (.cells #[a, b, c] 100 (0, 0))) : Calls Tryz.prog 66 #[.pointer (some ⟨g, 0, none⟩)] w fun e w' => e = .returned (.tuple #[]) ∧ Rdr w' g [] true ∧ w.grownBy w' (some g) := by
  have c0 := cell_of_row w g 0 _ 100 (0, 0) h
  have c1 := cell_of_row w g 1 _ 100 (0, 0) h
  have c2 := cell_of_row w g 2 _ 100 (0, 0) h
  have f := fun i => frozen_of_row w g i _ 100 h
  simp at c0 c1 c2
  have H := Lib.hid h
  clear h
  go_enter Tryz.func66, Tryz.ntmps66
  go_wp2
  go_end0
  have s0 := heap_setCell_same w g 0 _ 100 (.slice none 0 0) H.out
  have s1 := heap_setCell_same _ g 1 _ 100 (.bool true) s0
  have s2 := heap_setCell_same _ g 2 _ 100 (.bool true) s1
  refine ⟨rfl, ⟨none, 0, by simpa using s2, .inl rfl, Nat.le_refl _⟩, ?_⟩
  exact grownBy_setCell (grownBy_setCell (grownBy_setCell (World.grownBy.refl w _) _ _) _ _) _ _

/-- What lies in bytes lies in no block of a reader. -/
theorem BAt.ne {w : World} {B g : Nat} {A : Option Addr} {ys : List UInt8} {a b c : Value} {t : TypeId} (h : BAt w B A ys) (hg : w.heap[g]? = some (.cells #[a, b, c] t (0, 0)))
    (ha : ∀ n, a ≠ .int .u8 n) (hb : ∀ n, b ≠ .int .u8 n) (hc : ∀ n, c ≠ .int .u8 n) : ∀ g' off, A = some ⟨g', off, none⟩ → ys ≠ [] → g' ≠ g := by
  rintro g' off rfl hy rfl
  obtain ⟨g2, off2, he, _, hcell⟩ := h.some_ (List.length_pos_iff.2 hy)
  injection he with he
  injection he with h1 h2
  subst h1 h2
  have hp : 0 < ys.length := List.length_pos_iff.2 hy
  have := hcell 0 hp
  rw [cell_of_row w g' _ _ t (0, 0) hg, Nat.add_zero] at this
  match off, this with
  | 0, this => simp at this; exact ha _ this
  | 1, this => simp at this; exact hb _ this
  | 2, this => simp at this; exact hc _ this
  | n + 3, this => simp at this
/-- The reader behind a cut. -/
theorem rdr_cut {w : World} {g c k : Nat} {A : Option Addr} {ys : List UInt8} {bad : Bool} (h : w.heap[g]? = some (.cells #[.slice A ys.length c, .bool true, .bool bad] 100 (0, 0))) (hx : BAt w w.heap.size A ys) (hc : ys.length ≤ c) (hk : k ≤ ys.length) :
    Rdr (w.setCell ⟨g, 0, none⟩ (.slice (cutA A c k) (ys.length - k) (c - k))) g (ys.drop k) bad := by
  refine ⟨cutA A c k, c - k, ?_, ?_, by rw [List.length_drop]; omega⟩
  · have s0 := heap_setCell_same w g 0 _ 100 (.slice (cutA A c k) (ys.length - k) (c - k)) h
    rw [List.length_drop]
    simpa using s0
  · have hx' : BAt w w.heap.size (cutA A c k) (ys.drop k) := hx.cut hk hc
    have := hx'.set (j := 0) (.slice (cutA A c k) (ys.length - k) (c - k)) (hx'.ne h (by simp) (by simp) (by simp))
    simpa [World.setCell] using this

theorem number_no (g c : Nat) (A : Option Addr) (ys : List UInt8) (wd : Int) (w : World) (h0 : w.cell? ⟨g, 0, none⟩ = some (.slice A ys.length c)) (hl : ys.length ≤ 900000) (hw : wd ≤ 9223372036854775807) (hn : ¬ (1 ≤ wd ∧ wd ≤ 8 ∧ wd ≤ ys.length)) :
    Calls Tryz.prog 65 #[.pointer (some ⟨g, 0, none⟩), .int .i64 wd] w fun e w' => e = .returned (.tuple #[.int .u64 0, .bool false]) ∧ w = w' := by
  have hG := get_no A c ys 0 wd w (by omega) (by omega) hw (by omega)
  have HG := Lib.hid hG
  clear hG hn
  go_enter Tryz.func65, Tryz.ntmps65
  go_wp2_with (go_at_call 89; refine (HG.out).mono ?_; rintro e w1 ⟨rfl, rfl⟩)
  go_ret2
  exact ⟨rfl, rfl⟩

theorem number_yes (g c k : Nat) (A : Option Addr) (ys : List UInt8) (w : World) (h0 : w.cell? ⟨g, 0, none⟩ = some (.slice A ys.length c)) (f0 : w.frozen? ⟨g, 0, none⟩ = false) (hx : BAt w w.heap.size A ys) (hl : ys.length ≤ 900000) (h1 : 1 ≤ k) (h8 : k ≤ 8) (hk : k ≤ ys.length) :
    Calls Tryz.prog 65 #[.pointer (some ⟨g, 0, none⟩), .int .i64 (k : Int)] w fun e w' => e = .returned (.tuple #[.int .u64 (getN (ys.take k) : Int), .bool true]) ∧ w.setCell ⟨g, 0, none⟩ (.slice (cutA A c k) (ys.length - k) (c - k)) = w' := by
  have hG : Calls Tryz.prog 89 #[.slice A ys.length c, .int .i64 0, .int .i64 (k : Int)] w fun e w' => e = .returned (.tuple #[.int .u64 (getN (ys.take k) : Int), .bool true]) ∧ w = w' := by
    simpa using get_yes A c ys 0 k w hx (by omega) h1 h8 (by omega)
  have HG := Lib.hid hG
  have hcut := fun W => run_cut A ys.length c k hk W
  clear hG hx
  go_enter Tryz.func65, Tryz.ntmps65
  go_wp2_with (go_at_call 89; refine (HG.out).mono ?_; rintro e w1 ⟨rfl, rfl⟩)
  go_ret2
  exact ⟨rfl, rfl⟩

theorem cut_no (g c : Nat) (A : Option Addr) (n : Nat) (k : Int) (w : World) (h0 : w.cell? ⟨g, 0, none⟩ = some (.slice A n c)) (hl : n ≤ 900000) (hn : ¬ (0 ≤ k ∧ k ≤ n)) :
    Calls Tryz.prog 90 #[.pointer (some ⟨g, 0, none⟩), .int .i64 k] w fun e w' => e = .returned (.tuple #[.slice none 0 0, .bool false]) ∧ w = w' := by
  by_cases h : k < 0
  · clear hn
    go_enter Tryz.func90, Tryz.ntmps90
    go_wp2
    go_ret2
    exact ⟨rfl, rfl⟩
  · have h2 : (n : Int) < k := by omega
    clear hn
    go_enter Tryz.func90, Tryz.ntmps90
    go_wp2_with (go_at_call 72; refine (rest_left g n c A w h0).mono ?_; rintro e w1 ⟨rfl, rfl⟩)
    go_ret2
    exact ⟨rfl, rfl⟩

theorem cut_yes (g c n k : Nat) (A : Option Addr) (w : World) (h0 : w.cell? ⟨g, 0, none⟩ = some (.slice A n c)) (f0 : w.frozen? ⟨g, 0, none⟩ = false) (hl : n ≤ 900000) (hc : n ≤ c) (hk : k ≤ n) :
    Calls Tryz.prog 90 #[.pointer (some ⟨g, 0, none⟩), .int .i64 (k : Int)] w fun e w' => e = .returned (.tuple #[.slice (headA A c) k c, .bool true]) ∧ w.setCell ⟨g, 0, none⟩ (.slice (cutA A c k) (n - k) (c - k)) = w' := by
  have hcut := fun W => run_cut A n c k hk W
  have hhead := fun W => run_head A n c k (by omega) W
  go_enter Tryz.func90, Tryz.ntmps90
  go_wp2_with (go_at_call 72; refine (rest_left g n c A w h0).mono ?_; rintro e w1 ⟨rfl, rfl⟩)
  go_ret2
  exact ⟨rfl, rfl⟩

end Go.Proofs.YtehgpnnfjgmiiaaGreat
end
section
namespace Go.Proofs.YtehgpnnfjgmiiaaGreat
set_option maxRecDepth 100000

def numOk (s : St) (wd : Int) : Prop := s.bad = false ∧ 1 ≤ wd ∧ wd ≤ 8 ∧ wd ≤ s.ys.length
instance (s : St) (wd : Int) : Decidable (numOk s wd) := by unfold numOk; exact inferInstance
def numV (s : St) (wd : Int) : Nat := if numOk s wd then getN (s.ys.take wd.toNat) else 0
def numS (s : St) (wd : Int) : St := if numOk s wd then ⟨s.ys.drop wd.toNat, false⟩ else ⟨[], true⟩

def takeV (s : St) (n : Int) : List UInt8 := if takeOk s n then s.ys.take n.toNat else []
def txtOk (s : St) (most : Int) : Prop := s.bad = false ∧ 2 ≤ s.ys.length ∧ (getN (s.ys.take 2) : Int) ≤ most ∧ getN (s.ys.take 2) ≤ 1024 ∧ getN (s.ys.take 2) + 2 ≤ s.ys.length
instance (s : St) (n : Int) : Decidable (txtOk s n) := by unfold txtOk; exact inferInstance
def txtV (s : St) (most : Int) : List UInt8 := if txtOk s most then (s.ys.drop 2).take (getN (s.ys.take 2)) else []
def txtS (s : St) (most : Int) : St := if txtOk s most then ⟨(s.ys.drop 2).drop (getN (s.ys.take 2)), false⟩ else ⟨[], true⟩

end Go.Proofs.YtehgpnnfjgmiiaaGreat
end
section
namespace Go.Proofs.YtehgpnnfjgmiiaaGreat
set_option maxRecDepth 100000
open Go.RowKit
set_option linter.unusedVariables false

/-- A reader in block g that is as s says. -/
def RdrS (w : World) (g : Nat) (s : St) : Prop := Rdr w g s.ys s.bad ∧ (s.bad = true → s.ys = []) ∧ s.ys.length ≤ 900000

theorem isOpen_yes (g : Nat) (w : World) (h1 : w.cell? ⟨g, 1, none⟩ = some (.bool true)) : Calls Tryz.prog 71 #[.pointer (some ⟨g, 0, none⟩)] w fun e w' => e = .returned (.bool true) ∧ w = w' := by
  go_enter Tryz.func71, Tryz.ntmps71
  go_wp2
  go_ret
  exact ⟨rfl, rfl⟩

section
variable {w : World} {g : Nat} {s : St}
theorem RdrS.cells (h : RdrS w g s) : ∃ A c, w.heap[g]? = some (.cells #[.slice A s.ys.length c, .bool true, .bool s.bad] 100 (0, 0)) ∧ BAt w w.heap.size A s.ys ∧ s.ys.length ≤ c ∧
    w.cell? ⟨g, 0, none⟩ = some (.slice A s.ys.length c) ∧ w.cell? ⟨g, 1, none⟩ = some (.bool true) ∧ w.cell? ⟨g, 2, none⟩ = some (.bool s.bad) ∧ (∀ i, w.frozen? ⟨g, i, none⟩ = false) := by
  obtain ⟨⟨A, c, h, hx, hc⟩, _⟩ := h
  have c0 := cell_of_row w g 0 _ 100 (0, 0) h
  have c1 := cell_of_row w g 1 _ 100 (0, 0) h
  have c2 := cell_of_row w g 2 _ 100 (0, 0) h
  simp at c0 c1 c2
  exact ⟨A, c, h, hx, hc, c0, c1, c2, fun i => frozen_of_row w g i _ 100 h⟩

theorem bad_any (h : RdrS w g s) : Calls Tryz.prog 64 #[.pointer (some ⟨g, 0, none⟩)] w fun e w' => e = .returned (.bool s.bad) ∧ w = w' := by
  obtain ⟨A, c, hh, hx, hc, c0, c1, c2, hf⟩ := h.cells
  have HI := Lib.hid (isOpen_yes g w c1)
  clear hh hx h
  go_enter Tryz.func64, Tryz.ntmps64
  go_wp2_with (go_at_call 71; refine (HI.out).mono ?_; rintro e w1 ⟨rfl, rfl⟩)
  go_ret
  exact ⟨rfl, rfl⟩

theorem RdrS.failed (h : Rdr w g [] true) : RdrS w g ⟨[], true⟩ := ⟨h, fun _ => rfl, by simp⟩
theorem RdrS.eta (h : RdrS w g s) (hb : s.bad = true) : RdrS w g ⟨[], true⟩ := by
  obtain ⟨h1, h2, h3⟩ := h
  have := h2 hb
  rw [this, hb] at h1
  exact RdrS.failed h1

/-- What a call of a reader leaves. -/
def NumP (w : World) (g : Nat) (s : St) (wd : Int) (e : Ending) (w' : World) : Prop := e = .returned (.int .u64 (numV s wd : Int)) ∧ RdrS w' g (numS s wd) ∧ w.grownBy w' (some g)

theorem num_any (h : RdrS w g s) (wd : Int) (hw : wd ≤ 9223372036854775807) : Calls Tryz.prog 40 #[.pointer (some ⟨g, 0, none⟩), .int .i64 wd] w (NumP w g s wd) := by
  obtain ⟨A, c, hh, hx, hc, c0, c1, c2, hf⟩ := h.cells
  have hlen := h.2.2
  have HB := Lib.hid (bad_any h)
  by_cases hb : s.bad = true
  · have hno : ¬ numOk s wd := fun hk => hb.symm.trans hk.1 |> fun h => by cases h
    have R : NumP w g s wd (.returned (.int .u64 0)) w := ⟨by simp [numV, hno], by simp only [numS, if_neg hno]; exact h.eta hb, World.grownBy.refl w _⟩
    have HR := Lib.hid R
    rw [hb] at HB
    clear hh hx h R hb hno
    go_enter Tryz.func40, Tryz.ntmps40
    go_wp2_with (go_at_call 64; refine (HB.out).mono ?_; rintro e w1 ⟨rfl, rfl⟩)
    go_ret
    exact HR.out
  · have hb' : s.bad = false := by simpa using hb
    rw [hb'] at HB
    by_cases hk : 1 ≤ wd ∧ wd ≤ 8 ∧ wd ≤ s.ys.length
    · obtain ⟨k, rfl⟩ : ∃ k : Nat, wd = k := ⟨wd.toNat, by omega⟩
      have hok : numOk s (k : Int) := ⟨hb', hk⟩
      have HN := Lib.hid (number_yes g c k A s.ys w c0 (hf 0) hx hlen (by omega) (by omega) (by omega))
      have R : NumP w g s k (.returned (.int .u64 (getN (s.ys.take k) : Int))) (w.setCell ⟨g, 0, none⟩ (.slice (cutA A c k) (s.ys.length - k) (c - k))) := by
        refine ⟨by simp [numV, hok], ?_, grownBy_setCell (World.grownBy.refl w _) _ _⟩
        simp only [numS, if_pos hok, Int.toNat_natCast]
        rw [hb'] at hh
        exact ⟨rdr_cut hh hx hc (by omega), by simp, by simp only [List.length_drop]; omega⟩
      have HR := Lib.hid R
      clear hh hx h R hb hb' hok
      go_enter Tryz.func40, Tryz.ntmps40
      go_wp2_with (first
        | (go_at_call 64; refine (HB.out).mono ?_; rintro e w1 ⟨rfl, rfl⟩)
        | (go_at_call 65; refine (HN.out).mono ?_; rintro e w1 ⟨rfl, rfl⟩))
      go_ret
      exact HR.out
    · have hno : ¬ numOk s wd := fun h' => hk h'.2
      have HN := Lib.hid (number_no g c A s.ys wd w c0 hlen hw hk)
      have HF := Lib.hid (fail_any g _ _ _ w hh)
      have R : ∀ w', Rdr w' g [] true ∧ w.grownBy w' (some g) → NumP w g s wd (.returned (.int .u64 0)) w' := fun w' hw' => ⟨by simp [numV, hno], by simp only [numS, if_neg hno]; exact RdrS.failed hw'.1, hw'.2⟩
      have HR := Lib.hid R
      clear hh hx h R hb hb' hno hk
      go_enter Tryz.func40, Tryz.ntmps40
      go_wp2_with (first
        | (go_at_call 64; refine (HB.out).mono ?_; rintro e w1 ⟨rfl, rfl⟩)
        | (go_at_call 65; refine (HN.out).mono ?_; rintro e w1 ⟨rfl, rfl⟩)
        | (go_at_call 66; refine (HF.out).mono ?_; rintro e w1 ⟨rfl, hr1⟩))
      go_ret
      exact HR.out _ hr1
end
end Go.Proofs.YtehgpnnfjgmiiaaGreat
end
section
namespace Go.Proofs.YtehgpnnfjgmiiaaGreat
set_option maxRecDepth 100000
open Go.RowKit
set_option linter.unusedVariables false

theorem clone_len (A : Option Addr) (n c : Nat) (xs : List UInt8) (w : World) (hx : BAt w w.heap.size A xs) (hl : xs.length ≤ 1000000) (hn : xs.length = n) :
    Calls Tryz.prog 50 #[.slice A n c] w (OwnB w xs) := by
  subst hn
  exact clone_any A c xs w hx hl

section
variable {w w' : World} {g : Nat} {s : St}
theorem RdrS.keep (h : RdrS w g s) (hg : w'.heap[g]? = w.heap[g]?) (hs : w.heap.size ≤ w'.heap.size) (hx : ∀ A, BAt w w.heap.size A s.ys → BAt w' w.heap.size A s.ys) : RdrS w' g s := by
  obtain ⟨⟨A, c, h1, h2, h3⟩, h4⟩ := h
  exact ⟨⟨A, c, hg.trans h1, (hx A h2).more hs, h3⟩, h4⟩
theorem RdrS.lt (h : RdrS w g s) : g < w.heap.size := by
  obtain ⟨⟨A, c, h1, h2, h3⟩, h4⟩ := h
  exact (Array.getElem?_eq_some_iff.1 h1).1
theorem RdrS.below {B : Nat} (h : RdrS w g s) (hb : Below B w w') (hB : w.heap.size ≤ B) : RdrS w' g s :=
  h.keep (hb.block g (Nat.lt_of_lt_of_le h.lt hB)) hb.size fun A hx => hx.below (hb.mono hB)
theorem grownBy_trans {a b c : World} {row : Option Nat} (h : a.grownBy b row) (k : b.grownBy c row) : a.grownBy c row :=
  ⟨k.os.trans h.os, k.tape.trans h.tape, k.output.trans h.output, Nat.le_trans h.size k.size, fun i hi hn => (k.block i (Nat.lt_of_lt_of_le hi h.size) hn).trans (h.block i hi hn)⟩

/-- What Take leaves. -/
def TakeP (w : World) (g : Nat) (s : St) (n : Int) (e : Ending) (w' : World) : Prop :=
  ∃ v, e = .returned v ∧ w'.ownsRow w.heap.size 5 1 v (takeV s n).length (bcells (takeV s n)) ∧ RdrS w' g (takeS s n) ∧ w.grownBy w' (some g)

theorem take_any (h : RdrS w g s) (n : Int) (hw : n ≤ 9223372036854775807) : Calls Tryz.prog 67 #[.pointer (some ⟨g, 0, none⟩), .int .i64 n] w (TakeP w g s n) := by
  obtain ⟨A, c, hh, hx, hc, c0, c1, c2, hf⟩ := h.cells
  have hlen := h.2.2
  have HB := Lib.hid (bad_any h)
  by_cases hb : s.bad = true
  · have hno : ¬ takeOk s n := fun hk => hb.symm.trans hk.1 |> fun h => by cases h
    have R : TakeP w g s n (.returned (.slice none 0 0)) w := ⟨_, rfl, by simp only [takeV, if_neg hno]; exact World.ownsRow_nil _ _ _ _, by simp only [takeS, if_neg hno]; exact h.eta hb, World.grownBy.refl w _⟩
    have HR := Lib.hid R
    rw [hb] at HB
    clear hh hx h R hb hno
    go_enter Tryz.func67, Tryz.ntmps67
    go_wp2_with (go_at_call 64; refine (HB.out).mono ?_; rintro e w1 ⟨rfl, rfl⟩)
    go_ret
    exact HR.out
  · have hb' : s.bad = false := by simpa using hb
    rw [hb'] at HB
    by_cases hk : 0 ≤ n ∧ n ≤ s.ys.length
    · obtain ⟨k, rfl⟩ : ∃ k : Nat, n = k := ⟨n.toNat, by omega⟩
      have hok : takeOk s (k : Int) := ⟨hb', hk⟩
      have HN := Lib.hid (cut_yes g c s.ys.length k A w c0 (hf 0) hlen hc (by omega))
      have hhd : BAt w w.heap.size (headA A c) (s.ys.take k) := hx.head hc
      have hx1 : BAt (w.setCell ⟨g, 0, none⟩ (.slice (cutA A c k) (s.ys.length - k) (c - k))) (w.setCell ⟨g, 0, none⟩ (.slice (cutA A c k) (s.ys.length - k) (c - k))).heap.size (headA A c) (s.ys.take k) := by
        have := hhd.set (j := 0) (.slice (cutA A c k) (s.ys.length - k) (c - k)) (hhd.ne hh (by simp) (by simp) (by simp))
        simpa [World.setCell] using this
      have HC := Lib.hid (clone_len (headA A c) k c (s.ys.take k) _ hx1 (by rw [List.length_take]; omega) (by rw [List.length_take]; omega))
      have R : ∀ e w', OwnB (w.setCell ⟨g, 0, none⟩ (.slice (cutA A c k) (s.ys.length - k) (c - k))) (s.ys.take k) e w' → TakeP w g s k e w' := by
        rintro e w' ⟨v, he, ho, hbl⟩
        have e1 : (w.setCell ⟨g, 0, none⟩ (.slice (cutA A c k) (s.ys.length - k) (c - k))).heap.size = w.heap.size := by simp [World.setCell]
        refine ⟨v, he, ?_, ?_, grownBy_trans (grownBy_setCell (World.grownBy.refl w _) 0 _) (grownBy_of_below hbl (Nat.le_refl _) _)⟩
        · simp only [takeV, if_pos hok, Int.toNat_natCast]
          rw [e1] at ho
          exact ho
        · simp only [takeS, if_pos hok, Int.toNat_natCast]
          rw [hb'] at hh
          have h1 : RdrS (w.setCell ⟨g, 0, none⟩ (.slice (cutA A c k) (s.ys.length - k) (c - k))) g ⟨s.ys.drop k, false⟩ := ⟨rdr_cut hh hx hc (by omega), by simp, by simp only [List.length_drop]; omega⟩
          exact h1.below hbl (Nat.le_refl _)
      have HR := Lib.hid R
      clear hh hx h R hb hb' hok hhd hx1
      go_enter Tryz.func67, Tryz.ntmps67
      go_wp2_with (first
        | (go_at_call 64; refine (HB.out).mono ?_; rintro e w1 ⟨rfl, rfl⟩)
        | (go_at_call 90; refine (HN.out).mono ?_; rintro e w1 ⟨rfl, rfl⟩)
        | (go_at_call 50; refine (HC.out).mono ?_; rintro e w1 ⟨v1, rfl, ho1, hb1⟩))
      go_ret
      exact HR.out _ _ ⟨v1, rfl, ho1, hb1⟩
    · have hno : ¬ takeOk s n := fun h' => hk h'.2
      have HN := Lib.hid (cut_no g c A s.ys.length n w c0 hlen hk)
      have HF := Lib.hid (fail_any g _ _ _ w hh)
      have HC := Lib.hid (fun W => clone_len none 0 0 [] W (.inl rfl) (by simp) rfl)
      have R : ∀ w1, Rdr w1 g [] true → w.grownBy w1 (some g) → ∀ e w', OwnB w1 [] e w' → TakeP w g s n e w' := by
        rintro w1 h1 h2 e w' ⟨v, he, ho, hbl⟩
        refine ⟨v, he, by simp only [takeV, if_neg hno]; exact own_base ho h2.size, by simp only [takeS, if_neg hno]; exact (RdrS.failed h1).below hbl (Nat.le_refl _), grownBy_trans h2 (grownBy_of_below hbl (Nat.le_refl _) _)⟩
      have HR := Lib.hid R
      clear hh hx h R hb hb' hno hk
      go_enter Tryz.func67, Tryz.ntmps67
      go_wp2_with (first
        | (go_at_call 64; refine (HB.out).mono ?_; rintro e w1 ⟨rfl, rfl⟩)
        | (go_at_call 90; refine (HN.out).mono ?_; rintro e w1 ⟨rfl, rfl⟩)
        | (go_at_call 66; refine (HF.out).mono ?_; rintro e w1 ⟨rfl, hr1, hg1⟩)
        | (go_at_call 50; refine (HC.out _).mono ?_; rintro e w2 ⟨v1, rfl, ho1, hb1⟩))
      go_ret
      exact HR.out _ hr1 hg1 _ _ ⟨v1, rfl, ho1, hb1⟩

/-- Open. -/
theorem open_any (A : Option Addr) (c : Nat) (xs : List UInt8) (w : World) (hx : BAt w w.heap.size A xs) (hl : xs.length ≤ 900000) :
    Calls Tryz.prog 39 #[.slice A xs.length c] w fun e w' => ∃ g, e = .returned (.pointer (some ⟨g, 0, none⟩)) ∧ w.heap.size ≤ g ∧ RdrS w' g ⟨xs, false⟩ ∧ Below w.heap.size w w' := by
  have hC : Calls Tryz.prog 50 #[.slice A xs.length c] w fun e w' => ∃ A1 c1, e = .returned (.slice A1 xs.length c1) ∧ w'.ownsRow w.heap.size 5 1 (.slice A1 xs.length c1) xs.length (bcells xs) ∧ Below w.heap.size w w' :=
    (clone_any A c xs w hx (by omega)).mono fun e w' ⟨v, he, ho, hb⟩ => by
      obtain ⟨A1, c1, rfl⟩ := slice_of_own ho
      exact ⟨A1, c1, he, ho, hb⟩
  have HC := Lib.hid hC
  clear hx hC
  go_enter Tryz.func39, Tryz.ntmps39
  go_wp2_with (go_at_call 50; refine (HC.out).mono ?_; rintro e w1 ⟨A1, c1, rfl, ho1, hb1⟩)
  go_ret
  refine ⟨_, rfl, hb1.size, ⟨⟨A1, c1, heap_alloc_new w1 _, ?_, ?_⟩, by simp, hl⟩, hb1.alloc hb1.size _⟩
  · have := BAt.of_own ho1 (Nat.le_refl _)
    exact (this.below ((Below.refl _ w1).alloc (Nat.le_refl _) _)).more (by simp)
  · rcases ho1.2 with ⟨h, h'⟩ | ⟨g, cap, cur, h, _, _, h', _⟩
    · simp only [Value.slice.injEq] at h
      have : xs.length = 0 := h'
      show xs.length ≤ c1
      omega
    · simp only [Value.slice.injEq] at h
      show xs.length ≤ c1
      omega

end
end Go.Proofs.YtehgpnnfjgmiiaaGreat
end
