/- Contracts of draw's source (the program): isMade, Left, Byte. Conditions: the bytes are at most 900,000. DERIVED: THE SHELF's CONTRACTS AT THIS DUMP, IN PLAIN WORDS (tools/lay-plain.mjs out of 'TryShelf.lean', which tools/lay-shelf.mjs wrote): THE SAME DECLARATIONS UNDER THE SAME NAMES: 'import', 'namespace', 'open', 'def', 'theorem' AND NOTHING ELSE: no command of the shelf's: FOR A HAND-IN. Each laying: the table of numbers ('.._ren') and one theorem, a field a fact of the dump's own or the kernel's comparison; each contract: ONE APPLICATION. -/
import Derived.Test.YtbfhfnbhfeedbaaXPDre
import Derived.Shelf.Small.Bits
import Derived.Shelf.Strconv.Itoa0
import Derived.Shelf.Slices.Delete
import Derived.Shelf.SlicesE.Delete
import Derived.Shelf.SlicesE.Clone
import Derived.Test.YtbfhfnbhfeedbaaProg
section
namespace Go.Proofs.Ytbfhfnbhfeedbaa
set_option maxRecDepth 100000
set_option maxHeartbeats 1000000
open Go.RowKit Go.Lib Go.Great

/-- The bytes xs lie behind the slice v, in a block of its own, go. -/
def OwnT (w : World) (v : Value) (go : Option Nat) (xs : List UInt8) : Prop :=
  xs.length ≤ 900000 ∧ ((v = .slice none 0 0 ∧ go = none ∧ xs = []) ∨ ∃ g off cap cur, v = .slice (some ⟨g, off, none⟩) xs.length cap ∧ go = some g ∧ w.heap[g]? = some (.cells cur 5 (0, 0)) ∧ xs.length ≤ cap ∧ cap ≤ maxLen ∧ off + cap ≤ cur.size ∧ ∀ j (_ : j < xs.length), cur[off + j]? = some (.int .u8 (xs[j].toNat : Int)))
/-- A source that New made, in block h. -/
def DMade (w : World) (h : Nat) (go : Option Nat) (xs : List UInt8) : Prop := ∃ v, w.heap[h]? = some (.cells #[.bool true, v] 51 (0, 0)) ∧ OwnT w v go xs ∧ go ≠ some h
/-- A source: none, one that no call made, or one that New made; xs is left. -/
def DSt (w : World) (p : Option Addr) (go : Option Nat) (xs : List UInt8) : Prop :=
  (p = none ∧ go = none ∧ xs = []) ∨ ∃ h, p = some ⟨h, 0, none⟩ ∧ ((w.heap[h]? = some (.cells #[.bool false, .slice none 0 0] 51 (0, 0)) ∧ go = none ∧ xs = []) ∨ DMade w h go xs)
/-- The block of a source. -/
def pblk (p : Option Addr) : Option Nat := p.map (·.block)

section
variable {w w' w2 : World} {h : Nat} {go : Option Nat} {xs : List UInt8} {p : Option Addr} {v : Value}
theorem OwnT.drewN (o : OwnT w v go xs) (n : Nat) : OwnT (w.drewN n) v go xs := o
theorem OwnT.keep (o : OwnT w v go xs) (hk : ∀ g, go = some g → w'.heap[g]? = w.heap[g]?) : OwnT w' v go xs := by
  obtain ⟨hl, a | ⟨g, off, cap, cur, e1, e2, e3, r⟩⟩ := o
  · exact ⟨hl, .inl a⟩
  · exact ⟨hl, .inr ⟨g, off, cap, cur, e1, e2, (hk g e2).trans e3, r⟩⟩
theorem OwnT.lt (o : OwnT w v go xs) : ∀ g, go = some g → g < w.heap.size := by
  intro g hg
  obtain ⟨hl, a | ⟨g', off, cap, cur, e1, e2, e3, r⟩⟩ := o
  · rw [a.2.1] at hg; cases hg
  · rw [e2] at hg; cases hg
    exact (Array.getElem?_eq_some_iff.1 e3).1
theorem DMade.drewN (s : DMade w h go xs) (n : Nat) : DMade (w.drewN n) h go xs := s
theorem DMade.lt (s : DMade w h go xs) : h < w.heap.size := by
  obtain ⟨v, a, _⟩ := s
  exact (Array.getElem?_eq_some_iff.1 a).1
theorem DMade.keep (s : DMade w h go xs) (hh : w'.heap[h]? = w.heap[h]?) (hk : ∀ g, go = some g → w'.heap[g]? = w.heap[g]?) : DMade w' h go xs := by
  obtain ⟨v, a, o, n⟩ := s
  exact ⟨v, hh.trans a, o.keep hk, n⟩
theorem DSt.drewN (s : DSt w p go xs) (n : Nat) : DSt (w.drewN n) p go xs := s
theorem DSt.lt (s : DSt w p go xs) : (∀ h, pblk p = some h → h < w.heap.size) ∧ ∀ g, go = some g → g < w.heap.size := by
  rcases s with ⟨rfl, rfl, _⟩ | ⟨h, rfl, ⟨a, rfl, _⟩ | m⟩
  · exact ⟨fun _ e => (by cases e), fun _ e => (by cases e)⟩
  · exact ⟨fun _ e => (by cases e; exact (Array.getElem?_eq_some_iff.1 a).1), fun _ e => (by cases e)⟩
  · exact ⟨fun _ e => (by cases e; exact m.lt), by obtain ⟨v, _, o, _⟩ := m; exact o.lt⟩
theorem DSt.keep (s : DSt w p go xs) (hh : ∀ h, pblk p = some h → w'.heap[h]? = w.heap[h]?) (hk : ∀ g, go = some g → w'.heap[g]? = w.heap[g]?) : DSt w' p go xs := by
  rcases s with a | ⟨h, rfl, ⟨a, b⟩ | m⟩
  · exact .inl a
  · exact .inr ⟨h, rfl, .inl ⟨(hh h rfl).trans a, b⟩⟩
  · exact .inr ⟨h, rfl, .inr (m.keep (hh h rfl) hk)⟩
theorem DSt.below {B : Nat} (s : DSt w p go xs) (hb : Below B w w') (hB : w.heap.size ≤ B) : DSt w' p go xs :=
  s.keep (fun h e => hb.block h (Nat.lt_of_lt_of_le (s.lt.1 h e) hB)) (fun g e => hb.block g (Nat.lt_of_lt_of_le (s.lt.2 g e) hB))
theorem DSt.grown {row : Option Nat} (s : DSt w p go xs) (hg : w.grownBy w' row) (h1 : row = none ∨ (row ≠ pblk p ∧ row ≠ go)) : DSt w' p go xs := by
  refine s.keep (fun h e => hg.block h (s.lt.1 h e) ?_) (fun g e => hg.block g (s.lt.2 g e) ?_)
  · rcases h1 with rfl | ⟨h1, _⟩
    · intro x; cases x
    · intro x; exact h1 (by rw [e]; first | exact x | exact x.symm)
  · rcases h1 with rfl | ⟨_, h1⟩
    · intro x; cases x
    · intro x; exact h1 (by rw [e]; first | exact x | exact x.symm)
theorem DSt.le (s : DSt w p go xs) : xs.length ≤ 900000 := by
  rcases s with ⟨_, _, rfl⟩ | ⟨h, rfl, ⟨_, _, rfl⟩ | ⟨v, _, o, _⟩⟩
  · simp
  · simp
  · exact o.1
theorem DMade.cells (s : DMade w h go xs) : w.cell? ⟨h, 0, none⟩ = some (.bool true) ∧ (∃ A c, w.cell? ⟨h, 1, none⟩ = some (.slice A xs.length c)) ∧ ∀ i, w.frozen? ⟨h, i, none⟩ = false := by
  obtain ⟨v, a, o, n⟩ := s
  have c0 := cell_of_row w h 0 _ 51 (0, 0) a
  have c1 := cell_of_row w h 1 _ 51 (0, 0) a
  simp at c0 c1
  refine ⟨c0, ?_, fun i => frozen_of_row w h i _ 51 a⟩
  obtain ⟨_, ⟨rfl, _, rfl⟩ | ⟨g, off, cap, cur, rfl, _⟩⟩ := o
  · exact ⟨_, _, c1⟩
  · exact ⟨_, _, c1⟩

theorem made_no (w : World) : Calls Try.prog 58 #[.pointer none] w fun e w' => e = .returned (.bool false) ∧ w' = w := by
  go_enter Try.func58, Try.ntmps58
  go_wp2
  go_ret
  exact ⟨rfl, rfl⟩
theorem made_cell (b : Bool) (c0 : w.cell? ⟨h, 0, none⟩ = some (.bool b)) : Calls Try.prog 58 #[.pointer (some ⟨h, 0, none⟩)] w fun e w' => e = .returned (.bool b) ∧ w' = w := by
  go_enter Try.func58, Try.ntmps58
  go_wp2
  go_ret
  exact ⟨rfl, rfl⟩
theorem nleft_none (w : World) : Calls Try.prog 23 #[.pointer none] w fun e w' => e = .returned (.int .i64 0) ∧ ∃ n, w' = w.drewN n := by
  go_enter Try.func23, Try.ntmps23
  go_wp2_with (go_at_call 58; (with_reducible refine (made_no w).mono ?_); rintro e w1 ⟨rfl, rfl⟩)
  go_ret
  exact ⟨rfl, 0, rfl⟩
theorem nleft_no (c0 : w.cell? ⟨h, 0, none⟩ = some (.bool false)) : Calls Try.prog 23 #[.pointer (some ⟨h, 0, none⟩)] w fun e w' => e = .returned (.int .i64 0) ∧ ∃ n, w' = w.drewN n := by
  have HM := Lib.hid (made_cell false c0)
  go_enter Try.func23, Try.ntmps23
  go_wp2_with (go_at_call 58; (with_reducible refine HM.out.mono ?_); rintro e w1 ⟨rfl, rfl⟩)
  go_ret
  exact ⟨rfl, 0, rfl⟩
theorem nleft_yes (s : DMade w h go xs) : Calls Try.prog 23 #[.pointer (some ⟨h, 0, none⟩)] w fun e w' => e = .returned (.int .i64 (xs.length : Int)) ∧ ∃ n, w' = w.drewN n := by
  obtain ⟨c0, ⟨A, c, c1⟩, f⟩ := s.cells
  have HM := Lib.hid (made_cell true c0)
  clear s f
  generalize xs.length = l at *
  go_enter Try.func23, Try.ntmps23
  go_wp2_with (go_at_call 58; (with_reducible refine HM.out.mono ?_); rintro e w1 ⟨rfl, rfl⟩)
  go_ret
  exact ⟨rfl, 0, rfl⟩
theorem nleft_any (s : DSt w p go xs) : Calls Try.prog 23 #[.pointer p] w fun e w' => e = .returned (.int .i64 (xs.length : Int)) ∧ ∃ n, w' = w.drewN n := by
  rcases s with ⟨rfl, _, rfl⟩ | ⟨h, rfl, ⟨a, _, rfl⟩ | m⟩
  · exact nleft_none w
  · have c0 := cell_of_row w h 0 _ 51 (0, 0) a
    simp at c0
    exact nleft_no c0
  · exact nleft_yes m
/-- What Byte tells, and leaves. -/
def NByteP (w : World) (p : Option Addr) (go : Option Nat) (xs : List UInt8) (e : Ending) (w' : World) : Prop :=
  e = .returned (.int .u8 ((xs.headD 0).toNat : Int)) ∧ DSt w' p go xs.tail ∧ w.grownBy w' (pblk p)
theorem nbyte_end (s : DSt w p go []) : Calls Try.prog 12 #[.pointer p] w (NByteP w p go []) := by
  have HL := Lib.hid (nleft_any s)
  have R : ∀ n, NByteP w p go [] (.returned (.int .u8 0)) (w.drewN n) := fun n => ⟨by simp, s.drewN n, grownBy_drewN n _⟩
  have HR := Lib.hid R
  clear s R
  simp only [List.length_nil] at HL
  go_enter Try.func12, Try.ntmps12
  go_wp2_with (go_at_call 23; (with_reducible refine HL.out.mono ?_); rintro e w1 ⟨rfl, n1, rfl⟩)
  go_ret
  exact HR.out n1
theorem nbyte_more (x : UInt8) (s : DMade w h go (x :: xs)) : Calls Try.prog 12 #[.pointer (some ⟨h, 0, none⟩)] w (NByteP w (some ⟨h, 0, none⟩) go (x :: xs)) := by
  have HL := Lib.hid (nleft_yes s)
  obtain ⟨v, hh, ⟨hl, ⟨rfl, _, hx⟩ | ⟨g, off, cap, cur, rfl, rfl, hg, h1, h2, h3, hc⟩⟩, hne⟩ := s
  · cases hx
  have hgh : g ≠ h := fun e => hne (by rw [e])
  have c0 : w.cell? ⟨g, off, none⟩ = some (.int .u8 (x.toNat : Int)) := by
    rw [cell_of_row w g off _ 5 (0, 0) hg]
    exact hc 0 (by simp)
  have c1 := cell_of_row w h 1 _ 51 (0, 0) hh
  simp at c1
  have f1 := frozen_of_row w h 1 _ 51 hh
  have hlen : (x :: xs).length = xs.length + 1 := rfl
  rw [hlen] at HL h1 hl
  have R : ∀ n off2, off2 = off + 1 ∨ (off2 = off ∧ cap = 1) → NByteP w (some ⟨h, 0, none⟩) (some g) (x :: xs) (.returned (.int .u8 (x.toNat : Int))) ((w.drewN n).setCell ⟨h, 1, none⟩ (.slice (some ⟨g, off2, none⟩) xs.length (cap - 1))) := fun n off2 h4 => by
    refine ⟨rfl, .inr ⟨h, rfl, .inr ⟨.slice (some ⟨g, off2, none⟩) xs.length (cap - 1), ?_, ⟨by simpa using (by omega : xs.length ≤ 900000), .inr ⟨g, off2, cap - 1, cur, rfl, rfl, ?_, ?_, ?_, ?_, ?_⟩⟩, hne⟩⟩, grownBy_setCell (grownBy_drewN n _) _ _⟩
    · have := heap_setCell_same (w.drewN n) h 1 _ 51 (.slice (some ⟨g, off2, none⟩) xs.length (cap - 1)) hh
      simpa using this
    · exact (Below.heap_setCell (w.drewN n) ⟨h, 1, none⟩ _ g (by rintro rfl; exact hgh rfl)).trans hg
    · simp; omega
    · omega
    · omega
    · intro j hj
      have hj' : j < xs.length := by simpa using hj
      have := hc (j + 1) (by simp; omega)
      rcases h4 with rfl | ⟨rfl, h4⟩
      · rw [show off + 1 + j = off + (j + 1) from by omega]
        simpa using this
      · omega
  obtain ⟨N, hN⟩ : ∃ N, N = xs.length + 1 := ⟨_, rfl⟩
  rw [show xs.length = N - 1 from by omega] at R
  rw [← hN] at HL c1
  have HR := Lib.hid R
  have hlt : ¬ (N : Int) = 0 := by omega
  have hlt2 : 0 < N := by omega
  have hlt3 : N ≤ 900000 := by omega
  have hcap : N ≤ cap := by omega
  clear R hc hg hh h1 hl hlen h3 hN
  go_enter Try.func12, Try.ntmps12
  go_wp2_with (go_at_call 23; (with_reducible refine HL.out.mono ?_); rintro e w1 ⟨rfl, n1, rfl⟩)
  · have hcap1 : cap = 1 := by assumption
    subst hcap1
    go_ret
    exact HR.out n1 off (.inr ⟨rfl, rfl⟩)
  · go_ret
    exact HR.out n1 (off + 1) (.inl rfl)
theorem nbyte_any (s : DSt w p go xs) : Calls Try.prog 12 #[.pointer p] w (NByteP w p go xs) := by
  cases xs with
  | nil => exact nbyte_end s
  | cons x xs =>
    rcases s with ⟨_, _, e⟩ | ⟨h, rfl, ⟨_, _, e⟩ | m⟩
    · cases e
    · cases e
    · exact nbyte_more x m
end
end Go.Proofs.Ytbfhfnbhfeedbaa
end
section
namespace Go.Proofs
open Go.Shelf
def Try.lays126_ren : Go.Shelf.Ren := ⟨fun | 126 => 119 | n => n, fun | 5 => 5 | 3 => 3 | 9 => 9 | n => n, fun | n => n⟩
theorem Try.lays126 : Go.Proofs.Lays.n126 Try.prog Try.lays126_ren := {
  mixed := by kernel_rfl
  f126 := Try.func119.trans (congrArg some (by kernel_rfl))
  t3 := Try.underlying3
  a3 := Try.isAgg3
  z3 := Try.sizeOf3
  v3 := Try.zeroValue3
  t5 := Try.underlying5
  a5 := Try.isAgg5
  z5 := Try.sizeOf5
  v5 := Try.zeroValue5
  t9 := Try.underlying9
  a9 := Try.isAgg9
  z9 := Try.sizeOf9
  v9 := Try.zeroValue9 }
/-- bits.Len8: "Len8 returns the minimum number of bits required to represent x; the result is 0 for x == 0.": IT RETURNS 'Lib.bitLen x'; the world is as it was. ('h0', 'h1': x is a uint8.) (LAID: no walk: one application.) -/
theorem Try.bits_Len8 (x : Int) (w : World) (h0 : 0 ≤ x) (h1 : x ≤ 255) :
    Calls Try.prog 119 #[.int .u8 x] w fun e w' => e = .returned (.int .i64 (Lib.bitLen x.toNat)) ∧ w' = w := Any.bits_Len8 Try.lays126 x w h0 h1
def Try.lays131_ren : Go.Shelf.Ren := ⟨fun | 131 => 117 | 126 => 119 | n => n, fun | 5 => 5 | 3 => 3 | 9 => 9 | n => n, fun | n => n⟩
theorem Try.lays131 : Go.Proofs.Lays.n131 Try.prog Try.lays131_ren := {
  mixed := by kernel_rfl
  f126 := Try.func119.trans (congrArg some (by kernel_rfl))
  f131 := Try.func117.trans (congrArg some (by kernel_rfl))
  t3 := Try.underlying3
  a3 := Try.isAgg3
  z3 := Try.sizeOf3
  v3 := Try.zeroValue3
  t5 := Try.underlying5
  a5 := Try.isAgg5
  z5 := Try.sizeOf5
  v5 := Try.zeroValue5
  t9 := Try.underlying9
  a9 := Try.isAgg9
  z9 := Try.sizeOf9
  v9 := Try.zeroValue9 }
/-- bits.LeadingZeros8: "LeadingZeros8 returns the number of leading zero bits in x; the result is 8 for x == 0.": IT RETURNS '8 - Lib.bitLen x'; the world is as it was. ITS CALLEE bits.Len8 IS MET BY ITS OWN CONTRACT OFF THE SHELF (lay that first): ENTERED IN PLACE it sends the kernel out of memory. (LAID: no walk: one application.) -/
theorem Try.bits_LeadingZeros8 (x : Int) (w : World) (h0 : 0 ≤ x) (h1 : x ≤ 255) :
    Calls Try.prog 117 #[.int .u8 x] w fun e w' => e = .returned (.int .i64 (8 - (Lib.bitLen x.toNat : Int))) ∧ w' = w := Any.bits_LeadingZeros8 Try.lays131 x w h0 h1
def Try.lays129_ren : Go.Shelf.Ren := ⟨fun | 129 => 89 | n => n, fun | 53 => 99 | 3 => 3 | 4 => 4 | 46 => 132 | 5 => 5 | 9 => 9 | n => n, fun | n => n⟩
theorem Try.lays129 : Go.Proofs.Lays.n129 Try.prog Try.lays129_ren := {
  mixed := by kernel_rfl
  f129 := Try.func89.trans (congrArg some (by kernel_rfl))
  t3 := Try.underlying3
  a3 := Try.isAgg3
  z3 := Try.sizeOf3
  v3 := Try.zeroValue3
  t4 := Try.underlying4
  a4 := Try.isAgg4
  z4 := Try.sizeOf4
  v4 := Try.zeroValue4
  t5 := Try.underlying5
  a5 := Try.isAgg5
  z5 := Try.sizeOf5
  v5 := Try.zeroValue5
  t9 := Try.underlying9
  a9 := Try.isAgg9
  z9 := Try.sizeOf9
  v9 := Try.zeroValue9
  t46 := Try.underlying132
  a46 := Try.isAgg132
  z46 := Try.sizeOf132
  v46 := Try.zeroValue132
  t53 := Try.underlying99
  a53 := Try.isAgg99
  z53 := Try.sizeOf99
  v53 := Try.zeroValue99 }
/-- bits.Len64: "Len64 returns the minimum number of bits required to represent x; the result is 0 for x == 0.": IT RETURNS 'Lib.bitLen x'; the world is as it was. ('h0', 'h1': x is a uint64.) (LAID: no walk: one application.) -/
theorem Try.bits_Len64 (x : Int) (w : World) (h0 : 0 ≤ x) (h1 : x ≤ 18446744073709551615) :
    Calls Try.prog 89 #[.int .u64 x] w fun e w' => e = .returned (.int .i64 (Lib.bitLen x.toNat)) ∧ w' = w := Any.bits_Len64 Try.lays129 x w h0 h1
def Try.laysNm223_ren : Go.Shelf.Ren := ⟨fun | 23 => 59 | n => n, fun | 22 => 43 | 3 => 3 | 4 => 4 | 0 => 0 | n => n, fun | n => n⟩
theorem Try.laysNm223 : Go.Proofs.Lays2.n23 Try.prog Try.laysNm223_ren := {
  mixed := by kernel_rfl
  f23 := Try.func59.trans (congrArg some (by kernel_rfl))
  t0 := Try.underlying0
  a0 := Try.isAgg0
  z0 := Try.sizeOf0
  v0 := Try.zeroValue0
  t3 := Try.underlying3
  a3 := Try.isAgg3
  z3 := Try.sizeOf3
  v3 := Try.zeroValue3
  t4 := Try.underlying4
  a4 := Try.isAgg4
  z4 := Try.sizeOf4
  v4 := Try.zeroValue4
  t22 := Try.underlying43
  a22 := Try.isAgg43
  z22 := Try.sizeOf43
  v22 := Try.zeroValue43
  i3 := by kernel_rfl }
open Go.RowKit Go.Lib Go.Sort in
/-- slices.Delete at []int, over an array. (LAID: no walk: one application.) -/
theorem Try.slices_Delete_int_arr (blk off cap i j : Nat) (d : Array Int) (w : World) (hH : Holds encI w blk off d) (hcap : d.size ≤ cap) (hm : cap ≤ 9223372036854775807) (hij : i ≤ j) (hj : j ≤ d.size) :
    Calls Try.prog 59 #[.slice (some ⟨blk, off, none⟩) d.size cap, .int .i64 i, .int .i64 j] w fun e w' => e = .returned (.slice (some ⟨blk, off, none⟩) (d.size - (j - i)) cap) ∧ ∃ q, w' = putRow encI (Sort.ahead w q) blk off (d.toList.take i ++ d.toList.drop j ++ List.replicate (j - i) 0).toArray := Any.slices_Delete_int_arr Try.laysNm223 blk off cap i j d w hH hcap hm hij hj
open Go.RowKit Go.Lib Go.Sort in
/-- slices.Delete at []int: "Delete modifies s in place by removing the elements s[i:j], and returns the modified slice. Delete panics if j > len(s) or s[i:j] is not a valid slice of s. Delete is O(len(s)-i), so if many items must be deleted, it is better to make a single call deleting them all together than to delete one at a time. Delete zeroes the elements s[len(s)-(j-i):len(s)]. If the result is empty, it has the same nilness as s.": FOR i ≤ j ≤ len(s) IT RETURNS THE SLICE CUT TO len(s) - (j - i) ELEMENTS; ITS CELLS HOLD what stood ahead of i, what stood from j on, then j - i zero values; all else is as it was, but for the count of draws. IN THE WORDS OF slices.Sort's CONTRACT ('Holds', 'putRow'). It asks 'zs.length ≤ cap ≤ 2^63 - 1' (every slice's). (Outside i ≤ j ≤ len(s) it panics: no contract here.) (LAID: no walk: one application.) -/
theorem Try.slices_Delete_int (blk off cap i j : Nat) (zs : List Int) (w : World) (hH : Holds (Value.int .i64) w blk off zs.toArray) (hcap : zs.length ≤ cap) (hm : cap ≤ 9223372036854775807) (hij : i ≤ j) (hj : j ≤ zs.length) :
    Calls Try.prog 59 #[.slice (some ⟨blk, off, none⟩) zs.length cap, .int .i64 i, .int .i64 j] w fun e w' => e = .returned (.slice (some ⟨blk, off, none⟩) (zs.length - (j - i)) cap) ∧ ∃ q, w' = putRow (Value.int .i64) (Sort.ahead w q) blk off (zs.take i ++ zs.drop j ++ List.replicate (j - i) 0).toArray := Any.slices_Delete_int Try.laysNm223 blk off cap i j zs w hH hcap hm hij hj
def Try.cloneB_ren : Go.Shelf.Ren := ⟨fun | 41 => 55 | n => n, fun | 22 => 22 | 23 => 5 | 4 => 4 | n => n, fun | n => n⟩
theorem Try.cloneB : Go.Proofs.SlLaysE0.n41 Try.prog Try.cloneB_ren := {
  mixed := by kernel_rfl
  f41 := ⟨Try.f55.name, by decide, Try.func55.trans (congrArg some (by kernel_rfl))⟩
  t4 := Try.underlying4
  a4 := Try.isAgg4
  z4 := Try.sizeOf4
  v4 := Try.zeroValue4
  t22 := Try.underlying22
  a22 := Try.isAgg22
  z22 := Try.sizeOf22
  v22 := Try.zeroValue22 }
def Try.cloneC_ren : Go.Shelf.Ren := ⟨fun | 41 => 67 | n => n, fun | 22 => 61 | 23 => 60 | 4 => 4 | n => n, fun | n => n⟩
theorem Try.cloneC : Go.Proofs.SlLaysE0.n41 Try.prog Try.cloneC_ren := {
  mixed := by kernel_rfl
  f41 := ⟨Try.f67.name, by decide, Try.func67.trans (congrArg some (by kernel_rfl))⟩
  t4 := Try.underlying4
  a4 := Try.isAgg4
  z4 := Try.sizeOf4
  v4 := Try.zeroValue4
  t22 := Try.underlying61
  a22 := Try.isAgg61
  z22 := Try.sizeOf61
  v22 := Try.zeroValue61 }
end Go.Proofs
end
