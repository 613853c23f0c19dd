/- Sorting that keeps the order of what has the same key: plain lemmas on arrays. No condition. Contracts of With of package ident and of its reference, for any bit. Conditions: an id has 20 bytes. Two operations of a region that may come in either order, each of which makes memory: plain lemmas over any program. No condition. Contract of the reference's laid of layer span. Conditions: an id has 20 bytes. Contract of the source of the reference (layer 7): Take. Conditions: the bytes are at most 900,000; the number that comes in is an int. Contract of the source of the reference (layer 7): Add. Conditions: the bytes are at most 900,000. -/
import Derived.Test.YtehgpnnfjgmiiaaGreatVOja
import Derived.Test.YtehgpnnfjgmiiaaGreatVObd
import Derived.Test.YtehgpnnfjgmiiaaGreatVIiv
import Derived.Test.YtehgpnnfjgmiiaaGreatVObc
import Derived.Test.YtehgpnnfjgmiiaaGreatVROcc
import Derived.Test.YtehgpnnfjgmiiaaGreatVRERefb
import Derived.Test.YtehgpnnfjgmiiaaGreatVRKCdk
import Derived.Test.YtehgpnnfjgmiiaaGreatVRIip
import Derived.Test.YtehgpnnfjgmiiaaGreatVREOctc
import Derived.Sort.LotA
import Derived.WalkKit
import Derived.Deep.AppendSrc
import Derived.Laws.BytesString
import Derived.Laws.CopyOwn
import Derived.Deep.AppendLies
import Derived.Deep.Draws
import Derived.WalkSpells
import Derived.Test.YtehgpnnfjgmiiaaGreatRows
import Derived.WalkLawsBesides
import Derived.Lib.Hide
import Derived.Outline
import Derived.Laws.BitsAllLaws
import Derived.Laws.BitsLemmas
import Derived.Laws.Bits64
import Derived.LoopTactic
import Derived.Deep.MidRow
import Derived.BigQuiet
import Derived.RegionTactic
import Derived.RegionCalls
import Derived.Deep.RegionHeld3
import Derived.Deep.QuietTactic
import Derived.Deep.DeepCutAuto
import Derived.Great.BuildSlice
import Derived.Lib.SlBytesConst
import Derived.Stop.BytesEq
import Derived.Sort.Grow
import Derived.Lib.ConvBytes
import Derived.StillTailTactics
import Derived.Shelf.SlicesE.Clone
import Derived.Lib.OwnBridge
import Derived.Lib.SliceRun
import Derived.Below
import Derived.ProofKit
import Derived.OpenShut
import Derived.ChangeOld
import Derived.Laws.Tables
section
namespace Go.Proofs.YtehgpnnfjgmiiaaGreat
set_option maxRecDepth 100000
open Go.Sort
section
variable {α : Type} [Inhabited α] {key : α → Nat} {d d' d1 d2 : Array α} {a b m : Nat}
/-- What stands from a to b. -/
def seg (d : Array α) (a b : Nat) : List α := (List.range' a (b - a)).map fun i => d[i]!
theorem seg_length (d : Array α) (a b : Nat) : (seg d a b).length = b - a := by simp [seg]
theorem seg_get (d : Array α) (a b k : Nat) (h : k < (seg d a b).length) : (seg d a b)[k] = d[a + k]! := by simp [seg, List.getElem_range']
theorem seg_append (d : Array α) (h1 : a ≤ m) (h2 : m ≤ b) : seg d a b = seg d a m ++ seg d m b := by
  apply List.ext_getElem
  · simp only [List.length_append, seg_length]; omega
  · intro k h3 h4
    rw [seg_get, List.getElem_append]
    split
    · rw [seg_get]
    · rename_i h5
      rw [seg_get]
      simp only [seg_length] at h5 ⊢
      congr 1
      omega
theorem seg_shift {e f : Nat} (hl : b - a = f - e) (h : ∀ k, k < b - a → d'[a + k]! = d[e + k]!) : seg d' a b = seg d e f := by
  apply List.ext_getElem
  · simp only [seg_length]; omega
  · intro k h3 h4
    rw [seg_get, seg_get]
    exact h k (by simpa [seg_length] using h3)
theorem seg_congr (h : ∀ k, a ≤ k → k < b → d'[k]! = d[k]!) : seg d' a b = seg d a b := seg_shift rfl fun k hk => h _ (by omega) (by omega)
theorem seg_mem {x : α} (h : x ∈ seg d a b) : ∃ k, a ≤ k ∧ k < b ∧ d[k]! = x := by
  obtain ⟨i, hi, rfl⟩ := List.getElem_of_mem h
  rw [seg_get]
  rw [seg_length] at hi
  exact ⟨a + i, by omega, by omega, rfl⟩
theorem mem_seg {k : Nat} (h1 : a ≤ k) (h2 : k < b) : d[k]! ∈ seg d a b := by
  have hl : k - a < (seg d a b).length := by rw [seg_length]; omega
  have := List.getElem_mem hl
  rw [seg_get, show a + (k - a) = k by omega] at this
  exact this
theorem seg_all (d : Array α) : seg d 0 d.size = d.toList := by
  apply List.ext_getElem
  · simp [seg_length]
  · intro k h1 h2
    rw [seg_get, Nat.zero_add, getElem!_pos d k (by simpa using h2)]
    simp
/-- From a to b the key never falls. -/
def AscN (key : α → Nat) (a b : Nat) (d : Array α) : Prop := ∀ i j, a ≤ i → i ≤ j → j < b → key d[i]! ≤ key d[j]!
/-- Only what stands from a to b may have moved, and what has the same key stands in the same order. -/
structure Stb (key : α → Nat) (a b : Nat) (d d' : Array α) : Prop where
  size : d'.size = d.size
  out : ∀ k, k < a ∨ b ≤ k → d'[k]! = d[k]!
  se : ∀ q, (seg d' a b).filter (fun x => key x == q) = (seg d a b).filter (fun x => key x == q)
theorem Stb.refl (key : α → Nat) (a b : Nat) (d : Array α) : Stb key a b d d := ⟨rfl, fun _ _ => rfl, fun _ => rfl⟩
theorem Stb.trans (h : Stb key a b d d1) (k : Stb key a b d1 d2) : Stb key a b d d2 := ⟨k.size.trans h.size, fun i hi => (k.out i hi).trans (h.out i hi), fun q => (k.se q).trans (h.se q)⟩
theorem Stb.mono {e f : Nat} (h : Stb key a b d d') (h1 : e ≤ a) (h2 : b ≤ f) (h3 : a ≤ b) : Stb key e f d d' where
  size := h.size
  out k hk := h.out k (by omega)
  se q := by
    rw [seg_append d' h1 (show a ≤ f by omega), seg_append d' h3 h2, seg_append d h1 (show a ≤ f by omega), seg_append d h3 h2]
    simp only [List.filter_append]
    rw [h.se q, seg_congr (d' := d') (d := d) (a := e) (fun k _ h5 => h.out k (by omega)), seg_congr (d' := d') (d := d) (a := b) (fun k h4 _ => h.out k (by omega))]
theorem Stb.all (h : Stb key a b d d') {p : α → Prop} (hp : ∀ k, a ≤ k → k < b → p d[k]!) : ∀ k, a ≤ k → k < b → p d'[k]! := by
  intro k h1 h2
  have hm : d'[k]! ∈ (seg d' a b).filter (fun x => key x == key d'[k]!) := List.mem_filter.2 ⟨mem_seg h1 h2, by simp⟩
  rw [h.se] at hm
  obtain ⟨k', h3, h4, h5⟩ := seg_mem (List.mem_filter.1 hm).1
  rw [← h5]
  exact hp k' h3 h4
theorem AscN.sub {e f : Nat} (h : AscN key a b d) (h1 : a ≤ e) (h2 : f ≤ b) : AscN key e f d := fun i j hi hij hj => h i j (by omega) hij (by omega)
theorem AscN.congr {d d' : Array α} (h : AscN key a b d) (he : ∀ k, a ≤ k → k < b → d'[k]! = d[k]!) : AscN key a b d' := fun i j hi hij hj => by rw [he i hi (by omega), he j (by omega) hj]; exact h i j hi hij hj
theorem AscN.glue (h1 : AscN key a m d) (h2 : AscN key m b d) (h3 : ∀ i j, a ≤ i → i < m → m ≤ j → j < b → key d[i]! ≤ key d[j]!) : AscN key a b d := fun i j hi hij hj => by
  by_cases h4 : j < m
  · exact h1 i j hi hij h4
  · by_cases h5 : i < m
    · exact h3 i j hi h5 (by omega) hj
    · exact h2 i j (by omega) hij hj
/-- What stands from a to m and what stands from m to b have changed places. -/
structure RotIs (d : Array α) (a m b : Nat) (d' : Array α) : Prop where
  size : d'.size = d.size
  get : ∀ k, d'[k]! = if k < a ∨ b ≤ k then d[k]! else if k < a + (b - m) then d[m + (k - a)]! else d[k - (b - m)]!
theorem RotIs.out (h : RotIs d a m b d') (k : Nat) (hk : k < a ∨ b ≤ k) : d'[k]! = d[k]! := by rw [h.get, if_pos hk]
theorem RotIs.low (h : RotIs d a m b d') (hm : m ≤ b) (k : Nat) (hk : k < b - m) (hab : a ≤ m) : d'[a + k]! = d[m + k]! := by
  rw [h.get, if_neg (by omega), if_pos (by omega), Nat.add_sub_cancel_left]
theorem RotIs.high (h : RotIs d a m b d') (hm : m ≤ b) (k : Nat) (hk : k < m - a) (hab : a ≤ m) : d'[a + (b - m) + k]! = d[a + k]! := by
  rw [h.get, if_neg (by omega), if_neg (by omega), show a + (b - m) + k - (b - m) = a + k by omega]
theorem RotIs.stb (h : RotIs d a m b d') (ham : a ≤ m) (hmb : m ≤ b) (hs : ∀ i j, a ≤ i → i < m → m ≤ j → j < b → key d[j]! < key d[i]!) : Stb key a b d d' where
  size := h.size
  out := h.out
  se q := by
    rw [seg_append d' (show a ≤ a + (b - m) by omega) (show a + (b - m) ≤ b by omega), seg_append d ham hmb]
    rw [seg_shift (d' := d') (d := d) (a := a) (b := a + (b - m)) (e := m) (f := b) (by omega) (fun k hk => h.low hmb k (by omega) ham)]
    rw [seg_shift (d' := d') (d := d) (a := a + (b - m)) (b := b) (e := a) (f := m) (by omega) (fun k hk => h.high hmb k (by omega) ham)]
    simp only [List.filter_append]
    by_cases hx : (seg d a m).filter (fun x => key x == q) = []
    · rw [hx, List.append_nil, List.nil_append]
    · have hy : (seg d m b).filter (fun x => key x == q) = [] := by
        obtain ⟨x, hx'⟩ := List.exists_mem_of_ne_nil _ hx
        obtain ⟨hxm, hxq⟩ := List.mem_filter.1 hx'
        obtain ⟨i, hi1, hi2, rfl⟩ := seg_mem hxm
        rw [List.filter_eq_nil_iff]
        intro y hy hyq
        obtain ⟨j, hj1, hj2, rfl⟩ := seg_mem hy
        have := hs i j hi1 hi2 hj1 hj2
        simp only [beq_iff_eq] at hxq hyq
        omega
      rw [hy, List.append_nil, List.nil_append]
theorem RotIs.refl (d : Array α) (a b : Nat) (hab : a ≤ b) : RotIs d a a b d where
  size := rfl
  get k := by
    split
    · rfl
    · rw [if_pos (by omega)]; congr 1; omega
theorem RotIs.refl' (d : Array α) (a b : Nat) : RotIs d a b b d where
  size := rfl
  get k := by
    split
    · rfl
    · rw [if_neg (by omega)]; congr 1; omega
/-- What moves up. -/
theorem RotIs.up {k : Nat} (h : RotIs d a (a + 1) (k + 1) d1) (hk : a ≤ k) (hs : k + 1 < d.size) : RotIs d a (a + 1) (k + 2) (swp d1 k (k + 1)) where
  size := by rw [swp_size, h.size]
  get i := by
    rw [swp_get d1 (by rw [h.size]; omega) (by rw [h.size]; omega), h.get, h.get, h.get]
    by_cases h1 : i = k + 1
    · subst h1
      simp only [if_true]
      rw [if_neg (by omega), if_neg (by omega), if_neg (by omega), if_neg (by omega)]
      congr 1; omega
    · by_cases h2 : i = k
      · subst h2
        rw [if_neg h1, if_pos rfl, if_pos (by omega), if_neg (by omega), if_pos (by omega)]
        congr 1; omega
      · rw [if_neg h1, if_neg h2]
        by_cases h3 : i < a ∨ k + 2 ≤ i
        · rw [if_pos (by omega), if_pos h3]
        · rw [if_neg (by omega), if_neg h3, if_pos (by omega), if_pos (by omega)]
/-- What moves down. -/
theorem RotIs.down {k : Nat} (h : RotIs d (k + 1) m (m + 1) d1) (hk : k + 1 ≤ m) (hs : m < d.size) : RotIs d k m (m + 1) (swp d1 (k + 1) k) where
  size := by rw [swp_size, h.size]
  get i := by
    rw [swp_get d1 (by rw [h.size]; omega) (by rw [h.size]; omega), h.get, h.get, h.get]
    by_cases h1 : i = k
    · subst h1
      simp only [if_true]
      rw [if_neg (by omega), if_pos (by omega), if_neg (by omega), if_pos (by omega)]
      congr 1; omega
    · by_cases h2 : i = k + 1
      · subst h2
        rw [if_neg h1, if_pos rfl, if_pos (by omega), if_neg (by omega), if_neg (by omega)]
        congr 1; omega
      · rw [if_neg h1, if_neg h2]
        by_cases h3 : i < k ∨ m + 1 ≤ i
        · rw [if_pos (by omega), if_pos h3]
        · rw [if_neg (by omega), if_neg h3, if_neg (by omega), if_neg (by omega)]
/-- n places from a on and n places from b on have changed what they hold. -/
structure SwapIs (d : Array α) (a b n : Nat) (d' : Array α) : Prop where
  size : d'.size = d.size
  get : ∀ k, d'[k]! = if a ≤ k ∧ k < a + n then d[b + (k - a)]! else if b ≤ k ∧ k < b + n then d[a + (k - b)]! else d[k]!
theorem SwapIs.zero (d : Array α) (a b : Nat) : SwapIs d a b 0 d := ⟨rfl, fun k => by rw [if_neg (by omega), if_neg (by omega)]⟩
theorem SwapIs.step {n N : Nat} (h : SwapIs d a b n d1) (hN : n < N) (hab : a + N ≤ b) (hb : b + N ≤ d.size) : SwapIs d a b (n + 1) (swp d1 (a + n) (b + n)) where
  size := by rw [swp_size, h.size]
  get i := by
    rw [swp_get d1 (by rw [h.size]; omega) (by rw [h.size]; omega), h.get, h.get, h.get]
    by_cases h1 : i = b + n
    · subst h1
      simp only [if_true]
      rw [if_neg (by omega), if_neg (by omega), if_neg (by omega), if_pos (by omega)]
      congr 1; omega
    · by_cases h2 : i = a + n
      · subst h2
        rw [if_neg h1, if_pos rfl, if_neg (by omega), if_neg (by omega), if_pos (by omega)]
        congr 1; omega
      · rw [if_neg h1, if_neg h2]
        by_cases h3 : a ≤ i ∧ i < a + n
        · rw [if_pos h3, if_pos (by omega)]
        · by_cases h4 : b ≤ i ∧ i < b + n
          · rw [if_neg h3, if_pos h4, if_neg (by omega), if_pos (by omega)]
          · rw [if_neg h3, if_neg h4, if_neg (by omega), if_neg (by omega)]
/-- Both parts have the same length. -/
theorem SwapIs.rot {i : Nat} (h : SwapIs d a m i d') (hm : a + i = m) : RotIs d a m (m + i) d' where
  size := h.size
  get k := by
    rw [h.get]
    by_cases h1 : k < a ∨ m + i ≤ k
    · rw [if_pos h1, if_neg (by omega), if_neg (by omega)]
    · by_cases h2 : k < a + i
      · rw [if_pos (by omega), if_neg h1, if_pos (by omega)]
      · rw [if_neg (by omega), if_pos (by omega), if_neg h1, if_neg (by omega)]
        congr 1; omega
/-- The upper part is the shorter one. -/
theorem SwapIs.rot_up {i j : Nat} (h : SwapIs d (m - i) m j d1) (hij : j < i) (hi : i ≤ m) (k : RotIs d1 (m - i + j) m (m + j) d2) : RotIs d (m - i) m (m + j) d2 where
  size := k.size.trans h.size
  get x := by
    rw [k.get]
    by_cases h1 : x < m - i ∨ m + j ≤ x
    · rw [if_pos (by omega), if_pos h1, h.get, if_neg (by omega), if_neg (by omega)]
    · rw [if_neg h1]
      by_cases h2 : x < m - i + j
      · rw [if_pos (by omega), if_pos (by omega), h.get, if_pos (by omega)]
      · rw [if_neg (by omega), if_neg (show ¬ x < m - i + (m + j - m) by omega)]
        by_cases h3 : x < m - i + j + (m + j - m)
        · rw [if_pos h3, h.get, if_neg (by omega), if_pos (by omega)]
          congr 1; omega
        · rw [if_neg h3, h.get, if_neg (by omega), if_neg (by omega)]
/-- The lower part is the shorter one. -/
theorem SwapIs.rot_down {i j : Nat} (h : SwapIs d (m - i) (m + j - i) i d1) (hij : i < j) (hi : i ≤ m) (k : RotIs d1 (m - i) m (m + (j - i)) d2) : RotIs d (m - i) m (m + j) d2 where
  size := k.size.trans h.size
  get x := by
    rw [k.get]
    by_cases h1 : x < m - i ∨ m + j ≤ x
    · rw [if_pos (by omega), if_pos h1, h.get, if_neg (by omega), if_neg (by omega)]
    · rw [if_neg h1]
      by_cases h2 : m + j - i ≤ x
      · rw [if_pos (by omega), h.get, if_neg (by omega), if_pos (by omega), if_neg (show ¬ x < m - i + (m + j - m) by omega)]
        congr 1; omega
      · rw [if_neg (by omega)]
        by_cases h3 : x < m - i + (j - i)
        · rw [if_pos (by omega), h.get, if_neg (by omega), if_neg (by omega), if_pos (by omega)]
        · rw [if_neg (by omega), h.get, if_pos (by omega), if_pos (by omega)]
          congr 1; omega
end
end Go.Proofs.YtehgpnnfjgmiiaaGreat
end
section
namespace Go.Proofs.YtehgpnnfjgmiiaaGreat
set_option maxRecDepth 100000
set_option maxHeartbeats 400000
open Go.RowKit Go.Great

theorem wpList_loadGN {P : Program} {ops : Array Oper} {rest : List Oper} {op : Oper} {a : Act} {w : World} {Q : Exit → Act → World → Prop} (hw : Region.wanted op (yielded ops a.tmps) = true) (ty : TypeId) (x : Operand) (ho : op.op = .load ty x) (p : Addr) (hx : a.eval x = .pointer (some p)) (v : Value) (hl : (loadVar ty p).run P w = .ok v w)
    (h : wpList P ops Q rest (a.put op.dst v) w) : wpList P ops Q (op :: rest) a w :=
  wpList_step fun _ hK => by
    rw [if_pos hw]
    exact wp_loadV ty x ho p hx v hl (hK _ _ h)

end Go.Proofs.YtehgpnnfjgmiiaaGreat
end
section
namespace Go.Proofs.YtehgpnnfjgmiiaaGreat
set_option maxRecDepth 100000
open Go.RowKit

def LooseR (P : Program) (w : World) (S : World → Prop) (X : Value → World → Prop) : Result Next → Prop
  | .ok (.value v) w' => S w' ∧ Below w.heap.size w w' ∧ X v w'
  | .ok (.enter f args) w' => w' = w ∧ Calls P f args w (fun e w'' => ∃ v, e = .returned v ∧ S w'' ∧ Below w.heap.size w w'' ∧ X v w'')
  | _ => False
/-- In every world of S the operation yields a value, and leaves a world of S that keeps what stood; of the two X holds. -/
def Loose (P : Program) (o : Oper) (a : Act) (S : World → Prop) (X : Value → World → Prop) : Prop := ∀ w, S w → LooseR P w S X ((execOp a.eval o).run P w)
theorem LooseR.wp {P : Program} {o : Oper} {a : Act} {S : World → Prop} {X : Value → World → Prop} {w : World} (this : LooseR P w S X ((execOp a.eval o).run P w)) {K : Act → World → Prop} {Q : Exit → Act → World → Prop}
    (hK : ∀ v w', S w' → Below w.heap.size w w' → X v w' → K (a.put o.dst v) w') : o.wp P a w K Q := by
  unfold Oper.wp
  generalize (execOp a.eval o).run P w = r at *
  cases r with
  | halt x w' => cases this
  | ok n w' =>
    cases n <;> simp only [LooseR] at this <;> simp only [Oper.upon]
    case value v => exact hK v w' this.1 this.2.1 this.2.2
    case enter f args =>
      obtain ⟨rfl, hc⟩ := this
      exact hc.mono (by rintro e w'' ⟨v, rfl, h1, h2, h3⟩; exact hK v w'' h1 h2 h3)
theorem Loose.wp {P : Program} {o : Oper} {a : Act} {S : World → Prop} {X : Value → World → Prop} (h : Loose P o a S X) {w : World} (hw : S w) {K : Act → World → Prop} {Q : Exit → Act → World → Prop}
    (hK : ∀ v w', S w' → Below w.heap.size w w' → X v w' → K (a.put o.dst v) w') : o.wp P a w K Q := LooseR.wp (h w hw) hK
theorem Loose.put {P : Program} {ops : Array Oper} {o o' : Oper} {a : Act} {S : World → Prop} {X : Value → World → Prop} (h : Loose P o a S X) (hs : Region.noSelect ops = true) {i : Nat} (hi : ops[i]? = some o) (hap : o'.apart ops o = true) (u : Value) : Loose P o (a.put o'.dst u) S X := by
  obtain ⟨h1, _, _⟩ := Oper.apart_spec hap
  intro w hw
  rw [execOp_put o (fun cs b => Region.noSelect_spec hs i o cs b hi) a o'.dst u h1]
  exact h w hw

/-- One that alone may come now. -/
theorem single {P : Program} {md : Region.Mode} {ops : Array Oper} {Q : Exit → Act → World → Prop} {S : World → Prop} (i di : Nat) {oi : Oper} {fuel : Nat} {listed : Array Bool} {a : Act} {w : World}
    (hi : ops[i]? = some oi) (hdi : oi.dst = some di) (hr : Region.ready md ops listed = [i]) (wi : Region.wanted oi (yielded ops a.tmps) = true)
    (X : Value → World → Prop) (li : LooseR P w S X ((execOp a.eval oi).run P w))
    (h : ∀ u w', S w' → Below w.heap.size w w' → X u w' → wpAnyH P md ops Q S fuel (listed.setIfInBounds i true) (a.put (some di) u) w') : wpAnyH P md ops Q S (fuel + 1) listed a w := by
  refine wpAnyH_ready hr (by simp) (AllReadyH.cons hi (fun K hK => ?_) AllReadyH.nil)
  rw [if_pos wi]
  refine LooseR.wp li (fun u w1 hs1 hb1 hx => hK.out _ _ hs1 (fun _ => ?_))
  rw [hdi]
  exact h u w1 hs1 hb1 hx
theorem looseR_call {P : Program} {o : Oper} {a : Act} {w : World} {S : World → Prop} {X : Value → World → Prop} (f : Nat) {xs : Array Operand} {ts : Array TypeId} (ho : o.op = .call { callee := .value (.func f), args := xs, argTypes := ts })
    (eg : ∀ args w, (callFunc f args).run P w = .ok (.enter f args) w) (args : Array Value) (hargs : xs.map a.eval = args)
    (h : Calls P f args w fun e w'' => ∃ v, e = .returned v ∧ S w'' ∧ Below w.heap.size w w'' ∧ X v w'') : LooseR P w S X ((execOp a.eval o).run P w) := by
  have : (execOp a.eval o).run P w = .ok (.enter f args) w := by
    unfold execOp
    simp only [ho, resolve, invoke, hargs, Sem.run_bind]
    rw [show a.eval (.func f) = .func (.func f) #[] #[] from rfl]
    simp only [Deferred.ofValue, Sem.run_pure, Result.andThen_ok, Array.empty_append, Array.append_empty, eg]
  rw [this]
  exact ⟨rfl, h⟩
end Go.Proofs.YtehgpnnfjgmiiaaGreat
end
section
namespace Go.Proofs.YtehgpnnfjgmiiaaGreat
set_option maxRecDepth 100000
set_option maxHeartbeats 1000000
open Go.RowKit Go.Lib Go.Great

theorem LooseR.more {P : Program} {w : World} {S1 S : World → Prop} {X : Value → World → Prop} {r : Result Next} (hS : ∀ w, S1 w → S w) (h : LooseR P w S1 X r) : LooseR P w S (fun v w' => X v w' ∧ S1 w') r := by
  cases r with
  | halt x w' => exact h
  | ok n w' =>
    cases n <;> simp only [LooseR] at h ⊢
    case value v => exact ⟨hS _ h.1, h.2.1, h.2.2, h.1⟩
    case enter f args => exact ⟨h.1, h.2.mono (by rintro e w'' ⟨v, rfl, h1, h2, h3⟩; exact ⟨v, rfl, hS _ h1, h2, h3, h1⟩)⟩
end Go.Proofs.YtehgpnnfjgmiiaaGreat
end
section
namespace Go.Proofs.YtehgpnnfjgmiiaaGreat
set_option maxRecDepth 100000
set_option maxHeartbeats 1000000
open Go.RowKit Go.Lib Go.Great

theorem bcells_oneC (L : List UInt8) : ∀ u ∈ bcells L, u.oneCell' = true := by
  intro u hu
  obtain ⟨n, _, rfl⟩ := List.mem_map.1 hu
  rfl
theorem wpList_append_bytes {w : World} {ops : Array Oper} {rest : List Oper} {o : Oper} {a : Act} {Q : Exit → Act → World → Prop} (hgd : o.guard = none) (s x : Operand)
    (ho : o.op = .call { callee := .builtin .append, args := #[s, x], argTypes := #[31, 31] })
    (base : Nat) (v : Value) (L : List UInt8) (hs : a.eval s = v) (hown : w.ownsRow base 5 1 v L.length (bcells L))
    (y : Value) (M : List UInt8) (hx : a.eval x = y) (hr : Src Tryz.prog 1 31 y M.length (bcells M) w) (h63 : L.length + M.length ≤ 10000000) (hbase : base ≤ w.heap.size)
    (h : ∀ v' w', w'.ownsRow base 5 1 v' (L ++ M).length (bcells (L ++ M)) → w.grownBy w' v.ownBlock → wpList Tryz.prog ops Q rest (a.put o.dst v') w') : wpList Tryz.prog ops Q (o :: rest) a w :=
  wpList_plain hgd fun _ hK => by
    obtain ⟨i0, hi, hz0, hz1, hz2⟩ := info5b
    obtain ⟨v', w', hrun, h2, h3, _⟩ := run_append_srcK w base 31 31 o.type 5 i0 _ 1 1 undBs hi hz0 hz1 hz2 rfl v L.length (bcells L) hown y M.length (bcells M) hr (by simp only [maxLen]; omega) (by omega) hbase
    unfold Oper.wp execOp
    simp only [ho, resolve, invoke, builtin, Sem.run_bind, Sem.run_pure, Result.andThen_ok, List.map_toArray, List.map_cons, List.map_nil, hs, hx, hrun]
    refine hK _ _ (h v' w' ?_ h3)
    rw [List.length_append, bcells_app]
    exact h2
section
variable {w w' w2 w3 : World} {h : Nat} {A : Option Addr} {c : Nat} {xs r r0 : List UInt8}
end
end Go.Proofs.YtehgpnnfjgmiiaaGreat
end
section
namespace Go.Proofs.YtehgpnnfjgmiiaaGreat
set_option maxRecDepth 100000
set_option maxHeartbeats 1000000
open Go.RowKit Go.Lib Go.Great
theorem BAt.srcB {w : World} {B : Nat} {A : Option Addr} {xs : List UInt8} (h : BAt w B A xs) (c : Nat) : Src Tryz.prog 1 31 (.slice A xs.length c) xs.length (bcells xs) w := by
  cases A with
  | none =>
    obtain rfl : xs = [] := by
      rcases h with e | ⟨g, off, e, _⟩
      · exact e
      · cases e
    exact Src.ofNil w undBs c
  | some a =>
    refine Src.ofSlice w undBs a xs.length c (bcells xs) (by simp [bcells]) (fun j u hu => ?_) (bcells_oneC xs)
    rcases h with rfl | ⟨g, off, ha, hg, hc⟩
    · simp [bcells] at hu
    · injection ha with ha
      subst ha
      have hj : j < xs.length := by
        have := (List.getElem?_eq_some_iff.1 hu).1
        simpa [bcells] using this
      simp only [bcells, List.getElem?_map, List.getElem?_eq_getElem hj, Option.map_some, Option.some.injEq] at hu
      subst hu
      rw [Addr.add_mid]
      exact hc j hj
section
variable {w w' w2 w3 : World} {h : Nat} {A A2 : Option Addr} {c c2 : Nat} {xs r bs : List UInt8}
end
end Go.Proofs.YtehgpnnfjgmiiaaGreat
end
