/- Words on slices of bytes for the walks of this seat: plain lemmas on memory, over any program. No condition. Numbers as bytes: plain lemmas without a program. No condition. Bytes as numbers: plain lemmas without a program. No condition. What a reader tells and what is left of it: plain definitions without a program. No condition. One step of a region that draws its order, with its slot given: plain lemmas over any program. No condition. Numbers and texts that are put and read again: plain lemmas without a program. No condition. -/
import Derived.Test.YtkceipkgebgigaaXJPWords
import Derived.WalkKit
import Derived.Deep.AppendSrc
import Derived.Laws.BytesString
import Derived.Laws.CopyOwn
import Derived.Deep.AppendLies
import Derived.Deep.Draws
import Derived.WalkSpells
import Derived.Laws.BitsAllLaws
import Derived.Laws.BitsLemmas
import Derived.Laws.Bits64
import Derived.RegionTactic
import Derived.RegionCalls
import Derived.Deep.RegionHeld3
section
namespace Go.Proofs.Ytkceipkgebgigaa
set_option maxRecDepth 100000
open Go.RowKit

theorem bcells_append (xs ys : List UInt8) : bcells (xs ++ ys) = bcells xs ++ bcells ys := by simp [bcells]
theorem bcells_one (xs : List UInt8) : ∀ u ∈ bcells xs, u.oneCell' = true := by
  intro u hu
  obtain ⟨_, _, rfl⟩ := List.mem_map.1 hu
  rfl
section
variable {w w' : World} {B B' : Nat} {A : Option Addr} {xs : List UInt8}
/-- What stands at A is a source for append. -/
theorem BAt.src {P : Program} {t e' : TypeId} (hk : P.underlying t = some (.slice e')) (h : BAt w B A xs) (c : Nat) : Src P 1 t (.slice A xs.length c) xs.length (bcells xs) w := by
  cases A with
  | none =>
    have := h.none_
    subst this
    exact Src.ofNil w hk c
  | some a =>
    refine Src.ofSlice w hk a xs.length c (bcells xs) (by rw [bcells_length, Nat.mul_one]) (fun j u hu => ?_) (bcells_one xs)
    rcases h with rfl | ⟨g, off, ha, hg, hc⟩
    · simp [bcells] at hu
    · injection ha with ha
      subst ha
      have hj : j < xs.length := by
        have := (List.getElem?_eq_some_iff.1 hu).1
        rwa [bcells_length] at this
      rw [bcells_get xs j hj] at hu
      rw [← hu, ← hc j hj]
      congr 1
      unfold Addr.add
      split <;> simp_all
end

/-- One new byte as a source for append. -/
theorem src_one {P : Program} {t e' : TypeId} (hk : P.underlying t = some (.slice e')) (w : World) (e : TypeId) (n : Int) (b : UInt8) (h : n = (b.toNat : Int)) :
    Src P 1 t (.slice (some ⟨w.heap.size, 0, none⟩) 1 1) 1 (bcells [b]) (w.alloc (.cells #[.int .u8 n] e)) := by
  subst h
  refine Src.ofSlice _ hk _ 1 1 (bcells [b]) rfl (fun j u hu => ?_) (bcells_one _)
  match j, hu with
  | 0, hu =>
    simp [bcells] at hu
    subst hu
    simp [Addr.add]

theorem own_of_splice {w : World} {base g : Nat} {e : TypeId} {z : Value} {xs : List UInt8} {k : Nat} (hb : base ≤ g) (hl : xs.length + k ≤ maxLen)
    (h : w.heap[g]? = some (.cells (splice (List.replicate (xs.length + k) z) 0 (bcells xs)).toArray e (0, 0))) :
    w.ownsRow base e 1 (.slice (some ⟨g, 0, none⟩) xs.length (xs.length + k)) xs.length (bcells xs) := by
  refine ⟨by rw [bcells_length, Nat.mul_one], .inr ⟨g, _, _, rfl, hb, h, by omega, hl, ?_, ?_⟩⟩
  · simp [splice, bcells_length]
  · simp only [splice, List.take_zero, List.nil_append, Nat.mul_one]
    rw [← bcells_length xs]
    exact List.take_left

theorem grownBy_of_below {a w : World} {B : Nat} (h : Below B a w) (hB : a.heap.size ≤ B) (row : Option Nat) : a.grownBy w row := ⟨h.os, h.tape, h.output, h.size, fun i hi _ => h.block i (by omega)⟩
theorem own_base {w : World} {base base' : Nat} {e : TypeId} {v : Value} {n size : Nat} {xs : List Value} (h : w.ownsRow base e size v n xs) (hb : base' ≤ base) : w.ownsRow base' e size v n xs := by
  refine ⟨h.1, ?_⟩
  rcases h.2 with hn | ⟨g, cap, cur, hv, hg, r⟩
  · exact .inl hn
  · exact .inr ⟨g, cap, cur, hv, by omega, r⟩

theorem slice_of_own {w : World} {base : Nat} {e : TypeId} {v : Value} {n : Nat} {xs : List Value} (h : w.ownsRow base e 1 v n xs) : ∃ A c, v = .slice A n c := by
  rcases h.2 with ⟨rfl, rfl⟩ | ⟨g, cap, cur, rfl, _⟩
  · exact ⟨_, _, rfl⟩
  · exact ⟨_, _, rfl⟩

theorem run_convert_own {P : Program} {w : World} {base : Nat} {v : Value} {n : Nat} {xs : List UInt8} (src dst e : TypeId) (hs : P.underlying src = some (.slice e)) (he : P.underlying e = some (.int .u8)) (hd : P.underlying dst = some .string)
    (h : w.ownsRow base e 1 v n (bcells xs)) : (convert src dst v).run P w = .ok (.string (bstr xs)) w := by
  have hn : n = xs.length := by have := h.1; rw [bcells_length] at this; omega
  subst hn
  obtain ⟨A, c, rfl⟩ := slice_of_own h
  exact run_convert_bat src dst e c hs he hd (BAt.of_own h (Nat.le_refl _))

end Go.Proofs.Ytkceipkgebgigaa
end
section
namespace Go.Proofs.Ytkceipkgebgigaa
set_option maxRecDepth 100000

/-- The lowest k bytes of N, the most significant one first. -/
def putB (N k : Nat) : List UInt8 := (List.range k).map fun i => UInt8.ofNat (N / 2 ^ (8 * (k - 1 - i)))
/-- The same of any width: nothing where there is no such width. -/
def putI (N : Nat) (wd : Int) : List UInt8 := if 1 ≤ wd ∧ wd ≤ 8 then putB N wd.toNat else []

theorem putB_length (N k : Nat) : (putB N k).length = k := by simp [putB]
theorem putB_take (N k i : Nat) (h : i < k) : (putB N k).take (i + 1) = (putB N k).take i ++ [UInt8.ofNat (N / 2 ^ (8 * (k - 1 - i)))] := by
  rw [List.take_succ_eq_append_getElem (by rw [putB_length]; exact h)]
  congr 2
  simp [putB]
theorem putB_all (N k : Nat) : (putB N k).take k = putB N k := List.take_of_length_le (by rw [putB_length]; exact Nat.le_refl _)

theorem byte_div (N j : Nat) : (N : Int) / 2 ^ j % 256 = ((UInt8.ofNat (N / 2 ^ j)).toNat : Int) := by
  have h : ((N : Int) / 2 ^ j) = ((N / 2 ^ j : Nat) : Int) := by
    rw [Int.natCast_ediv]; congr 1
  rw [h]
  simp

end Go.Proofs.Ytkceipkgebgigaa
end
section
namespace Go.Proofs.Ytkceipkgebgigaa
set_option maxRecDepth 100000

/-- The number that bytes are. -/
def getN (xs : List UInt8) : Nat := xs.foldl (fun n b => n * 256 + b.toNat) 0
theorem getN_snoc (xs : List UInt8) (b : UInt8) : getN (xs ++ [b]) = getN xs * 256 + b.toNat := by simp [getN]
theorem foldN_lt (xs : List UInt8) : ∀ n : Nat, xs.foldl (fun n b => n * 256 + b.toNat) n < (n + 1) * 256 ^ xs.length := by
  induction xs with
  | nil => intro n; simp
  | cons b xs ih =>
    intro n
    have h := ih (n * 256 + b.toNat)
    have hb := b.toNat_lt
    rw [List.foldl_cons, List.length_cons, Nat.pow_succ]
    have h2 : (n * 256 + b.toNat + 1) * 256 ^ xs.length ≤ (n + 1) * 256 * 256 ^ xs.length := Nat.mul_le_mul_right _ (by omega)
    have h3 : (n + 1) * 256 * 256 ^ xs.length = (n + 1) * (256 ^ xs.length * 256) := by rw [Nat.mul_assoc, Nat.mul_comm 256]
    omega
theorem getN_lt (xs : List UInt8) : getN xs < 256 ^ xs.length := by
  have := foldN_lt xs 0
  simpa [getN] using this
theorem getN_take_lt' (xs : List UInt8) (j : Nat) (h : j < 8) : getN (xs.take j) < 72057594037927936 := by
  have h1 := getN_lt (xs.take j)
  have h2 : 256 ^ (xs.take j).length ≤ 256 ^ 7 := Nat.pow_le_pow_right (by omega) (by rw [List.length_take]; omega)
  have h3 : (256 : Nat) ^ 7 = 72057594037927936 := by decide
  omega
theorem getN_take_succ (xs : List UInt8) (j : Nat) (h : j < xs.length) : getN (xs.take (j + 1)) = getN (xs.take j) * 256 + (xs[j]).toNat := by
  rw [List.take_succ_eq_append_getElem h, getN_snoc]

theorem or_byte (n b : Nat) (hn : n < 72057594037927936) (hb : b < 256) :
    bits BinOp.or IntKind.u64 (IntKind.u64.wrap ((n : Int) * 256)) (IntKind.u64.wrap (b : Int)) = ((n * 256 + b : Nat) : Int) := by
  have h1 : IntKind.u64.wrap ((n : Int) * 256) = ((n * 256 : Nat) : Int) := by rw [IntKind.wrap_u64]; omega
  have h2 : IntKind.u64.wrap (b : Int) = (b : Int) := by rw [IntKind.wrap_u64]; omega
  rw [h1, h2, u64_or_nat _ _ (by omega) (by omega)]
  congr 1
  have := Nat.shiftLeft_add_eq_or_of_lt (i := 8) (b := b) (by omega) n
  rw [Nat.shiftLeft_eq, show (2 : Nat) ^ 8 = 256 from rfl] at this
  exact this.symm
theorem add_byte (n b : Nat) (hn : n < 72057594037927936) (hb : b < 256) :
    IntKind.u64.wrap (IntKind.u64.wrap ((n : Int) * 256) + IntKind.u64.wrap (b : Int)) = ((n * 256 + b : Nat) : Int) := by
  simp only [IntKind.wrap_u64]
  omega

end Go.Proofs.Ytkceipkgebgigaa
end
section
namespace Go.Proofs.Ytkceipkgebgigaa
set_option maxRecDepth 100000

/-- A reader: what is left, and whether it is bad. -/
structure St where
  ys : List UInt8
  bad : Bool

def numOk (s : St) (wd : Int) : Prop := s.bad = false ∧ 1 ≤ wd ∧ wd ≤ 8 ∧ wd ≤ s.ys.length
instance (s : St) (wd : Int) : Decidable (numOk s wd) := by unfold numOk; exact inferInstance
def numV (s : St) (wd : Int) : Nat := if numOk s wd then getN (s.ys.take wd.toNat) else 0
def numS (s : St) (wd : Int) : St := if numOk s wd then ⟨s.ys.drop wd.toNat, false⟩ else ⟨[], true⟩

def takeOk (s : St) (n : Int) : Prop := s.bad = false ∧ 0 ≤ n ∧ n ≤ s.ys.length
instance (s : St) (n : Int) : Decidable (takeOk s n) := by unfold takeOk; exact inferInstance
def takeV (s : St) (n : Int) : List UInt8 := if takeOk s n then s.ys.take n.toNat else []
def takeS (s : St) (n : Int) : St := if takeOk s n then ⟨s.ys.drop n.toNat, false⟩ else ⟨[], true⟩

def txtOk (s : St) (most : Int) : Prop := s.bad = false ∧ 2 ≤ s.ys.length ∧ (getN (s.ys.take 2) : Int) ≤ most ∧ getN (s.ys.take 2) ≤ 1024 ∧ getN (s.ys.take 2) + 2 ≤ s.ys.length
instance (s : St) (n : Int) : Decidable (txtOk s n) := by unfold txtOk; exact inferInstance
def txtV (s : St) (most : Int) : List UInt8 := if txtOk s most then (s.ys.drop 2).take (getN (s.ys.take 2)) else []
def txtS (s : St) (most : Int) : St := if txtOk s most then ⟨(s.ys.drop 2).drop (getN (s.ys.take 2)), false⟩ else ⟨[], true⟩

end Go.Proofs.Ytkceipkgebgigaa
end
section
namespace Go.Proofs.Ytkceipkgebgigaa
set_option maxRecDepth 100000

theorem takeH_at {P : Program} {md : Region.Mode} {ops : Array Oper} {Q : Exit → Act → World → Prop} {S : World → Prop} (i d : Nat) {oi : Oper} {v : Value} {fuel : Nat} {listed : Array Bool} {a : Act} {w : World} (hi : ops[i]? = some oi) (hd : oi.dst = some d)
    (hs : Region.noSelect ops = true) (hf : Region.free md ops listed i = true) (hr : (Region.ready md ops listed).contains i = true)
    (hQ : ∀ c a w, Q (.panic c) (a.put (some d) v) w → Q (.panic c) a w) (hy : YieldsIf P ops S oi v a) (hS : S w)
    (h : wpAnyH P md ops Q S fuel (listed.setIfInBounds i true) (a.put (some d) v) w) : wpAnyH P md ops Q S (fuel + 1) listed a w :=
  wpAnyH_take hi hs hf hr (by rw [hd]; exact hQ) hy hS (by rw [hd]; exact h)

end Go.Proofs.Ytkceipkgebgigaa
end
section
namespace Go.Proofs.Ytkceipkgebgigaa
set_option maxRecDepth 100000

def rest (f : Nat → List UInt8) (m j : Nat) : List UInt8 := (List.range' j (m - j)).flatMap f
end Go.Proofs.Ytkceipkgebgigaa
end
