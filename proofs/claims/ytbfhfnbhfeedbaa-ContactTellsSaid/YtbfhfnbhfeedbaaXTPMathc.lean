/- Numbers and texts that are put and read again: plain lemmas without a program. No condition. Contract of the reference's Bytes of layer addr. Conditions: a host fits 32 bits, a port 16. Plain facts of addresses for the three statements of layer addr. Conditions: host below 2^32, port below 2^16. Plain facts on the bytes of contacts and of lists of contacts, for layer 8. No program, no condition. -/
import Derived.Test.YtbfhfnbhfeedbaaXMRwa
import Derived.WalkKit
import Derived.Deep.AppendSrc
import Derived.Laws.BytesString
import Derived.Laws.CopyOwn
import Derived.Deep.AppendLies
import Derived.Deep.Draws
import Derived.WalkSpells
import Derived.Test.YtbfhfnbhfeedbaaRows
import Derived.WalkLawsBesides
import Derived.Lib.Hide
import Derived.Outline
import Derived.Laws.BitsAllLaws
import Derived.Laws.BitsLemmas
import Derived.Laws.Bits64
import Derived.LoopTactic
import Derived.Deep.MidRow
import Derived.BigQuiet
import Derived.RegionTactic
import Derived.RegionCalls
import Derived.Deep.RegionHeld3
import Derived.Deep.QuietTactic
import Derived.Deep.DeepCutAuto
import Derived.Great.BuildSlice
import Derived.Lib.SlBytesConst
import Derived.Stop.BytesEq
import Derived.Lib.ConvBytes
import Derived.StillTailTactics
import Derived.Sort.Grow
import Derived.Shelf.SlicesE.Clone
import Derived.Lib.OwnBridge
import Derived.Lib.SliceRun
import Derived.Below
import Derived.ProofKit
import Derived.OpenShut
import Derived.Laws.Tables
section
namespace Go.Proofs.Ytbfhfnbhfeedbaa
set_option maxRecDepth 100000

theorem putB_succ (N k : Nat) : putB N (k + 1) = putB (N / 256) k ++ [UInt8.ofNat N] := by
  unfold putB
  rw [List.range_succ, List.map_append]
  congr 1
  · apply List.map_congr_left
    intro i hi
    have hi : i < k := by simpa using hi
    congr 1
    rw [Nat.div_div_eq_div_mul, show (256 : Nat) = 2 ^ 8 from rfl, ← Nat.pow_add]
    congr 2
    omega
  · simp

theorem getN_putB (k : Nat) : ∀ N : Nat, getN (putB N k) = N % 256 ^ k := by
  induction k with
  | zero => intro N; simp [putB, getN, Nat.mod_one]
  | succ k ih =>
    intro N
    rw [putB_succ, getN_snoc, ih]
    have h1 : (UInt8.ofNat N).toNat = N % 256 := by simp
    rw [h1, Nat.pow_succ, Nat.mul_comm (256 ^ k) 256, Nat.mod_mul]
    omega

theorem putB_getN (k : Nat) : ∀ ys : List UInt8, ys.length = k → putB (getN ys) k = ys := by
  induction k with
  | zero => intro ys h; have := List.eq_nil_of_length_eq_zero h; subst this; rfl
  | succ k ih =>
    intro ys h
    have hne : ys ≠ [] := by intro e; subst e; simp at h
    have hy := List.dropLast_concat_getLast hne
    rw [putB_succ]
    rw [← hy, getN_snoc]
    have hb := (ys.getLast hne).toNat_lt
    have e1 : (getN ys.dropLast * 256 + (ys.getLast hne).toNat) / 256 = getN ys.dropLast := by omega
    rw [e1, ih _ (by rw [List.length_dropLast]; omega)]
    congr 2
    apply UInt8.toNat.inj
    simp

end Go.Proofs.Ytbfhfnbhfeedbaa
end
section
namespace Go.Proofs.Ytbfhfnbhfeedbaa
set_option maxRecDepth 100000
set_option maxHeartbeats 1000000
open Go.RowKit Go.Lib Go.Great

theorem adB_length (h p : Nat) : (adB h p).length = 6 := by unfold adB; rw [List.length_append, putB_length, putB_length]
end Go.Proofs.Ytbfhfnbhfeedbaa
end
section
namespace Go.Proofs.Ytbfhfnbhfeedbaa
set_option maxRecDepth 100000
open Go.RowKit Go.Lib Go.Great

theorem adB_take (h p : Nat) (hh : h < 4294967296) : getN ((adB h p).take 4) = h := by
  unfold adB
  rw [List.take_append_of_le_length (by rw [putB_length]; exact Nat.le_refl _), putB_all, getN_putB]
  exact Nat.mod_eq_of_lt hh
theorem adB_drop (h p : Nat) (hp : p < 65536) : getN (((adB h p).drop 4).take 2) = p := by
  unfold adB
  rw [List.drop_append_of_le_length (by rw [putB_length]; exact Nat.le_refl _), List.drop_of_length_le (by rw [putB_length]; exact Nat.le_refl _), List.nil_append, putB_all, getN_putB]
  exact Nat.mod_eq_of_lt hp
/-- What Read tells: a good address with just those bytes, or none. -/
theorem readV_is (xs : List UInt8) : (∃ h p : Nat, h < 4294967296 ∧ p < 65536 ∧ h ≠ 0 ∧ p ≠ 0 ∧ adB h p = xs ∧ readV xs = .tuple #[.agg (adr h p), .int .i64 0]) ∨ readV xs = .tuple #[.agg (adr 0 0), .int .i64 10] := by
  by_cases hx : xs.length = 6 ∧ getN (xs.take 4) ≠ 0 ∧ getN ((xs.drop 4).take 2) ≠ 0
  · refine .inl ⟨getN (xs.take 4), getN ((xs.drop 4).take 2), ?_, ?_, hx.2.1, hx.2.2, ?_, by unfold readV; rw [if_pos hx]⟩
    · have := getN_lt (xs.take 4)
      rw [List.length_take, hx.1] at this
      simpa using this
    · have := getN_lt ((xs.drop 4).take 2)
      rw [List.length_take, List.length_drop, hx.1] at this
      simpa using this
    · unfold adB
      rw [putB_getN 4 _ (by rw [List.length_take, hx.1]; rfl), putB_getN 2 _ (by rw [List.length_take, List.length_drop, hx.1]; rfl), List.take_of_length_le (l := xs.drop 4) (by rw [List.length_drop, hx.1]; decide), List.take_append_drop]
  · exact .inr (by unfold readV; rw [if_neg hx])
end Go.Proofs.Ytbfhfnbhfeedbaa
end
section
namespace Go.Proofs.Ytbfhfnbhfeedbaa
set_option maxRecDepth 100000

/-- A contact: an id's bytes, a host, a port. -/
abbrev Ct : Type := List UInt8 × Nat × Nat
structure CtOk (c : Ct) : Prop where
  id : c.1.length = 20
  hh : c.2.1 < 4294967296
  hp : c.2.2 < 65536
def ctB (c : Ct) : List UInt8 := c.1 ++ adB c.2.1 c.2.2
def ctGood (c : Ct) : Bool := goodB c.2.1 c.2.2
theorem ctB_length {c : Ct} (h : c.1.length = 20) : (ctB c).length = 26 := by unfold ctB; rw [List.length_append, adB_length, h]

/-- The contact of 26 bytes, if they are one. -/
def rdC (b : List UInt8) : Option Ct :=
  if b.length = 26 ∧ getN ((b.drop 20).take 4) ≠ 0 ∧ getN (((b.drop 20).drop 4).take 2) ≠ 0 then some (b.take 20, getN ((b.drop 20).take 4), getN (((b.drop 20).drop 4).take 2)) else none

theorem rdC_ctB {c : Ct} (h : CtOk c) (hg : ctGood c = true) : rdC (ctB c) = some c := by
  have hg' : c.2.1 ≠ 0 ∧ c.2.2 ≠ 0 := by unfold ctGood goodB at hg; simpa using hg
  have e1 : (ctB c).take 20 = c.1 := by unfold ctB; rw [List.take_append_of_le_length (by rw [h.id]; exact Nat.le_refl _), List.take_of_length_le (by rw [h.id]; exact Nat.le_refl _)]
  have e2 : (ctB c).drop 20 = adB c.2.1 c.2.2 := by unfold ctB; rw [List.drop_append_of_le_length (by rw [h.id]; exact Nat.le_refl _), List.drop_of_length_le (by rw [h.id]; exact Nat.le_refl _), List.nil_append]
  unfold rdC
  rw [e1, e2, adB_take _ _ h.hh, adB_drop _ _ h.hp, if_pos ⟨ctB_length h.id, hg'.1, hg'.2⟩]
theorem rdC_some {b : List UInt8} {c : Ct} (h : rdC b = some c) : CtOk c ∧ ctGood c = true ∧ ctB c = b := by
  unfold rdC at h
  split at h
  · rename_i hx
    obtain ⟨h26, hx1, hx2⟩ := hx
    cases h
    have h6 : (b.drop 20).length = 6 := by rw [List.length_drop]; omega
    have hv : readV (b.drop 20) = .tuple #[.agg (adr (getN ((b.drop 20).take 4)) (getN (((b.drop 20).drop 4).take 2))), .int .i64 0] := by unfold readV; rw [if_pos ⟨h6, hx1, hx2⟩]
    rcases readV_is (b.drop 20) with ⟨h', p', a1, a2, a3, a4, a5, a6⟩ | a
    · rw [hv] at a6
      unfold adr at a6
      simp at a6
      have q1 : getN ((b.drop 20).take 4) = h' := by omega
      have q2 : getN (((b.drop 20).drop 4).take 2) = p' := by
        rw [List.drop_drop]
        have := a6.2
        show getN ((b.drop 24).take 2) = p'
        omega
      rw [q1, q2]
      refine ⟨⟨by rw [List.length_take]; omega, a1, a2⟩, by unfold ctGood goodB; simp [a3, a4], ?_⟩
      unfold ctB
      rw [a5, List.take_append_drop]
    · rw [hv] at a
      simp at a
  · cases h

/-- n contacts, one behind another. -/
def rdN : Nat → List UInt8 → Option (List Ct × List UInt8)
  | 0, r => some ([], r)
  | n + 1, r => if r.length < 26 then none else match rdC (r.take 26) with
    | none => none
    | some c => match rdN n (r.drop 26) with
      | none => none
      | some (l, r') => some (c :: l, r')
def flatC (l : List Ct) : List UInt8 := l.flatMap ctB

theorem rdN_flat : ∀ (l : List Ct) (rest : List UInt8), (∀ c ∈ l, CtOk c ∧ ctGood c = true) → rdN l.length (flatC l ++ rest) = some (l, rest) := by
  intro l
  induction l with
  | nil => intro rest _; rfl
  | cons c l ih =>
    intro rest h
    have hc := h c List.mem_cons_self
    have h26 := ctB_length hc.1.id
    have e : flatC (c :: l) ++ rest = ctB c ++ (flatC l ++ rest) := by unfold flatC; rw [List.flatMap_cons, List.append_assoc]
    rw [List.length_cons, rdN, e, if_neg (by rw [List.length_append]; omega)]
    rw [List.take_append_of_le_length (by omega), List.take_of_length_le (by omega), rdC_ctB hc.1 hc.2, List.drop_append_of_le_length (by omega), List.drop_of_length_le (by omega), List.nil_append, ih rest (fun d hd => h d (List.mem_cons_of_mem _ hd))]
theorem rdN_some : ∀ (n : Nat) (r r' : List UInt8) (l : List Ct), rdN n r = some (l, r') → l.length = n ∧ r = flatC l ++ r' ∧ ∀ c ∈ l, CtOk c ∧ ctGood c = true := by
  intro n
  induction n with
  | zero =>
    intro r r' l h
    rw [rdN] at h
    cases h
    exact ⟨rfl, rfl, fun c hc => by cases hc⟩
  | succ n ih =>
    intro r r' l h
    rw [rdN] at h
    split at h
    · cases h
    · rename_i hlen
      split at h
      · cases h
      · rename_i c hc
        split at h
        · cases h
        · rename_i l0 r0 h0
          cases h
          obtain ⟨a1, a2, a3⟩ := ih _ _ _ h0
          obtain ⟨b1, b2, b3⟩ := rdC_some hc
          refine ⟨by rw [List.length_cons, a1], ?_, fun d hd => ?_⟩
          · unfold flatC
            rw [List.flatMap_cons, b3, List.append_assoc]
            show r = r.take 26 ++ (flatC l0 ++ r')
            rw [← a2, List.take_append_drop]
          · rcases List.mem_cons.1 hd with e | hd'
            · subst e; exact ⟨b1, b2⟩
            · exact a3 d hd'

/-- A good list: good contacts, each id once, at most 64. -/
def goodC (l : List Ct) : Bool := l.all ctGood && decide ((l.map (·.1)).Nodup) && decide (l.length ≤ 64)
/-- Its bytes. -/
def listC (l : List Ct) : List UInt8 := UInt8.ofNat l.length :: flatC l
/-- The list at the front of bytes, and what is behind. -/
def rdL : List UInt8 → Option (List Ct × List UInt8)
  | [] => none
  | n :: r => match rdN n.toNat r with
    | none => none
    | some (l, r') => if goodC l then some (l, r') else none
theorem goodC_len {l : List Ct} (h : goodC l = true) : l.length ≤ 64 := by unfold goodC at h; simp at h; exact h.2
theorem goodC_all {l : List Ct} (h : goodC l = true) : ∀ c ∈ l, ctGood c = true := by
  unfold goodC at h
  simp only [Bool.and_eq_true, List.all_eq_true] at h
  exact h.1.1
theorem rdL_list {l : List Ct} (h : goodC l = true) (hok : ∀ c ∈ l, CtOk c) (rest : List UInt8) : rdL (listC l ++ rest) = some (l, rest) := by
  have hl := goodC_len h
  unfold listC
  rw [List.cons_append, rdL, UInt8.toNat_ofNat', Nat.mod_eq_of_lt (show l.length < 2 ^ 8 by omega), rdN_flat l rest (fun c hc => ⟨hok c hc, goodC_all h c hc⟩)]
  simp only [h, if_true]
theorem rdL_some {r r' : List UInt8} {l : List Ct} (h : rdL r = some (l, r')) : goodC l = true ∧ (∀ c ∈ l, CtOk c) ∧ r = listC l ++ r' := by
  cases r with
  | nil => cases h
  | cons n r =>
    rw [rdL] at h
    split at h
    · cases h
    · rename_i l0 r0 h0
      split at h
      · rename_i hg
        cases h
        obtain ⟨a1, a2, a3⟩ := rdN_some _ _ _ _ h0
        refine ⟨hg, fun c hc => (a3 c hc).1, ?_⟩
        unfold listC
        rw [List.cons_append, ← a2, a1, UInt8.ofNat_toNat]
      · cases h
/-- The place of the first contact with an id. -/
def findC (l : List Ct) (id : List UInt8) : Option Nat := l.findIdx? (fun c => c.1 == id)
theorem findC_some {l : List Ct} {id : List UInt8} {i : Nat} : findC l id = some i ↔ ∃ h : i < l.length, (l[i]).1 = id ∧ ∀ j (hj : j < i), (l[j]'(Nat.lt_trans hj h)).1 ≠ id := by
  unfold findC
  rw [List.findIdx?_eq_some_iff_getElem]
  constructor
  · rintro ⟨h, a, b⟩
    exact ⟨h, by simpa using a, fun j hj => by simpa using b j hj⟩
  · rintro ⟨h, a, b⟩
    exact ⟨h, by simpa using a, fun j hj => by simpa using b j hj⟩
/-- Each contact is the first with its id just if no id stands twice. -/
theorem find_nodup (l : List Ct) : (∀ i (h : i < l.length), findC l (l[i]).1 = some i) ↔ (l.map (·.1)).Nodup := by
  rw [List.nodup_iff_pairwise_ne, List.pairwise_map, List.pairwise_iff_getElem]
  constructor
  · intro h i j hi hj hij e
    have a := h i hi
    have b := h j hj
    rw [e, b] at a
    cases a
    exact Nat.lt_irrefl _ hij
  · intro h i hi
    exact findC_some.2 ⟨hi, rfl, fun j hj => h j i (Nat.lt_trans hj hi) hi hj⟩
end Go.Proofs.Ytbfhfnbhfeedbaa
end
