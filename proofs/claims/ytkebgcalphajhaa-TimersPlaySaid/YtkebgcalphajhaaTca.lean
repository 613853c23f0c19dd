/- TimersOnce: the map of what is left and the table's list say the same. Conditions: every key stands once. -/
import Derived.Test.YtkebgcalphajhaaTac
import Derived.Maps.OwnSet
import Derived.WalkKit
namespace Go.Proofs.Ytkebgcalphajhaa
open Go.RowKit Go.Maps
set_option maxRecDepth 100000
set_option maxHeartbeats 400000
def kL (k : Int) : Lit := .int .i64 k
theorem kL_ne {a b : Int} (h : a ≠ b) : kL a ≠ kL b := fun e => h (by injection e)
theorem kL_key (k : Int) : WideAt.IsKeyLit (kL k) := trivial
/-- The map has the timers of L. -/
structure TieT (L : List (Int × Nat)) (D : DataW Unit) : Prop where
  tidy : Tidy D
  has : ∀ k, Maps.has D (kL k) = hasT L k
  at_ : ∀ k a, (k, a) ∈ L → D.atKey (kL k) (.lit (.int .u64 0)) = .lit (.int .u64 (a : Int))
  size : Maps.size D = L.length
theorem tie_nil : TieT [] (.map []) := ⟨tidy_empty, fun _ => rfl, fun _ _ h => (List.not_mem_nil h).elim, rfl⟩
theorem hasT_cut (L : List (Int × Nat)) (k k' : Int) : hasT (cutT L k) k' = (decide (k' ≠ k) && hasT L k') := by
  rw [Bool.eq_iff_iff, Bool.and_eq_true, hasT_iff, hasT_iff, decide_eq_true_eq]
  constructor
  · rintro ⟨a, h⟩
    have h := List.mem_filter.1 h
    exact ⟨of_decide_eq_true h.2, a, h.1⟩
  · rintro ⟨h1, a, h⟩
    exact ⟨a, List.mem_filter.2 ⟨h, decide_eq_true h1⟩⟩
theorem cut_length {L : List (Int × Nat)} (hu : UniT L) (k : Int) : (cutT L k).length + (if hasT L k = true then 1 else 0) = L.length := by
  cases h : hasT L k with
  | false => rw [cut_none h]; simp
  | true =>
    obtain ⟨P, a, D, rfl, hP⟩ := split_has h
    rw [cut_split hu hP]
    simp
    omega
theorem tie_del {L : List (Int × Nat)} {D : DataW Unit} (h : TieT L D) (hu : UniT L) (k : Int) : TieT (cutT L k) (D.del (kL k)) := by
  refine ⟨h.tidy.del _, fun k' => ?_, fun k' a hm => ?_, ?_⟩
  · rw [hasT_cut]
    by_cases e : k' = k
    · subst e
      rw [has_del_same]
      simp
    · rw [has_del_other (kL_ne e), h.has]
      simp [e]
  · have hm := List.mem_filter.1 hm
    have e : k' ≠ k := of_decide_eq_true hm.2
    rw [atKey_del_other (kL_ne e)]
    exact h.at_ _ _ hm.1
  · have e1 := size_del (k := kL k) h.tidy
    have e2 := cut_length hu k
    rw [h.has, h.size] at e1
    omega
theorem mem_insT {O : List (Int × Nat)} (hs : SrtT O) (t x : Int × Nat) : x ∈ insT O t ↔ x = t ∨ x ∈ O := by
  rw [(insT_perm hs t).mem_iff, List.mem_cons]
theorem hasT_ins {O : List (Int × Nat)} (hs : SrtT O) (t : Int × Nat) (k : Int) : hasT (insT O t) k = (decide (t.1 = k) || hasT O k) := by
  rw [Bool.eq_iff_iff, Bool.or_eq_true, hasT_iff, hasT_iff, decide_eq_true_eq]
  simp only [mem_insT hs]
  constructor
  · rintro ⟨a, h | h⟩
    · exact .inl (by rw [← h])
    · exact .inr ⟨a, h⟩
  · rintro (h | ⟨a, h⟩)
    · exact ⟨t.2, .inl (by rw [← h])⟩
    · exact ⟨a, .inr h⟩
theorem cut_srt {O : List (Int × Nat)} (hs : SrtT O) (k : Int) : SrtT (cutT O k) := hs.filter _
theorem tie_put {L : List (Int × Nat)} {D : DataW Unit} (h : TieT L D) (hu : UniT L) (hs : SrtT L) (k : Int) (a : Nat) : TieT (insT (cutT L k) (k, a)) (D.put (kL k) (.lit (.int .u64 (a : Int)))) := by
  have hsc := cut_srt hs k
  refine ⟨h.tidy.put (kL_key k) _, fun k' => ?_, fun k' a' hm => ?_, ?_⟩
  · rw [hasT_ins hsc, hasT_cut]
    by_cases e : k' = k
    · subst e
      rw [has_put_same h.tidy.isMap (kL_key k')]
      simp
    · rw [has_put_other (kL_ne e), h.has]
      simp [e, Ne.symm e]
  · rcases (mem_insT hsc _ _).1 hm with e | hm
    · injection e with e1 e2
      rw [e1, e2, atKey_put_same h.tidy.isMap (kL_key k)]
    · have hm := List.mem_filter.1 hm
      have e : k' ≠ k := of_decide_eq_true hm.2
      rw [atKey_put_other (kL_ne e)]
      exact h.at_ _ _ hm.1
  · have e1 := size_put (k := kL k) h.tidy (.lit (.int .u64 (a : Int)))
    have e2 := cut_length hu k
    rw [(insT_perm hsc _).length_eq, List.length_cons, e1, h.has, h.size]
    split <;> simp_all <;> omega
/-- Another list of the same timers. -/
theorem TieT.perm {L L' : List (Int × Nat)} {D : DataW Unit} (h : TieT L D) (hp : L.Perm L') : TieT L' D := by
  refine ⟨h.tidy, fun k => ?_, fun k a hm => h.at_ k a (hp.mem_iff.2 hm), h.size.trans hp.length_eq⟩
  rw [h.has, Bool.eq_iff_iff, hasT_iff, hasT_iff]
  simp only [hp.mem_iff]
theorem tie_pop {k : Int} {a : Nat} {L : List (Int × Nat)} {D : DataW Unit} (h : TieT ((k, a) :: L) D) (hu : UniT ((k, a) :: L)) : TieT L (D.del (kL k)) := by
  have := tie_del h hu k
  have e := cut_split (P := []) (D := L) (k := k) (a := a) hu rfl
  rw [List.nil_append] at e
  rwa [e] at this
/-- Keys are numbers of 64 bits, ticks too. -/
def GdT (L : List (Int × Nat)) : Prop := ∀ t ∈ L, (Lit.int .i64 t.1).wf = true ∧ (Lit.int .u64 (t.2 : Int)).wf = true ∧ t.2 ≤ lastT
theorem gd_put {O : List (Int × Nat)} (hg : GdT O) (hs : SrtT O) (t : Int × Nat) (ht : (Lit.int .i64 t.1).wf = true ∧ (Lit.int .u64 (t.2 : Int)).wf = true ∧ t.2 ≤ lastT) : GdT (insT (cutT O t.1) t) := fun x hx => by
  rcases (mem_insT (cut_srt hs _) _ _).1 hx with rfl | hx
  · exact ht
  · exact hg x (List.mem_filter.1 hx).1
theorem uni_put {O : List (Int × Nat)} (hu : UniT O) (hs : SrtT O) (t : Int × Nat) : UniT (insT (cutT O t.1) t) := by
  have h1 := uni_cut_snoc hu t
  have hp : (insT (cutT O t.1) t).Perm (cutT O t.1 ++ [t]) := (insT_perm (cut_srt hs _) t).trans (List.perm_append_singleton _ _).symm
  exact ((hp.map Prod.fst).nodup_iff).2 h1
theorem map_same {w w' : World} {b n : Nat} {D : DataW Unit} {R : Value → Option (DataW Unit × List MemPlace)} (h : w.ownsMap Try.prog 3 R b n D) (hb : w'.heap[b]? = w.heap[b]?) : w'.ownsMap Try.prog 3 R b n D := by
  obtain ⟨es, clock, h1, h2⟩ := h
  exact ⟨es, clock, hb.trans h1, h2⟩
theorem map_not {w : World} {b n : Nat} {D : DataW Unit} {R : Value → Option (DataW Unit × List MemPlace)} (h : w.ownsMap Try.prog 3 R b n D) {e k m : Nat} {v : Value} {xs : List Value} (hr : RowAt w e k v m xs) : v.ownBlock ≠ some b := fun hv => by
  obtain ⟨es, clock, h1, _⟩ := h
  rcases hr.2 with ⟨rfl, _⟩ | ⟨g, off, cap, cur, rfl, hg, _⟩
  · cases hv
  · have hv : some g = some b := hv
    injection hv with hv
    rw [← hv, hg] at h1
    cases h1
end Go.Proofs.Ytkebgcalphajhaa
