/- Timers, plain: a list in the order of their ticks. No condition. -/
import Derived.Test.YtkebgcalphajhaaRows
namespace Go.Proofs.Ytkebgcalphajhaa
def lastT : Nat := 18446744073709551615
section
variable {κ : Type}
def insT (O : List (κ × Nat)) (t : κ × Nat) : List (κ × Nat) := O.filter (fun s => decide (s.2 ≤ t.2)) ++ t :: O.filter (fun s => decide (t.2 < s.2))
def ordT (L : List (κ × Nat)) : List (κ × Nat) := L.foldl insT []
def cutT [DecidableEq κ] (L : List (κ × Nat)) (k : κ) : List (κ × Nat) := L.filter (fun s => decide (s.1 ≠ k))
def SrtT (O : List (κ × Nat)) : Prop := O.Pairwise (fun a b => a.2 ≤ b.2)
def dueT (now : Nat) (t : κ × Nat) : Bool := decide (t.2 ≠ lastT) && decide (t.2 ≤ now)
def hasT [DecidableEq κ] (L : List (κ × Nat)) (k : κ) : Bool := L.any (fun s => decide (s.1 = k))
def setT [DecidableEq κ] (L : List (κ × Nat)) (most : Nat) (t : κ × Nat) : List (κ × Nat) := if hasT L t.1 = false ∧ most ≤ L.length then L else cutT L t.1 ++ [t]
def setE [DecidableEq κ] (L : List (κ × Nat)) (most : Nat) (t : κ × Nat) : Nat := if hasT L t.1 = false ∧ most ≤ L.length then 31 else 0
theorem split_srt {O : List (κ × Nat)} (h : SrtT O) (a : Nat) : O.filter (fun s => decide (s.2 ≤ a)) ++ O.filter (fun s => decide (a < s.2)) = O := by
  induction O with
  | nil => rfl
  | cons x O ih =>
    have h1 := List.pairwise_cons.1 h
    by_cases hx : x.2 ≤ a
    · have hx2 : ¬ a < x.2 := by omega
      simp only [List.filter_cons, hx, hx2, decide_true, decide_false, if_true, Bool.false_eq_true, if_false, List.cons_append]
      rw [ih h1.2]
    · have hx2 : a < x.2 := by omega
      have e1 : O.filter (fun s => decide (s.2 ≤ a)) = [] := List.filter_eq_nil_iff.2 fun y hy => by have := h1.1 y hy; simp; omega
      have e2 := ih h1.2
      rw [e1] at e2
      simp only [List.filter_cons, hx, hx2, decide_true, decide_false, if_true, Bool.false_eq_true, if_false, e1, List.nil_append]
      rw [show O.filter (fun s => decide (a < s.2)) = O from e2]
theorem insT_srt {O : List (κ × Nat)} (h : SrtT O) (t : κ × Nat) : SrtT (insT O t) := by
  unfold insT SrtT
  refine List.pairwise_append.2 ⟨h.filter _, List.pairwise_cons.2 ⟨?_, h.filter _⟩, ?_⟩
  · intro b hb
    have := (List.mem_filter.1 hb).2
    have := of_decide_eq_true this
    omega
  · intro a ha b hb
    have h1 := of_decide_eq_true (List.mem_filter.1 ha).2
    rcases List.mem_cons.1 hb with rfl | hb
    · exact h1
    · have h2 := of_decide_eq_true (List.mem_filter.1 hb).2
      omega
theorem foldl_srt (L : List (κ × Nat)) : ∀ O : List (κ × Nat), SrtT O → SrtT (L.foldl insT O) := by
  induction L with
  | nil => intro O h; exact h
  | cons x L ih => intro O h; exact ih _ (insT_srt h x)
theorem ordT_srt (L : List (κ × Nat)) : SrtT (ordT L) := foldl_srt L [] List.Pairwise.nil
theorem ordT_snoc (L : List (κ × Nat)) (t : κ × Nat) : ordT (L ++ [t]) = insT (ordT L) t := by unfold ordT; rw [List.foldl_append]; rfl
theorem insT_filter {O : List (κ × Nat)} (h : SrtT O) (t : κ × Nat) (p : κ × Nat → Bool) : (insT O t).filter p = if p t = true then insT (O.filter p) t else O.filter p := by
  unfold insT
  rw [List.filter_append, List.filter_cons]
  by_cases hp : p t = true
  · rw [if_pos hp, if_pos hp, List.filter_filter, List.filter_filter, List.filter_filter, List.filter_filter]
    congr 1
    · apply List.filter_congr; intro x _; exact Bool.and_comm _ _
    · congr 1
      apply List.filter_congr; intro x _; exact Bool.and_comm _ _
  · rw [if_neg hp, if_neg hp, ← List.filter_append, split_srt h]
theorem foldl_filter (p : κ × Nat → Bool) (L : List (κ × Nat)) : ∀ O : List (κ × Nat), SrtT O → (L.filter p).foldl insT (O.filter p) = (L.foldl insT O).filter p := by
  induction L with
  | nil => intro O _; rfl
  | cons x L ih =>
    intro O h
    rw [List.foldl_cons, ← ih _ (insT_srt h x), insT_filter h, List.filter_cons]
    by_cases hp : p x = true
    · rw [if_pos hp, if_pos hp, List.foldl_cons]
    · rw [if_neg hp, if_neg hp]
theorem ordT_filter (L : List (κ × Nat)) (p : κ × Nat → Bool) : ordT (L.filter p) = (ordT L).filter p := foldl_filter p L [] List.Pairwise.nil
theorem ordT_cut [DecidableEq κ] (L : List (κ × Nat)) (k : κ) : ordT (cutT L k) = cutT (ordT L) k := ordT_filter L _
theorem insT_perm {O : List (κ × Nat)} (h : SrtT O) (t : κ × Nat) : (insT O t).Perm (t :: O) := by
  unfold insT
  refine List.perm_middle.trans ?_
  rw [split_srt h]
theorem foldl_perm (L : List (κ × Nat)) : ∀ O : List (κ × Nat), SrtT O → (L.foldl insT O).Perm (L ++ O) := by
  induction L with
  | nil => intro O _; exact List.Perm.refl _
  | cons x L ih =>
    intro O h
    refine (ih _ (insT_srt h x)).trans ?_
    refine (List.Perm.append_left L (insT_perm h x)).trans ?_
    exact List.perm_middle
theorem ordT_perm (L : List (κ × Nat)) : (ordT L).Perm L := by
  have := foldl_perm L [] List.Pairwise.nil
  rwa [List.append_nil] at this
theorem ordT_length (L : List (κ × Nat)) : (ordT L).length = L.length := (ordT_perm L).length_eq
theorem mem_ordT (L : List (κ × Nat)) (t : κ × Nat) : t ∈ ordT L ↔ t ∈ L := (ordT_perm L).mem_iff
theorem hasT_iff [DecidableEq κ] (L : List (κ × Nat)) (k : κ) : hasT L k = true ↔ ∃ a, (k, a) ∈ L := by
  unfold hasT
  rw [List.any_eq_true]
  constructor
  · rintro ⟨⟨k', a⟩, h, e⟩
    have e := of_decide_eq_true e
    exact ⟨a, by rw [← show k' = k from e]; exact h⟩
  · rintro ⟨a, h⟩
    exact ⟨_, h, decide_eq_true rfl⟩
theorem hasT_ord [DecidableEq κ] (L : List (κ × Nat)) (k : κ) : hasT (ordT L) k = hasT L k := by
  rw [Bool.eq_iff_iff, hasT_iff, hasT_iff]
  simp only [mem_ordT]
/-- Every key stands once. -/
def UniT (L : List (κ × Nat)) : Prop := (L.map Prod.fst).Nodup
theorem uni_ord {L : List (κ × Nat)} (h : UniT L) : UniT (ordT L) := (((ordT_perm L).map Prod.fst).nodup_iff).2 h
theorem uni_filter {L : List (κ × Nat)} (h : UniT L) (p : κ × Nat → Bool) : UniT (L.filter p) := List.Sublist.nodup (List.Sublist.map _ List.filter_sublist) h
theorem uni_cut_snoc [DecidableEq κ] {L : List (κ × Nat)} (h : UniT L) (t : κ × Nat) : UniT (cutT L t.1 ++ [t]) := by
  unfold UniT
  rw [List.map_append]
  refine List.nodup_append.2 ⟨uni_filter h _, by simp, ?_⟩
  intro a ha b hb
  rw [List.map_cons, List.map_nil, List.mem_singleton] at hb
  obtain ⟨x, hx, rfl⟩ := List.mem_map.1 ha
  rw [hb]
  exact of_decide_eq_true (List.mem_filter.1 hx).2
theorem uni_eq {L : List (κ × Nat)} (h : UniT L) {k : κ} {a b : Nat} (ha : (k, a) ∈ L) (hb : (k, b) ∈ L) : a = b := by
  induction L with
  | nil => cases ha
  | cons x L ih =>
    have h1 := List.nodup_cons.1 h
    rcases List.mem_cons.1 ha with e1 | ha1
    · rcases List.mem_cons.1 hb with e2 | hb1
      · rw [← e1] at e2
        injection e2 with _ e2
        exact e2.symm
      · refine absurd (List.mem_map.2 ⟨(k, b), hb1, ?_⟩) h1.1
        rw [← e1]
    · rcases List.mem_cons.1 hb with e2 | hb1
      · refine absurd (List.mem_map.2 ⟨(k, a), ha1, ?_⟩) h1.1
        rw [← e2]
      · exact ih h1.2 ha1 hb1
/-- Where a key stands: what is ahead of it doesn't have it. -/
theorem split_has [DecidableEq κ] {L : List (κ × Nat)} {k : κ} (h : hasT L k = true) : ∃ P a D, L = P ++ (k, a) :: D ∧ hasT P k = false := by
  induction L with
  | nil => cases h
  | cons x L ih =>
    by_cases hx : x.1 = k
    · exact ⟨[], x.2, L, by rw [← hx]; rfl, rfl⟩
    · have h1 : hasT L k = true := by simpa [hasT, hx] using h
      obtain ⟨P, a, D, rfl, hP⟩ := ih h1
      exact ⟨x :: P, a, D, rfl, by simpa [hasT, hx] using hP⟩
theorem cut_none [DecidableEq κ] {L : List (κ × Nat)} {k : κ} (h : hasT L k = false) : cutT L k = L := by
  unfold cutT
  refine List.filter_eq_self.2 fun x hx => decide_eq_true fun e => ?_
  have : hasT L k = true := (hasT_iff L k).2 ⟨x.2, by rw [← e]; exact hx⟩
  rw [h] at this
  cases this
theorem cut_split [DecidableEq κ] {P D : List (κ × Nat)} {k : κ} {a : Nat} (h : UniT (P ++ (k, a) :: D)) (hP : hasT P k = false) : cutT (P ++ (k, a) :: D) k = P ++ D := by
  have hD : hasT D k = false := by
    cases hh : hasT D k with
    | false => rfl
    | true =>
      obtain ⟨b, hb⟩ := (hasT_iff D k).1 hh
      unfold UniT at h
      rw [List.map_append, List.map_cons] at h
      have := (List.nodup_append.1 h).2.1
      exact absurd (List.mem_map.2 ⟨_, hb, rfl⟩) (List.nodup_cons.1 this).1
  have e1 := cut_none hP
  have e2 := cut_none hD
  unfold cutT at e1 e2 ⊢
  rw [List.filter_append, List.filter_cons, if_neg (by simp), e1, e2]
theorem due_take {O : List (κ × Nat)} (h : SrtT O) (hl : ∀ t ∈ O, t.2 ≤ lastT) (now : Nat) : O.takeWhile (dueT now) = O.filter (dueT now) ∧ O.dropWhile (dueT now) = O.filter (fun t => !dueT now t) := by
  induction O with
  | nil => exact ⟨rfl, rfl⟩
  | cons x O ih =>
    have h1 := List.pairwise_cons.1 h
    by_cases hx : dueT now x = true
    · have := ih h1.2 (fun t ht => hl t (List.mem_cons_of_mem _ ht))
      simp only [List.takeWhile_cons, List.dropWhile_cons, List.filter_cons, hx, if_true, Bool.not_true, Bool.false_eq_true, if_false]
      exact ⟨by rw [this.1], this.2⟩
    · have hf : ∀ y ∈ O, dueT now y = false := by
        intro y hy
        have hxy := h1.1 y hy
        have hyl := hl y (List.mem_cons_of_mem _ hy)
        cases hd : dueT now y with
        | false => rfl
        | true =>
          refine absurd ?_ hx
          unfold dueT at hd ⊢
          simp only [Bool.and_eq_true, decide_eq_true_eq] at hd ⊢
          omega
      have hx' : dueT now x = false := by simpa using hx
      simp only [List.takeWhile_cons, List.dropWhile_cons, List.filter_cons, hx', Bool.not_false, Bool.false_eq_true, if_true, if_false]
      refine ⟨(List.filter_eq_nil_iff.2 fun y hy => by rw [hf y hy]; simp).symm, ?_⟩
      congr 1
      exact (List.filter_eq_self.2 fun y hy => by rw [hf y hy]; rfl).symm
theorem ordT_of_srt {O : List (κ × Nat)} (h : SrtT O) : ∀ P : List (κ × Nat), SrtT P → (∀ a ∈ P, ∀ b ∈ O, a.2 ≤ b.2) → O.foldl insT P = P ++ O := by
  induction O with
  | nil => intro P _ _; simp
  | cons x O ih =>
    intro P hP hle
    have h1 := List.pairwise_cons.1 h
    have e1 : insT P x = P ++ [x] := by
      have hs := split_srt hP x.2
      have e2 : P.filter (fun s => decide (x.2 < s.2)) = [] := List.filter_eq_nil_iff.2 fun y hy => by have := hle y hy x (by simp); simp; omega
      unfold insT
      rw [e2] at hs ⊢
      rw [List.append_nil] at hs
      rw [hs]
    rw [List.foldl_cons, e1, ih h1.2 (P ++ [x]) (by rw [← e1]; exact insT_srt hP x)]
    · simp
    · intro a ha b hb
      rcases List.mem_append.1 ha with ha | ha
      · exact hle a ha b (List.mem_cons_of_mem _ hb)
      · rw [List.mem_singleton.1 ha]; exact h1.1 b hb
/-- Behind all up to a tick. -/
def behT (O : List (κ × Nat)) (a : Nat) : Nat := (O.filter (fun s => decide (s.2 ≤ a))).length
theorem beh_le (O : List (κ × Nat)) (a : Nat) : behT O a ≤ O.length := List.length_filter_le _ _
theorem insT_at {O : List (κ × Nat)} (h : SrtT O) (t : κ × Nat) : insT O t = O.take (behT O t.2) ++ t :: O.drop (behT O t.2) := by
  have hs := split_srt h t.2
  have e1 : O.take (behT O t.2) = O.filter (fun s => decide (s.2 ≤ t.2)) := by
    unfold behT
    conv => lhs; rw [← hs]
    rw [List.filter_append]
    have : (O.filter (fun s => decide (t.2 < s.2))).filter (fun s => decide (s.2 ≤ t.2)) = [] := List.filter_eq_nil_iff.2 fun y hy => by have := of_decide_eq_true (List.mem_filter.1 hy).2; simp; omega
    rw [this, List.append_nil, List.filter_filter]
    simp
  have e2 : O.drop (behT O t.2) = O.filter (fun s => decide (t.2 < s.2)) := by
    have := List.take_append_drop (behT O t.2) O
    rw [e1] at this
    exact List.append_cancel_left (this.trans hs.symm)
  unfold insT
  rw [e1, e2]
/-- What the place says of each tick. -/
theorem beh_iff {O : List (κ × Nat)} (h : SrtT O) (a i : Nat) (hi : i < O.length) : a < O[i].2 ↔ behT O a ≤ i := by
  have hs := split_srt h a
  have hl : behT O a = (O.filter (fun s => decide (s.2 ≤ a))).length := rfl
  have e : (O.filter (fun s => decide (s.2 ≤ a)) ++ O.filter (fun s => decide (a < s.2)))[i]? = some O[i] := by rw [hs, List.getElem?_eq_getElem hi]
  by_cases hlt : i < behT O a
  · rw [List.getElem?_append_left (by omega)] at e
    have := of_decide_eq_true (List.mem_filter.1 (List.mem_of_getElem? e)).2
    omega
  · rw [List.getElem?_append_right (by omega)] at e
    have := of_decide_eq_true (List.mem_filter.1 (List.mem_of_getElem? e)).2
    omega
end
end Go.Proofs.Ytkebgcalphajhaa
