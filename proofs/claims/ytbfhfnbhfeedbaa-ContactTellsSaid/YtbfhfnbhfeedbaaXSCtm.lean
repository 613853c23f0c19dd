/- Plain facts on lists that are sorted by a key, the first of each key kept, for layer 8. No program, no condition. -/
import Derived.Test.YtbfhfnbhfeedbaaXMRwa
import Derived.WalkKit
import Derived.Deep.AppendSrc
import Derived.Laws.BytesString
import Derived.Laws.CopyOwn
import Derived.Deep.AppendLies
import Derived.Deep.Draws
import Derived.WalkSpells
namespace Go.Proofs.Ytbfhfnbhfeedbaa
set_option maxRecDepth 100000

/-- Two lists that rise in the key and have the same members are the same. -/
theorem rising_ext {α : Type} (key : α → Nat) : ∀ (a b : List α), a.Pairwise (key · < key ·) → b.Pairwise (key · < key ·) → (∀ x, x ∈ a ↔ x ∈ b) → a = b := by
  intro a
  induction a with
  | nil =>
    intro b _ _ h
    cases b with
    | nil => rfl
    | cons y b => exact absurd ((h y).2 List.mem_cons_self) (by simp)
  | cons x a ih =>
    intro b ha hb h
    cases b with
    | nil => exact absurd ((h x).1 List.mem_cons_self) (by simp)
    | cons y b =>
      rw [List.pairwise_cons] at ha hb
      have hxy : x = y := by
        rcases List.mem_cons.1 ((h x).1 List.mem_cons_self) with e | hx
        · exact e
        · rcases List.mem_cons.1 ((h y).2 List.mem_cons_self) with e | hy
          · exact e.symm
          · have h1 := hb.1 x hx
            have h2 := ha.1 y hy
            omega
      subst hxy
      rw [ih b ha.2 hb.2 (fun z => ?_)]
      constructor
      · intro hz
        rcases List.mem_cons.1 ((h z).1 (List.mem_cons_of_mem _ hz)) with e | hz'
        · subst e
          have := ha.1 z hz
          omega
        · exact hz'
      · intro hz
        rcases List.mem_cons.1 ((h z).2 (List.mem_cons_of_mem _ hz)) with e | hz'
        · subst e
          have := hb.1 z hz
          omega
        · exact hz'

/-- x, put ahead of the first whose key is not less. -/
def insG {α : Type} (key : α → Nat) (x : α) : List α → List α
  | [] => [x]
  | a :: t => if key a < key x then a :: insG key x t else x :: a :: t

theorem insG_mem {α : Type} (key : α → Nat) (x : α) : ∀ (l : List α) (z : α), z ∈ insG key x l ↔ z = x ∨ z ∈ l := by
  intro l
  induction l with
  | nil => intro z; simp [insG]
  | cons a t ih =>
    intro z
    rw [insG]
    split
    · rw [List.mem_cons, ih, List.mem_cons]
      constructor
      · rintro (h | h | h)
        · exact .inr (.inl h)
        · exact .inl h
        · exact .inr (.inr h)
      · rintro (h | h | h)
        · exact .inr (.inl h)
        · exact .inl h
        · exact .inr (.inr h)
    · exact List.mem_cons

theorem insG_rising {α : Type} (key : α → Nat) (x : α) : ∀ (l : List α), l.Pairwise (key · < key ·) → (∀ a ∈ l, key a ≠ key x) → (insG key x l).Pairwise (key · < key ·) := by
  intro l
  induction l with
  | nil => intro _ _; exact List.pairwise_singleton _ _
  | cons a t ih =>
    intro h hx
    rw [List.pairwise_cons] at h
    have hx' := hx a List.mem_cons_self
    rw [insG]
    split
    · rename_i hlt
      refine List.pairwise_cons.2 ⟨fun z hz => ?_, ih h.2 (fun b hb => hx b (List.mem_cons_of_mem _ hb))⟩
      rcases (insG_mem key x t z).1 hz with e | hz'
      · subst e; exact hlt
      · exact h.1 z hz'
    · refine List.pairwise_cons.2 ⟨fun z hz => ?_, List.pairwise_cons.2 h⟩
      rcases List.mem_cons.1 hz with e | hz'
      · subst e; omega
      · have := h.1 z hz'; omega

/-- The place where x is put, as a count. -/
def placeG {α : Type} (key : α → Nat) (x : α) : List α → Nat
  | [] => 0
  | a :: t => if key a < key x then placeG key x t + 1 else 0
theorem insG_place {α : Type} (key : α → Nat) (x : α) : ∀ (l : List α), insG key x l = l.take (placeG key x l) ++ x :: l.drop (placeG key x l) := by
  intro l
  induction l with
  | nil => rfl
  | cons a t ih =>
    rw [insG, placeG]
    split
    · rw [List.take_succ_cons, List.drop_succ_cons, List.cons_append, ← ih]
    · rfl
theorem placeG_le {α : Type} (key : α → Nat) (x : α) : ∀ (l : List α), placeG key x l ≤ l.length := by
  intro l
  induction l with
  | nil => exact Nat.le_refl _
  | cons a t ih =>
    rw [placeG]
    split
    · simp only [List.length_cons]; omega
    · exact Nat.zero_le _
theorem placeG_lt {α : Type} (key : α → Nat) (x : α) : ∀ (l : List α) (j : Nat) (a : α), j < placeG key x l → l[j]? = some a → key a < key x := by
  intro l
  induction l with
  | nil => intro j a h; cases h
  | cons b t ih =>
    intro j a h e
    rw [placeG] at h
    split at h
    · rename_i hlt
      cases j with
      | zero => simp at e; subst e; exact hlt
      | succ j => exact ih j a (by omega) (by simpa using e)
    · cases h
theorem placeG_at {α : Type} (key : α → Nat) (x : α) : ∀ (l : List α) (a : α), l[placeG key x l]? = some a → ¬ key a < key x := by
  intro l
  induction l with
  | nil => intro a e; cases e
  | cons b t ih =>
    intro a e
    rw [placeG] at e
    split at e
    · exact ih a (by simpa using e)
    · rename_i h
      simp at e; subst e; exact h

/-- One after another put in, where its key is not there yet. -/
def srtG {α : Type} (key : α → Nat) : List α → List α → List α
  | acc, [] => acc
  | acc, x :: l => srtG key (if acc.any (fun d => key d == key x) then acc else insG key x acc) l

/-- The first of its key, each, and they rise. -/
structure SrtIs {α : Type} (key : α → Nat) (l s : List α) : Prop where
  rise : s.Pairwise (key · < key ·)
  mem : ∀ x, x ∈ s ↔ l.find? (fun d => key d == key x) = some x
theorem SrtIs.unique {α : Type} {key : α → Nat} {l s s' : List α} (h : SrtIs key l s) (h' : SrtIs key l s') : s = s' :=
  rising_ext key s s' h.rise h'.rise (fun x => (h.mem x).trans (h'.mem x).symm)
theorem SrtIs.nil {α : Type} (key : α → Nat) : SrtIs key [] [] := ⟨.nil, fun x => by simp⟩
theorem SrtIs.step {α : Type} {key : α → Nat} {p s : List α} (h : SrtIs key p s) (y : α) : SrtIs key (p ++ [y]) (if s.any (fun d => key d == key y) then s else insG key y s) := by
  have hfind : ∀ x, (p ++ [y]).find? (fun d => key d == key x) = (p.find? (fun d => key d == key x)).or (if key y = key x then some y else none) := fun x => by
    rw [List.find?_append]
    congr 1
    by_cases e : key y = key x
    · simp [e]
    · simp [e]
  split
  · rename_i hany
    obtain ⟨d, hd, hk⟩ := List.any_eq_true.1 hany
    have hk' : key d = key y := by simpa using hk
    refine ⟨h.rise, fun x => ?_⟩
    rw [hfind]
    by_cases e : key y = key x
    · have hp := (h.mem d).1 hd
      rw [hk', e] at hp
      rw [h.mem x, hp]
      simp
    · rw [if_neg e, h.mem x]; simp
  · rename_i hany
    have hno : ∀ a ∈ s, key a ≠ key y := fun a ha e => hany (List.any_eq_true.2 ⟨a, ha, by simp [e]⟩)
    refine ⟨insG_rising key y s h.rise hno, fun x => ?_⟩
    rw [insG_mem, hfind]
    by_cases e : key y = key x
    · have hnone : p.find? (fun d => key d == key x) = none := by
        cases hp : p.find? (fun d => key d == key x) with
        | none => rfl
        | some z =>
          have hz : key z = key x := by simpa using List.find?_some hp
          rw [← hz] at hp
          exact absurd (hz.trans e.symm) (hno z ((h.mem z).2 hp))
      rw [hnone, if_pos e]
      constructor
      · rintro (rfl | hx)
        · rfl
        · exact absurd e.symm (hno x hx)
      · intro hx
        simp at hx
        exact .inl hx.symm
    · rw [if_neg e, h.mem x]
      constructor
      · rintro (rfl | hx)
        · exact absurd rfl e
        · simp [hx]
      · intro hx
        exact .inr (by simpa using hx)
theorem srtG_is {α : Type} (key : α → Nat) : ∀ (l p s : List α), SrtIs key p s → SrtIs key (p ++ l) (srtG key s l) := by
  intro l
  induction l with
  | nil => intro p s h; rw [List.append_nil]; exact h
  | cons y l ih =>
    intro p s h
    have := ih (p ++ [y]) _ (h.step y)
    rw [List.append_assoc] at this
    exact this
theorem srt_is {α : Type} (key : α → Nat) (l : List α) : SrtIs key l (srtG key [] l) := srtG_is key l [] [] (.nil key)
end Go.Proofs.Ytbfhfnbhfeedbaa
