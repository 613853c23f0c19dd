/- What putting instances one by one leaves: plain. No condition. Rosters as the newest ones of what came: merging, and what is found: plain. No condition. Put of the program. Conditions: at most 10,000 instances, targets of at most 100,000 bytes. Put of the program: a publisher that is new. Conditions: as Put's. -/
import Derived.Test.YtkceipkgebgigaaGreatProg
import Derived.Test.YtkceipkgebgigaaGreatXOha
import Derived.Test.YtkceipkgebgigaaGreatXOfb
import Derived.Test.YtkceipkgebgigaaGreatXObc
import Derived.Test.YtkceipkgebgigaaGreatXOsc
import Derived.Test.YtkceipkgebgigaaGreatXIil
section
namespace Go.Proofs.YtkceipkgebgigaaGreat
open Go.Shelf Go.RowKit Go.Lib Go.Great
set_option maxRecDepth 100000
set_option maxHeartbeats 400000
/-! The two orders. -/
theorem leI_refl (x : Ins) : cmpI x x ≤ 0 := by have := cmpI_ord.anti x x; omega
theorem leI_trans {x y z : Ins} (h1 : cmpI x y ≤ 0) (h2 : cmpI y z ≤ 0) : cmpI x z ≤ 0 := by
  have a1 := cmpI_ord.anti y x
  have a2 := cmpI_ord.anti z y
  have a3 := cmpI_ord.anti z x
  rcases cmpI_ord.three y x with e | e | e
  · omega
  · rw [← cmpI_ord.eq y x e]; exact h2
  · rcases cmpI_ord.three z y with e2 | e2 | e2
    · omega
    · rw [cmpI_ord.eq z y e2]; exact h1
    · have := cmpI_ord.trans z y x e2 e; omega
theorem leI_anti {x y : Ins} (h1 : cmpI x y ≤ 0) (h2 : cmpI y x ≤ 0) : x = y := by
  have := cmpI_ord.anti x y
  exact cmpI_ord.eq x y (by omega)
theorem gtI_le {x y : Ins} (h : cmpI x y > 0) : cmpI y x ≤ 0 := by have := cmpI_ord.anti x y; omega
theorem cmpP_anti (x y : Ins) : cmpP x y = - cmpP y x := compareBytes_anti _ _
theorem cmpP_zero {x y : Ins} : cmpP x y = 0 ↔ x.pub = y.pub := ⟨fun h => (less_cmp _ _).2.1.2 h, fun h => (less_cmp _ _).2.1.1 h⟩
theorem cmpP_irr (x : Ins) : ¬ cmpP x x < 0 := by have := cmpP_anti x x; omega
theorem cmpP_pub {x x' y : Ins} (h : x.pub = x'.pub) : cmpP x y = cmpP x' y ∧ cmpP y x = cmpP y x' := by unfold cmpP; rw [h]; exact ⟨rfl, rfl⟩
abbrev Asc (L : List Ins) : Prop := L.Pairwise (fun x y => cmpP x y < 0)
theorem srt_asc {L : List Ins} (h : SrtP L) : Asc L := by
  rw [Asc, List.pairwise_iff_getElem]
  intro i j hi hj hij
  have := h i j hij hj
  rwa [getElem!_pos L i hi, getElem!_pos L j hj] at this
theorem good_iff (L : List Ins) : goodR L = true ↔ L.length ≤ 16 ∧ (∀ x ∈ L, goodI x = true) ∧ Asc L := by
  constructor
  · intro h
    exact ⟨((goodR_iff L).1 h).1, goodR_all h, srt_asc (goodR_srt h)⟩
  · rintro ⟨h1, h2, h3⟩
    refine (goodR_iff L).2 ⟨h1, fun k hk => ?_⟩
    unfold okAt
    rw [Bool.and_eq_true, Bool.or_eq_true, decide_eq_true_eq, decide_eq_true_eq, getElem!_pos L k hk]
    refine ⟨h2 _ (List.getElem_mem hk), ?_⟩
    rcases Nat.eq_zero_or_pos k with e | e
    · exact .inl e
    · right
      rw [getElem!_pos L (k - 1) (by omega)]
      exact List.pairwise_iff_getElem.1 h3 (k - 1) k (by omega) hk (by omega)
/-- In order, one alone has a publisher. -/
theorem asc_one {L : List Ins} (h : Asc L) {x y : Ins} (hx : x ∈ L) (hy : y ∈ L) (e : x.pub = y.pub) : x = y := by
  obtain ⟨i, hi, rfl⟩ := List.getElem_of_mem hx
  obtain ⟨j, hj, rfl⟩ := List.getElem_of_mem hy
  rw [Asc, List.pairwise_iff_getElem] at h
  rcases Nat.lt_trichotomy i j with hij | rfl | hij
  · have := h i j hi hj hij; rw [cmpP_zero.2 e] at this; omega
  · rfl
  · have := h j i hj hi hij; rw [cmpP_zero.2 e.symm] at this; omega
/-- In order, and the same members: the same. -/
theorem asc_ext : ∀ {L M : List Ins}, Asc L → Asc M → (∀ y, y ∈ L ↔ y ∈ M) → L = M
  | [], [], _, _, _ => rfl
  | [], y :: M, _, _, h => absurd ((h y).2 (by simp)) (by simp)
  | x :: L, [], _, _, h => absurd ((h x).1 (by simp)) (by simp)
  | x :: L, y :: M, hL, hM, h => by
    rw [Asc, List.pairwise_cons] at hL hM
    have e : x = y := by
      rcases List.mem_cons.1 ((h x).1 (by simp)) with e | hx
      · exact e
      · rcases List.mem_cons.1 ((h y).2 (by simp)) with e | hy
        · exact e.symm
        · have h1 := hL.1 y hy
          have h2 := hM.1 x hx
          have := cmpP_anti x y
          omega
    subst e
    rw [asc_ext hL.2 hM.2 (fun z => ⟨fun hz => ?_, fun hz => ?_⟩)]
    · rcases List.mem_cons.1 ((h z).1 (by simp [hz])) with rfl | hz2
      · exact absurd (hL.1 _ hz) (cmpP_irr _)
      · exact hz2
    · rcases List.mem_cons.1 ((h z).2 (by simp [hz])) with rfl | hz2
      · exact absurd (hM.1 _ hz) (cmpP_irr _)
      · exact hz2
/-! Put. -/
theorem lowP_le (L : List Ins) (x : Ins) : lowR L x ≤ L.length := by
  induction L with
  | nil => exact Nat.le_refl _
  | cons y L ih => unfold lowR; split <;> simp <;> omega
theorem lowR_take : ∀ (L : List Ins) (x : Ins), ∀ y ∈ L.take (lowR L x), cmpP y x < 0
  | [], x, y, h => by simp at h
  | z :: L, x, y, h => by
    unfold lowR at h
    split at h
    · rename_i hz
      rw [List.take_succ_cons] at h
      rcases List.mem_cons.1 h with rfl | h
      · exact hz
      · exact lowR_take L x y h
    · simp at h
theorem lowR_drop : ∀ (L : List Ins) (x : Ins), Asc L → ∀ y ∈ L.drop (lowR L x), ¬ cmpP y x < 0
  | [], x, _, y, h => by simp at h
  | z :: L, x, ha, y, h => by
    rw [Asc, List.pairwise_cons] at ha
    unfold lowR at h
    split at h
    · rw [List.drop_succ_cons] at h
      exact lowR_drop L x ha.2 y h
    · rename_i hz
      rw [List.drop_zero] at h
      rcases List.mem_cons.1 h with rfl | h
      · exact hz
      · exact fun hy => hz (cmpP_lt_trans (ha.1 y h) hy)
/-- It is found just where its publisher is there. -/
theorem found_iff {L : List Ins} (ha : Asc L) (x : Ins) : foundAt L x (lowR L x) = true ↔ lowR L x < L.length ∧ L[lowR L x]!.pub = x.pub := by
  unfold foundAt
  rw [Bool.and_eq_true, decide_eq_true_eq, decide_eq_true_eq, cmpP_zero]
theorem found_none {L : List Ins} (ha : Asc L) (x : Ins) (h : ¬ foundAt L x (lowR L x) = true) : ∀ y ∈ L, y.pub ≠ x.pub := by
  intro y hy e
  rw [← List.take_append_drop (lowR L x) L, List.mem_append] at hy
  rcases hy with hy | hy
  · have := lowR_take L x y hy
    rw [cmpP_zero.2 e] at this
    omega
  · apply h
    rw [found_iff ha]
    have hl : lowR L x < L.length := Nat.lt_of_not_le fun hle => by rw [List.drop_of_length_le hle] at hy; cases hy
    refine ⟨hl, ?_⟩
    rw [getElem!_pos L _ hl]
    rw [List.drop_eq_getElem_cons hl] at hy
    rcases List.mem_cons.1 hy with rfl | hy
    · exact e
    · have h1 : cmpP L[lowR L x] y < 0 := by
        obtain ⟨j, hj, rfl⟩ := List.getElem_of_mem hy
        rw [List.getElem_drop]
        exact List.pairwise_iff_getElem.1 ha _ _ hl (by rw [List.length_drop] at hj; omega) (by omega)
      have hin : L[lowR L x] ∈ L.drop (lowR L x) := by rw [List.drop_eq_getElem_cons hl]; exact List.mem_cons_self
      have h2 : ¬ cmpP L[lowR L x] x < 0 := lowR_drop L x ha _ hin
      rw [(cmpP_pub e).2] at h1
      exact absurd h1 h2
theorem ins_asc {L : List Ins} (ha : Asc L) (x : Ins) (h : ¬ foundAt L x (lowR L x) = true) : Asc (L.take (lowR L x) ++ x :: L.drop (lowR L x)) := by
  have hne := found_none ha x h
  have hlow : ∀ y ∈ L.take (lowR L x), cmpP y x < 0 := lowR_take L x
  have hup : ∀ y ∈ L.drop (lowR L x), cmpP x y < 0 := fun y hy => by
    have h1 := lowR_drop L x ha y hy
    have h2 := cmpP_anti x y
    have h3 : cmpP y x ≠ 0 := fun e => hne y (List.mem_of_mem_drop hy) (cmpP_zero.1 e)
    omega
  rw [Asc, List.pairwise_append, List.pairwise_cons]
  refine ⟨ha.sublist (List.take_sublist _ _), ⟨hup, ha.sublist (List.drop_sublist _ _)⟩, fun y hy z hz => ?_⟩
  rcases List.mem_cons.1 hz with rfl | hz
  · exact hlow y hy
  · exact cmpP_lt_trans (hlow y hy) (hup z hz)
theorem set_asc {L : List Ins} (ha : Asc L) (x : Ins) (k : Nat) (hk : k < L.length) (e : L[k]!.pub = x.pub) : Asc (L.set k x) := by
  have h1 : ∀ M : List Ins, Asc M ↔ (M.map Ins.pub).Pairwise (fun a b => compareBytes a b < 0) := fun M => by rw [List.pairwise_map]; rfl
  rw [h1] at ha ⊢
  have e2 : (L.set k x).map Ins.pub = L.map Ins.pub := by
    apply List.ext_getElem
    · simp
    · intro i hi hi'
      simp only [List.getElem_map, List.getElem_set]
      split
      · rename_i hki
        subst hki
        rw [← e, getElem!_pos L k hk]
      · rfl
  rw [e2]
  exact ha
theorem set_mem {L : List Ins} (ha : Asc L) (x : Ins) (k : Nat) (hk : k < L.length) (e : L[k]!.pub = x.pub) (y : Ins) : y ∈ L.set k x ↔ y = x ∨ (y ∈ L ∧ y.pub ≠ x.pub) := by
  have hs := set_asc ha x k hk e
  constructor
  · intro h
    rcases List.mem_or_eq_of_mem_set h with h1 | h1
    · by_cases hp : y.pub = x.pub
      · left
        exact asc_one hs h (List.mem_set hk x) hp
      · exact .inr ⟨h1, hp⟩
    · exact .inl h1
  · rintro (rfl | ⟨h1, h2⟩)
    · exact List.mem_set hk _
    · obtain ⟨j, hj, rfl⟩ := List.getElem_of_mem h1
      have hne : k ≠ j := by
        rintro rfl
        rw [getElem!_pos L k hk] at e
        exact h2 e
      have : (L.set k x)[j]'(by simpa using hj) = L[j] := by rw [List.getElem_set, if_neg hne]
      rw [← this]
      exact List.getElem_mem _
theorem put_good {L : List Ins} (h : goodR L = true) {x : Ins} (hx : goodI x = true) : goodR (putL L x) = true := by
  obtain ⟨h1, h2, h3⟩ := (good_iff L).1 h
  unfold putL
  rw [h, hx]
  simp only [Bool.and_self, if_true]
  unfold putG
  split
  · rename_i hf
    obtain ⟨hl, he⟩ := (found_iff h3 x).1 hf
    split
    · refine (good_iff _).2 ⟨by rw [List.length_set]; exact h1, fun y hy => ?_, set_asc h3 x _ hl he⟩
      rcases List.mem_or_eq_of_mem_set hy with hy | rfl
      · exact h2 y hy
      · exact hx
    · exact h
  · rename_i hf
    have ha := ins_asc h3 x hf
    have hle := lowP_le L x
    have hlen : (L.take (lowR L x) ++ x :: L.drop (lowR L x)).length = L.length + 1 := by simp; omega
    have hall : ∀ y ∈ L.take (lowR L x) ++ x :: L.drop (lowR L x), goodI y = true := fun y hy => by
      rcases List.mem_append.1 hy with hy | hy
      · exact h2 y (List.mem_of_mem_take hy)
      · rcases List.mem_cons.1 hy with rfl | hy
        · exact hx
        · exact h2 y (List.mem_of_mem_drop hy)
    refine (good_iff _).2 ⟨fitL_len _ (by rw [hlen]; omega), fun y hy => ?_, ?_⟩
    · unfold fitL at hy
      split at hy
      · exact hall y hy
      · exact hall y (List.mem_of_mem_eraseIdx hy)
    · unfold fitL
      split
      · exact ha
      · exact ha.sublist (List.eraseIdx_sublist _ _)
/-- Who is there when one has been put, where there is room. -/
theorem put_mem {L : List Ins} (h : goodR L = true) {x : Ins} (hx : goodI x = true) (hr : (∀ y ∈ L, y.pub ≠ x.pub) → L.length < 16) (y : Ins) :
    y ∈ putL L x ↔ (y = x ∧ ∀ z ∈ L, z.pub = x.pub → cmpI z x ≤ 0) ∨ (y ∈ L ∧ (y.pub = x.pub → cmpI x y ≤ 0)) := by
  obtain ⟨h1, h2, h3⟩ := (good_iff L).1 h
  unfold putL
  rw [h, hx]
  simp only [Bool.and_self, if_true]
  unfold putG
  split
  · rename_i hf
    obtain ⟨hl, he⟩ := (found_iff h3 x).1 hf
    have hm : L[lowR L x]! ∈ L := by rw [getElem!_pos L _ hl]; exact List.getElem_mem hl
    generalize hz : L[lowR L x]! = z at *
    split
    · rename_i hc
      rw [set_mem h3 x _ hl (by rw [hz]; exact he)]
      constructor
      · rintro (rfl | ⟨a, b⟩)
        · left
          refine ⟨rfl, fun u hu e => ?_⟩
          rw [asc_one h3 hu hm (e.trans he.symm)]
          exact gtI_le hc
        · exact .inr ⟨a, fun e => absurd e b⟩
      · rintro (⟨rfl, _⟩ | ⟨a, b⟩)
        · exact .inl rfl
        · right
          refine ⟨a, fun e => ?_⟩
          have := b e
          rw [asc_one h3 a hm (e.trans he.symm)] at this
          omega
    · rename_i hc
      constructor
      · intro hy
        right
        refine ⟨hy, fun e => ?_⟩
        rw [asc_one h3 hy hm (e.trans he.symm)]
        omega
      · rintro (⟨rfl, b⟩ | ⟨a, _⟩)
        · have h4 := b z hm he
          rw [← leI_anti h4 (by omega)]
          exact hm
        · exact a
  · rename_i hf
    have hne := found_none h3 x hf
    have hlt := hr hne
    have hle := lowP_le L x
    have hlen : (L.take (lowR L x) ++ x :: L.drop (lowR L x)).length = L.length + 1 := by simp; omega
    unfold fitL
    rw [if_pos (by rw [hlen]; omega)]
    have e : y ∈ L.take (lowR L x) ++ x :: L.drop (lowR L x) ↔ y = x ∨ y ∈ L := by
      conv => rhs; rhs; rw [← List.take_append_drop (lowR L x) L]
      simp only [List.mem_append, List.mem_cons]
      constructor
      · rintro (a | a | a)
        · exact .inr (.inl a)
        · exact .inl a
        · exact .inr (.inr a)
      · rintro (a | a | a)
        · exact .inr (.inl a)
        · exact .inl a
        · exact .inr (.inr a)
    rw [e]
    constructor
    · rintro (rfl | a)
      · exact .inl ⟨rfl, fun z hz e => absurd e (hne z hz)⟩
      · exact .inr ⟨a, fun e => absurd e (hne y a)⟩
    · rintro (⟨rfl, _⟩ | ⟨a, _⟩)
      · exact .inl rfl
      · exact .inr a
end Go.Proofs.YtkceipkgebgigaaGreat
end
section
namespace Go.Proofs.YtkceipkgebgigaaGreat
open Go.Shelf Go.RowKit Go.Lib Go.Great
set_option maxRecDepth 100000
set_option maxHeartbeats 400000
/-- The newest one of its publisher, of those that came. -/
def IsTop (T : List Ins) (y : Ins) : Prop := y ∈ T ∧ ∀ z ∈ T, z.pub = y.pub → cmpI z y ≤ 0
/-- A roster holds just the newest ones. -/
def Rep (M T : List Ins) : Prop := goodR M = true ∧ ∀ y, y ∈ M ↔ IsTop T y
theorem nodup_len : ∀ {P U : List (List UInt8)}, P.Nodup → (∀ p ∈ P, p ∈ U) → P.length ≤ U.length
  | [], _, _, _ => Nat.zero_le _
  | a :: P, U, hn, hs => by
    rw [List.nodup_cons] at hn
    have ha := hs a (by simp)
    have := nodup_len (P := P) (U := U.erase a) hn.2 (fun p hp => (List.mem_erase_of_ne (by rintro rfl; exact hn.1 hp)).2 (hs p (by simp [hp])))
    rw [List.length_erase_of_mem ha] at this
    have := List.length_pos_of_mem ha
    simp only [List.length_cons]
    omega
theorem asc_nodup {L : List Ins} (h : Asc L) : (L.map Ins.pub).Nodup := by
  rw [List.Nodup, List.pairwise_map]
  exact h.imp (fun {a b} hab e => by rw [cmpP_zero.2 e] at hab; omega)
theorem room {M T : List Ins} (h : Rep M T) {x : Ins} {U : List (List UInt8)} (hU : U.length ≤ 16) (hT : ∀ y ∈ T, y.pub ∈ U) (hx : x.pub ∈ U) (hne : ∀ y ∈ M, y.pub ≠ x.pub) : M.length < 16 := by
  have h1 : (x.pub :: M.map Ins.pub).Nodup := by
    rw [List.nodup_cons]
    refine ⟨fun hm => ?_, asc_nodup ((good_iff M).1 h.1).2.2⟩
    obtain ⟨y, hy, e⟩ := List.mem_map.1 hm
    exact hne y hy e
  have := nodup_len (U := U) h1 (fun p hp => by
    rcases List.mem_cons.1 hp with rfl | hp
    · exact hx
    · obtain ⟨y, hy, rfl⟩ := List.mem_map.1 hp
      exact hT y ((h.2 y).1 hy).1)
  simp only [List.length_cons, List.length_map] at this
  omega
theorem top_congr {T T' : List Ins} (h : ∀ y, y ∈ T ↔ y ∈ T') (y : Ins) : IsTop T y ↔ IsTop T' y := by
  unfold IsTop
  rw [h y]
  exact ⟨fun ⟨a, b⟩ => ⟨a, fun z hz => b z ((h z).2 hz)⟩, fun ⟨a, b⟩ => ⟨a, fun z hz => b z ((h z).1 hz)⟩⟩
theorem rep_uniq {M M' T T' : List Ins} (h : Rep M T) (h' : Rep M' T') (e : ∀ y, y ∈ T ↔ y ∈ T') : M = M' :=
  asc_ext ((good_iff M).1 h.1).2.2 ((good_iff M').1 h'.1).2.2 (fun y => by rw [h.2, h'.2]; exact top_congr e y)
/-! Merging. -/
def mergeL (a b : List Ins) : List Ins := if goodR a && goodR b then b.foldl putL a else a
theorem merge_is {a b : List Ins} (ha : goodR a = true) (hb : goodR b = true) : mergeL a b = b.foldl putL a := by unfold mergeL; rw [ha, hb]; rfl
theorem fold_good : ∀ (b : List Ins) {a : List Ins}, goodR a = true → (∀ x ∈ b, goodI x = true) → goodR (b.foldl putL a) = true
  | [], _, h, _ => h
  | x :: b, a, h, hg => fold_good b (put_good h (hg x (by simp))) (fun y hy => hg y (by simp [hy]))
/-! What is found. -/
/-- The newest one of x's publisher among the first j, as the statement's loop has it. -/
def newN (T : List Ins) (x : Ins) : Nat → Ins
  | 0 => x
  | j + 1 => if T[j]!.pub == x.pub && decide (cmpI T[j]! (newN T x j) > 0) then T[j]! else newN T x j
theorem newN_top {T : List Ins} {x : Ins} (hx : x ∈ T) : ∀ j, j ≤ T.length → newN T x j ∈ T ∧ (newN T x j).pub = x.pub ∧ ∀ i, i < j → T[i]!.pub = x.pub → cmpI T[i]! (newN T x j) ≤ 0
  | 0, _ => ⟨hx, rfl, fun i hi => by omega⟩
  | j + 1, hj => by
    obtain ⟨h1, h2, h3⟩ := newN_top hx j (by omega)
    have hm : T[j]! ∈ T := by rw [getElem!_pos T j (by omega)]; exact List.getElem_mem _
    unfold newN
    split
    · rename_i hc
      rw [Bool.and_eq_true, beq_iff_eq, decide_eq_true_eq] at hc
      refine ⟨hm, hc.1, fun i hi e => ?_⟩
      by_cases hij : i = j
      · subst hij; exact leI_refl _
      · exact leI_trans (h3 i (by omega) e) (gtI_le hc.2)
    · rename_i hc
      refine ⟨h1, h2, fun i hi e => ?_⟩
      by_cases hij : i = j
      · subst hij
        rw [Bool.and_eq_true, beq_iff_eq, decide_eq_true_eq] at hc
        have : ¬ cmpI T[i]! (newN T x i) > 0 := fun h => hc ⟨e, h⟩
        omega
      · exact h3 i (by omega) e
theorem getV_of {M : List Ins} (h : goodR M = true) {m : Ins} (hm : m ∈ M) : getV M m.pub = (m, true) := by
  unfold getV
  cases hf : M.filter (fun x => x.pub == m.pub) with
  | nil =>
    have : m ∈ M.filter (fun x => x.pub == m.pub) := List.mem_filter.2 ⟨hm, by simp⟩
    rw [hf] at this
    cases this
  | cons z zs =>
    have hz : z ∈ M.filter (fun x => x.pub == m.pub) := by rw [hf]; simp
    obtain ⟨hz1, hz2⟩ := List.mem_filter.1 hz
    have := asc_one ((good_iff M).1 h).2.2 hz1 hm (by simpa using hz2)
    subst this
    rfl
theorem newest_get {M T : List Ins} (h : Rep M T) {x : Ins} (hx : x ∈ T) : getV M x.pub = (newN T x T.length, true) := by
  obtain ⟨h1, h2, h3⟩ := newN_top hx T.length (Nat.le_refl _)
  rw [← h2]
  refine getV_of h.1 ((h.2 _).2 ⟨h1, fun z hz e => ?_⟩)
  obtain ⟨i, hi, rfl⟩ := List.getElem_of_mem hz
  have := h3 i hi (by rw [getElem!_pos T i hi, e, h2])
  rwa [getElem!_pos T i hi] at this
end Go.Proofs.YtkceipkgebgigaaGreat
end
section
namespace Go.Proofs.YtkceipkgebgigaaGreat
open Go.Shelf Go.RowKit Go.Lib Go.Great
set_option maxRecDepth 100000
set_option maxHeartbeats 400000
/-- A world that keeps what lay below B, and a row of one's own. -/
def RowI (W1 : World) (B : Nat) (M : List Ins) (W : World) (v : Value) : Prop := Below B W1 W ∧ W.ownsRow B 29 28 v M.length (flatE encI M) ∧ B ≤ W.heap.size
theorem RowI.step {W1 W W' : World} {B : Nat} {M : List Ins} {v : Value} (h : RowI W1 B M W v) (hb : Below W.heap.size W W') : RowI W1 B M W' v :=
  ⟨h.1.trans (hb.mono h.2.2), own_bel h.2.1 hb, Nat.le_trans h.2.2 hb.size⟩
def PutIs (w : World) (L : List Ins) (x : Ins) (e : Ending) (w' : World) : Prop :=
  ∃ v, e = .returned (.tuple #[v, .bool (putOk L x)]) ∧ w'.ownsRow w.heap.size 29 28 v (putL L x).length (flatE encI (putL L x)) ∧ Below w.heap.size w w'
/-- What the walk of Put rests upon. -/
structure PutK (w W1 : World) (A : Option Addr) (n c : Nat) (L : List Ins) (x : Ins) (X : Array Value) (M : List Ins) : Prop where
  w1 : W1 = w.alloc (.cells X 29)
  cl : Calls Tryz.prog 22 #[.slice A n c] W1 fun e w' => ∃ v, e = .returned v ∧ RowI W1 W1.heap.size L w' v
  gd : ∀ N W v, RowI W1 W1.heap.size N W v → Calls Tryz.prog 13 #[.slice A n c] W fun e w' => e = .returned (.bool (goodR L)) ∧ RowI W1 W1.heap.size N w' v
  gi : ∀ N W v, RowI W1 W1.heap.size N W v → Calls Tryz.prog 23 #[.agg X] W fun e w' => e = .returned (.bool (goodI x)) ∧ RowI W1 W1.heap.size N w' v
  ld : ∀ N W v, RowI W1 W1.heap.size N W v → (loadVar 29 ⟨w.heap.size, 0, none⟩).run Tryz.prog W = .ok (.agg X) W
  sm : ∀ W v, RowI W1 W1.heap.size M W v → Calls Tryz.prog 15 #[v, .slice A n c] W fun e w' => e = .returned (.bool (sameR M L)) ∧ RowI W1 W1.heap.size M w' v
  fin : ∀ W v, RowI W1 W1.heap.size M W v → W.ownsRow w.heap.size 29 28 v M.length (flatE encI M) ∧ Below w.heap.size w W
theorem putK (A : Option Addr) (c : Nat) (L M : List Ins) (x : Ins) (w : World) (hL : L.length ≤ 10000) (hM : M.length ≤ 10000) (ht : ∀ y ∈ L, y.tgt.length ≤ 100000) (hx : x.tgt.length ≤ 100000) (hA : IAt w w.heap.size A L) (hA2 : A = none ∨ ∃ g off, A = some ⟨g, off, none⟩) :
    PutK w (w.alloc (.cells (encI x).toArray 29)) A L.length c L x (encI x).toArray M := by
  have hb0 : Below w.heap.size w (w.alloc (.cells (encI x).toArray 29)) := (Below.refl _ w).alloc (Nat.le_refl _) _
  have h0 := heap_alloc_new w (.cells (encI x).toArray 29)
  obtain ⟨W1, hW1⟩ : ∃ W1, W1 = w.alloc (.cells (encI x).toArray 29) := ⟨_, rfl⟩
  rw [← hW1] at hb0 h0 ⊢
  have hA1 : IAt W1 W1.heap.size A L := (hA.below hb0).more hb0.size
  refine ⟨hW1, ?_, ?_, ?_, ?_, ?_, ?_⟩
  · refine (iclone_any A c L W1 hL hA1 hA2).mono ?_
    rintro e w' ⟨v, rfl, ho, hb⟩
    exact ⟨v, rfl, hb, ho, hb.size⟩
  · intro N W v hR
    refine (gd_any A c L W ht ((hA1.below hR.1).more hR.2.2)).mono ?_
    rintro e w' ⟨rfl, hb⟩
    exact ⟨rfl, hR.step hb⟩
  · intro N W v hR
    refine (igood_any x hx W).mono ?_
    rintro e w' ⟨rfl, hb⟩
    exact ⟨rfl, hR.step hb⟩
  · intro N W v hR
    exact load28 (row_range (by rw [hR.1.block _ (Array.getElem?_eq_some_iff.1 h0).1]; exact h0))
  · intro W v hR
    refine (same_own A c L hM hR.2.1 ((hA1.below hR.1).more hR.2.2)).mono ?_
    rintro e w' ⟨rfl, hb⟩
    exact ⟨rfl, hR.step hb⟩
  · intro W v hR
    exact ⟨own_baseC hR.2.1 hb0.size, hb0.trans (hR.1.mono hb0.size)⟩
theorem put_bad (A : Option Addr) (c : Nat) (L : List Ins) (x : Ins) (w : World) (hL : L.length ≤ 10000) (ht : ∀ y ∈ L, y.tgt.length ≤ 100000) (hx : x.tgt.length ≤ 100000) (hA : IAt w w.heap.size A L) (hA2 : A = none ∨ ∃ g off, A = some ⟨g, off, none⟩)
    (hb : (goodR L && goodI x) = false) : Calls Tryz.prog 6 #[.slice A L.length c, .agg (encI x).toArray] w (PutIs w L x) := by
  have K := putK A c L L x w hL hL ht hx hA hA2
  have HCL := Lib.hid K.cl
  have HGD := Lib.hid K.gd
  have HGI := Lib.hid K.gi
  have HLD := Lib.hid K.ld
  have HFIN : Hid (∀ W v, RowI (w.alloc (.cells (encI x).toArray 29)) (w.alloc (.cells (encI x).toArray 29)).heap.size L W v → PutIs w L x (.returned (.tuple #[v, .bool false])) W) := Lib.hid (fun W v hR => by
    obtain ⟨f1, f2⟩ := K.fin W v hR
    have e1 : putL L x = L := by unfold putL; rw [hb]; rfl
    have e2 : putOk L x = false := by unfold putOk; rw [hb]; rfl
    exact ⟨v, by rw [e2], by rw [e1]; exact f1, f2⟩)
  clear K hA hA2 ht hx hL
  generalize (encI x).toArray = X at *
  generalize L.length = n at *
  cases hg : goodR L with
  | false =>
    rw [hg] at HGD
    clear hb hg
    go_enter Tryz.func6, Tryz.ntmps6
    go_wp2_with (first
      | (go_at_call 22; (with_reducible refine HCL.out.mono ?_); rintro e2 w2 ⟨v, rfl, hp2⟩)
      | (go_at_call 13; (with_reducible refine (HGD.out _ _ _ hp2).mono ?_); rintro e3 w3 ⟨rfl, hp3⟩))
    go_ret2
    exact HFIN.out _ _ hp3
  | true =>
    rw [hg, Bool.true_and] at hb
    rw [hg] at HGD
    rw [hb] at HGI
    clear hb hg
    go_enter Tryz.func6, Tryz.ntmps6
    go_wp2_with (first
      | (go_at_call 22; (with_reducible refine HCL.out.mono ?_); rintro e2 w2 ⟨v, rfl, hp2⟩)
      | (go_at_call 13; (with_reducible refine (HGD.out _ _ _ hp2).mono ?_); rintro e3 w3 ⟨rfl, hp3⟩)
      | ((with_reducible refine wpList_loadG (o := ⟨some 15, _, _, _, _, _⟩) ?_ 29 (.tmp 3) rfl _ ?_ _ (HLD.out _ _ _ hp3) ?_); rfl; rfl)
      | (go_at_call 23; (with_reducible refine (HGI.out _ _ _ hp3).mono ?_); rintro e4 w4 ⟨rfl, hp4⟩))
    go_ret2
    exact HFIN.out _ _ hp4
end Go.Proofs.YtkceipkgebgigaaGreat
end
section
namespace Go.Proofs.YtkceipkgebgigaaGreat
open Go.Shelf Go.RowKit Go.Lib Go.Great
set_option maxRecDepth 100000
set_option maxHeartbeats 400000
theorem put_search (A : Option Addr) (c : Nat) (L N : List Ins) (x : Ins) (W1 W : World) (v : Value) (hg : goodR L = true) (hA1 : IAt W1 W1.heap.size A L) (hR : RowI W1 W1.heap.size N W v) :
    Calls Tryz.prog 24 #[.slice A L.length c, .agg (encI x).toArray, .func (.func 25) #[] #[]] W fun e w' => e = .returned (.tuple #[.int .i64 (lowR L x : Int), .bool (foundAt L x (lowR L x))]) ∧ RowI W1 W1.heap.size N w' v := by
  refine (search_any x A c L W ((goodR_iff L).1 hg).1 (goodR_srt hg) ((hA1.below hR.1).more hR.2.2)).mono ?_
  rintro e w' ⟨⟨a, rfl, hlow⟩, hb⟩
  rw [← lowAt_eq L x a hlow]
  exact ⟨rfl, hR.step hb⟩
theorem lowR_le : ∀ (L : List Ins) (x : Ins), lowR L x ≤ L.length
  | [], _ => Nat.le_refl _
  | y :: L, x => by
    unfold lowR
    split
    · have := lowR_le L x; simp; exact this
    · omega
theorem put_ins (L : List Ins) (a : Nat) (x : Ins) (W1 W : World) (v : Value) (hl : L.length ≤ 16) (ha : a ≤ L.length) (hR : RowI W1 W1.heap.size L W v) :
    Calls Tryz.prog 27 #[v, .int .i64 (a : Int), .slice (some ⟨W.heap.size, 0, none⟩) 1 1] (W.alloc (.cells (encI x).toArray 29)) fun e w' => ∃ v', e = .returned v' ∧ RowI W1 W1.heap.size (L.take a ++ x :: L.drop a) w' v' := by
  have hb : Below W.heap.size W (W.alloc (.cells (encI x).toArray 29)) := (Below.refl _ W).alloc (Nat.le_refl _) _
  have hR' := hR.step hb
  have hlt : (L.take a).length = a := by rw [List.length_take]; omega
  have hll : (L.take a).length + (L.drop a).length = L.length := by rw [hlt, List.length_drop]; omega
  have := insert_any v W1.heap.size W.heap.size (L.take a) (L.drop a) x (W.alloc (.cells (encI x).toArray 29)) (by omega) hR'.2.2 (by rw [hll, List.take_append_drop]; exact hR'.2.1) (heap_alloc_new W _) (fun e => by have := (hR.2.1.lt _ e).2; omega)
  rw [hlt] at this
  refine this.mono ?_
  rintro e w' ⟨v', rfl, ho, hg⟩
  refine ⟨v', rfl, below_ownB hR'.1 hR'.2.2 hg (fun k hk => (hR.2.1.lt k hk).1), ?_, Nat.le_trans hR'.2.2 hg.size⟩
  rw [show (L.take a ++ x :: L.drop a).length = a + (L.drop a).length + 1 by rw [List.length_append, hlt, List.length_cons]; omega]
  exact ho
theorem put_fit (N : List Ins) (W1 W : World) (v : Value) (hl : N.length ≤ 17) (hR : RowI W1 W1.heap.size N W v) :
    Calls Tryz.prog 26 #[v] W fun e w' => ∃ v', e = .returned v' ∧ RowI W1 W1.heap.size (fitL N) w' v' := by
  refine (fit_any v W1.heap.size N W hl hR.2.1).mono ?_
  rintro e w' ⟨v', rfl, ho, hg⟩
  exact ⟨v', rfl, below_ownB hR.1 hR.2.2 hg (fun k hk => (hR.2.1.lt k hk).1), ho, Nat.le_trans hR.2.2 hg.size⟩
theorem put_new (A : Option Addr) (c : Nat) (L : List Ins) (x : Ins) (w : World) (ht : ∀ y ∈ L, y.tgt.length ≤ 100000) (hx : x.tgt.length ≤ 100000) (hA : IAt w w.heap.size A L) (hA2 : A = none ∨ ∃ g off, A = some ⟨g, off, none⟩)
    (hg : goodR L = true) (hi : goodI x = true) (hf : foundAt L x (lowR L x) = false) : Calls Tryz.prog 6 #[.slice A L.length c, .agg (encI x).toArray] w (PutIs w L x) := by
  have hl := ((goodR_iff L).1 hg).1
  have hM : putG L x = fitL (L.take (lowR L x) ++ x :: L.drop (lowR L x)) := by unfold putG; rw [if_neg (by rw [hf]; decide)]
  have hn17 : (L.take (lowR L x) ++ x :: L.drop (lowR L x)).length ≤ 17 := by
    have := lowR_le L x
    rw [List.length_append, List.length_cons, List.length_take, List.length_drop]; omega
  have hM16 : (putG L x).length ≤ 16 := by rw [hM]; exact fitL_len _ hn17
  have K := putK A c L (putG L x) x w (by omega) (by omega) ht hx hA hA2
  have hb0 : Below w.heap.size w (w.alloc (.cells (encI x).toArray 29)) := (Below.refl _ w).alloc (Nat.le_refl _) _
  have hA1 : IAt (w.alloc (.cells (encI x).toArray 29)) (w.alloc (.cells (encI x).toArray 29)).heap.size A L := (hA.below hb0).more hb0.size
  have HCL := Lib.hid K.cl
  have HGD := Lib.hid K.gd
  have HGI := Lib.hid K.gi
  have HLD := Lib.hid K.ld
  have HSM := Lib.hid K.sm
  have HSE := Lib.hid (fun (N : List Ins) (W : World) (v : Value) (hR : RowI (w.alloc (.cells (encI x).toArray 29)) (w.alloc (.cells (encI x).toArray 29)).heap.size N W v) => put_search A c L N x (w.alloc (.cells (encI x).toArray 29)) W v hg hA1 hR)
  have HINS := Lib.hid (fun (W : World) (v : Value) (hR : RowI (w.alloc (.cells (encI x).toArray 29)) (w.alloc (.cells (encI x).toArray 29)).heap.size L W v) => put_ins L (lowR L x) x (w.alloc (.cells (encI x).toArray 29)) W v hl (lowR_le L x) hR)
  have HFIT := Lib.hid (fun (W : World) (v : Value) (hR : RowI (w.alloc (.cells (encI x).toArray 29)) (w.alloc (.cells (encI x).toArray 29)).heap.size (L.take (lowR L x) ++ x :: L.drop (lowR L x)) W v) => put_fit (L.take (lowR L x) ++ x :: L.drop (lowR L x)) (w.alloc (.cells (encI x).toArray 29)) W v hn17 hR)
  have HFIN : Hid (∀ W v, RowI (w.alloc (.cells (encI x).toArray 29)) (w.alloc (.cells (encI x).toArray 29)).heap.size (putG L x) W v → PutIs w L x (.returned (.tuple #[v, .bool (!sameR (putG L x) L)])) W) := Lib.hid (fun W v hR => by
    obtain ⟨f1, f2⟩ := K.fin W v hR
    have e1 : putL L x = putG L x := by unfold putL; rw [hg, hi]; rfl
    have e2 : putOk L x = !sameR (putG L x) L := by unfold putOk; rw [hg, hi]; rfl
    exact ⟨v, by rw [e2], by rw [e1]; exact f1, f2⟩)
  rw [hf] at HSE
  rw [hg] at HGD
  rw [hi] at HGI
  rw [← hM] at HFIT
  clear K hA hA2 ht hx hA1 hb0 hM hM16 hn17 hl hf hg hi
  generalize L.take (lowR L x) ++ x :: L.drop (lowR L x) = N at *
  generalize putG L x = M at *
  generalize sameR M L = sr at *
  generalize lowR L x = a at *
  generalize L.length = n at *
  go_enter Tryz.func6, Tryz.ntmps6
  go_wp2_with (first
    | (go_at_call 22; (with_reducible refine HCL.out.mono ?_); rintro e2 w2 ⟨v, rfl, hp2⟩)
    | (go_at_call 13; (with_reducible refine (HGD.out _ _ _ hp2).mono ?_); rintro e3 w3 ⟨rfl, hp3⟩)
    | ((with_reducible refine wpList_loadG (o := ⟨some 15, _, _, _, _, _⟩) ?_ 29 (.tmp 3) rfl _ ?_ _ (HLD.out _ _ _ hp3) ?_); rfl; rfl)
    | (go_at_call 23; (with_reducible refine (HGI.out _ _ _ hp3).mono ?_); rintro e4 w4 ⟨rfl, hp4⟩)
    | ((with_reducible refine wpList_loadV (op := ⟨some 22, _, _, _, _, _⟩) rfl 29 (.tmp 3) rfl _ ?_ _ (HLD.out _ _ _ hp4) ?_); rfl)
    | (go_at_call 24; (with_reducible refine (HSE.out _ _ _ hp4).mono ?_); rintro e5 w5 ⟨rfl, hp5⟩)
    | ((with_reducible refine wpList_loadV (op := ⟨some 30, _, _, _, _, _⟩) rfl 29 (.tmp 3) rfl _ ?_ _ (HLD.out _ _ _ hp5) ?_); rfl)
    | ((with_reducible refine wpList_build_oneI insT x (o := ⟨some 31, _, _, _, _, _⟩) rfl (.tmp 30) rfl ?_ ?_); rfl)
    | (go_at_call 27; (with_reducible refine (HINS.out _ _ hp5).mono ?_); rintro e6 w6 ⟨v6, rfl, hp6⟩)
    | (go_at_call 26; (with_reducible refine (HFIT.out _ _ hp6).mono ?_); rintro e7 w7 ⟨v7, rfl, hp7⟩)
    | (go_at_call 15; (with_reducible refine (HSM.out _ _ hp7).mono ?_); rintro e8 w8 ⟨rfl, hp8⟩))
  go_ret2
  exact HFIN.out _ _ hp8
end Go.Proofs.YtkceipkgebgigaaGreat
end
