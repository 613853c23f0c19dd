/- Rosters as the newest ones of what came: merging, and what is found: plain. No condition. Merge of the program. Conditions: at most 10,000 instances each, targets of at most 100,000 bytes. -/
import Derived.Test.YtkceipkgebgigaaXOja
import Derived.Test.YtkceipkgebgigaaXOra
import Derived.Test.YtkceipkgebgigaaXOsc
import Derived.Test.YtkceipkgebgigaaXOhd
section
namespace Go.Proofs.Ytkceipkgebgigaa
open Go.Shelf Go.RowKit Go.Lib Go.Great
set_option maxRecDepth 100000
set_option maxHeartbeats 400000
/-- The newest one of its publisher, of those that came. -/
def IsTop (T : List Ins) (y : Ins) : Prop := y ∈ T ∧ ∀ z ∈ T, z.pub = y.pub → cmpI z y ≤ 0
/-- A roster holds just the newest ones. -/
def Rep (M T : List Ins) : Prop := goodR M = true ∧ ∀ y, y ∈ M ↔ IsTop T y
theorem leI_total (x y : Ins) : cmpI x y ≤ 0 ∨ cmpI y x ≤ 0 := by have := cmpI_ord.anti x y; omega
theorem top_ex : ∀ (T : List Ins), ∀ t ∈ T, ∃ m, IsTop T m ∧ m.pub = t.pub ∧ cmpI t m ≤ 0
  | [], t, h => by cases h
  | a :: T, t, h => by
    -- what is best of the rest, where there is one
    have step : ∀ t' ∈ T, t'.pub = t.pub → ∃ m, IsTop (a :: T) m ∧ m.pub = t.pub ∧ cmpI t' m ≤ 0 ∧ (a.pub = t.pub → cmpI a m ≤ 0) := by
      intro t' ht' hp
      obtain ⟨m, ⟨hm1, hm2⟩, hm3, hm4⟩ := top_ex T t' ht'
      by_cases hc : a.pub = t.pub ∧ ¬ cmpI a m ≤ 0
      · obtain ⟨hc1, hc2⟩ := hc
        have hma : cmpI m a ≤ 0 := (leI_total a m).resolve_left hc2
        refine ⟨a, ⟨by simp, fun z hz e => ?_⟩, hc1, leI_trans hm4 hma, fun _ => leI_refl a⟩
        rcases List.mem_cons.1 hz with rfl | hz
        · exact leI_refl _
        · exact leI_trans (hm2 z hz (by rw [e, hc1, hm3, hp])) hma
      · refine ⟨m, ⟨by simp [hm1], fun z hz e => ?_⟩, hm3.trans hp, hm4, fun e => Classical.byContradiction fun h2 => hc ⟨e, h2⟩⟩
        rcases List.mem_cons.1 hz with rfl | hz
        · exact Classical.byContradiction fun h2 => hc ⟨by rw [e, hm3, hp], h2⟩
        · exact hm2 z hz e
    rcases List.mem_cons.1 h with rfl | h
    · by_cases hex : ∃ t' ∈ T, t'.pub = t.pub
      · obtain ⟨t', h1, h2⟩ := hex
        obtain ⟨m, q1, q2, _, q4⟩ := step t' h1 h2
        exact ⟨m, q1, q2, q4 rfl⟩
      · refine ⟨t, ⟨by simp, fun z hz e => ?_⟩, rfl, leI_refl t⟩
        rcases List.mem_cons.1 hz with rfl | hz
        · exact leI_refl _
        · exact absurd ⟨z, hz, e⟩ hex
    · obtain ⟨m, q1, q2, q3, _⟩ := step t h rfl
      exact ⟨m, q1, q2, q3⟩
theorem rep_nil : Rep [] [] := ⟨rfl, fun y => by simp [IsTop]⟩
theorem rep_self {a : List Ins} (h : goodR a = true) : Rep a a := ⟨h, fun y => ⟨fun hy => ⟨hy, fun z hz e => by rw [asc_one ((good_iff a).1 h).2.2 hz hy e]; exact leI_refl y⟩, fun hy => hy.1⟩⟩
theorem rep_put {M T : List Ins} (h : Rep M T) {x : Ins} (hx : goodI x = true) (hr : (∀ y ∈ M, y.pub ≠ x.pub) → M.length < 16) : Rep (putL M x) (T ++ [x]) := by
  refine ⟨put_good h.1 hx, fun y => ?_⟩
  rw [put_mem h.1 hx hr]
  unfold IsTop
  simp only [List.mem_append, List.mem_singleton]
  constructor
  · rintro (⟨rfl, hz⟩ | ⟨hy, hc⟩)
    · refine ⟨.inr rfl, ?_⟩
      rintro z (hzT | rfl) e
      · obtain ⟨m, hm, e2, hle⟩ := top_ex T z hzT
        exact leI_trans hle (hz m ((h.2 m).2 hm) (e2.trans e))
      · exact leI_refl _
    · obtain ⟨h1, h2⟩ := (h.2 y).1 hy
      refine ⟨.inl h1, ?_⟩
      rintro z (hzT | rfl) e
      · exact h2 z hzT e
      · exact hc e.symm
  · rintro ⟨hy, hc⟩
    rcases hy with hy | rfl
    · exact .inr ⟨(h.2 y).2 ⟨hy, fun z hz e => hc z (.inl hz) e⟩, fun e => hc x (.inr rfl) e.symm⟩
    · exact .inl ⟨rfl, fun z hz e => hc z (.inl ((h.2 z).1 hz).1) e⟩
theorem nodup_len : ∀ {P U : List (List UInt8)}, P.Nodup → (∀ p ∈ P, p ∈ U) → P.length ≤ U.length
  | [], _, _, _ => Nat.zero_le _
  | a :: P, U, hn, hs => by
    rw [List.nodup_cons] at hn
    have ha := hs a (by simp)
    have := nodup_len (P := P) (U := U.erase a) hn.2 (fun p hp => (List.mem_erase_of_ne (by rintro rfl; exact hn.1 hp)).2 (hs p (by simp [hp])))
    rw [List.length_erase_of_mem ha] at this
    have := List.length_pos_of_mem ha
    simp only [List.length_cons]
    omega
theorem asc_nodup {L : List Ins} (h : Asc L) : (L.map Ins.pub).Nodup := by
  rw [List.Nodup, List.pairwise_map]
  exact h.imp (fun {a b} hab e => by rw [cmpP_zero.2 e] at hab; omega)
theorem room {M T : List Ins} (h : Rep M T) {x : Ins} {U : List (List UInt8)} (hU : U.length ≤ 16) (hT : ∀ y ∈ T, y.pub ∈ U) (hx : x.pub ∈ U) (hne : ∀ y ∈ M, y.pub ≠ x.pub) : M.length < 16 := by
  have h1 : (x.pub :: M.map Ins.pub).Nodup := by
    rw [List.nodup_cons]
    refine ⟨fun hm => ?_, asc_nodup ((good_iff M).1 h.1).2.2⟩
    obtain ⟨y, hy, e⟩ := List.mem_map.1 hm
    exact hne y hy e
  have := nodup_len (U := U) h1 (fun p hp => by
    rcases List.mem_cons.1 hp with rfl | hp
    · exact hx
    · obtain ⟨y, hy, rfl⟩ := List.mem_map.1 hp
      exact hT y ((h.2 y).1 hy).1)
  simp only [List.length_cons, List.length_map] at this
  omega
theorem rep_fold {U : List (List UInt8)} (hU : U.length ≤ 16) : ∀ (b : List Ins) {M T : List Ins}, Rep M T → (∀ x ∈ b, goodI x = true) → (∀ y ∈ T, y.pub ∈ U) → (∀ y ∈ b, y.pub ∈ U) → Rep (b.foldl putL M) (T ++ b)
  | [], M, T, h, _, _, _ => by simpa using h
  | x :: b, M, T, h, hg, hT, hb => by
    have h1 := rep_put h (hg x (by simp)) (room h hU hT (hb x (by simp)))
    have := rep_fold hU b h1 (fun y hy => hg y (by simp [hy])) (fun y hy => by
      rcases List.mem_append.1 hy with hy | hy
      · exact hT y hy
      · simp only [List.mem_singleton] at hy
        subst hy
        exact hb y (by simp)) (fun y hy => hb y (by simp [hy]))
    rw [List.append_assoc] at this
    exact this
theorem top_congr {T T' : List Ins} (h : ∀ y, y ∈ T ↔ y ∈ T') (y : Ins) : IsTop T y ↔ IsTop T' y := by
  unfold IsTop
  rw [h y]
  exact ⟨fun ⟨a, b⟩ => ⟨a, fun z hz => b z ((h z).2 hz)⟩, fun ⟨a, b⟩ => ⟨a, fun z hz => b z ((h z).1 hz)⟩⟩
theorem rep_uniq {M M' T T' : List Ins} (h : Rep M T) (h' : Rep M' T') (e : ∀ y, y ∈ T ↔ y ∈ T') : M = M' :=
  asc_ext ((good_iff M).1 h.1).2.2 ((good_iff M').1 h'.1).2.2 (fun y => by rw [h.2, h'.2]; exact top_congr e y)
theorem rep_through {M N S T : List Ins} (h : Rep M T) (hN : Rep N (M ++ S)) : Rep N (T ++ S) := by
  refine ⟨hN.1, fun y => ?_⟩
  rw [hN.2]
  unfold IsTop
  simp only [List.mem_append]
  constructor
  · rintro ⟨hy, hc⟩
    refine ⟨hy.imp (fun h1 => ((h.2 y).1 h1).1) id, ?_⟩
    rintro z (hz | hz) e
    · obtain ⟨m, hm, e2, hle⟩ := top_ex T z hz
      exact leI_trans hle (hc m (.inl ((h.2 m).2 hm)) (e2.trans e))
    · exact hc z (.inr hz) e
  · rintro ⟨hy, hc⟩
    refine ⟨hy.imp (fun h1 => (h.2 y).2 ⟨h1, fun z hz e => hc z (.inl hz) e⟩) id, ?_⟩
    rintro z (hz | hz) e
    · exact hc z (.inl ((h.2 z).1 hz).1) e
    · exact hc z (.inr hz) e
/-! Merging. -/
def mergeL (a b : List Ins) : List Ins := if goodR a && goodR b then b.foldl putL a else a
theorem merge_is {a b : List Ins} (ha : goodR a = true) (hb : goodR b = true) : mergeL a b = b.foldl putL a := by unfold mergeL; rw [ha, hb]; rfl
theorem fold_good : ∀ (b : List Ins) {a : List Ins}, goodR a = true → (∀ x ∈ b, goodI x = true) → goodR (b.foldl putL a) = true
  | [], _, h, _ => h
  | x :: b, a, h, hg => fold_good b (put_good h (hg x (by simp))) (fun y hy => hg y (by simp [hy]))
theorem merge_good {a b : List Ins} (ha : goodR a = true) (hb : goodR b = true) : goodR (mergeL a b) = true := by
  rw [merge_is ha hb]
  exact fold_good b ha (goodR_all hb)
theorem rep_merge {a b : List Ins} (ha : goodR a = true) (hb : goodR b = true) {U : List (List UInt8)} (hU : U.length ≤ 16) (h : ∀ y ∈ a ++ b, y.pub ∈ U) : Rep (mergeL a b) (a ++ b) := by
  rw [merge_is ha hb]
  exact rep_fold hU b (rep_self ha) (goodR_all hb) (fun y hy => h y (by simp [hy])) (fun y hy => h y (by simp [hy]))
theorem merge_self {a : List Ins} (ha : goodR a = true) : mergeL a a = a := by
  have := rep_merge ha ha (U := a.map Ins.pub) (by rw [List.length_map]; exact ((good_iff a).1 ha).1) (fun y hy => List.mem_map.2 ⟨y, by simpa using hy, rfl⟩)
  exact rep_uniq this (rep_self ha) (fun y => by simp)
theorem rep_pubs {M T : List Ins} (h : Rep M T) {U : List (List UInt8)} (hT : ∀ y ∈ T, y.pub ∈ U) : ∀ y ∈ M, y.pub ∈ U := fun y hy => hT y ((h.2 y).1 hy).1
/-- The publishers of the first k. -/
def pubU (L : List Ins) : Nat → List (List UInt8)
  | 0 => []
  | k + 1 => if onceTo L k k then L[k]!.pub :: pubU L k else pubU L k
theorem pubU_len (L : List Ins) : ∀ k, (pubU L k).length = pubN L k
  | 0 => rfl
  | k + 1 => by
    have := pubU_len L k
    unfold pubU pubN
    split <;> simp [this]
theorem once_false {L : List Ins} {k : Nat} : ∀ j, onceTo L k j = false → ∃ i, i < j ∧ L[i]!.pub = L[k]!.pub
  | 0, h => by cases h
  | j + 1, h => by
    unfold onceTo at h
    cases ho : onceTo L k j with
    | false => obtain ⟨i, hi, e⟩ := once_false j ho; exact ⟨i, by omega, e⟩
    | true =>
      rw [ho, Bool.true_and, Bool.not_eq_false', beq_iff_eq] at h
      exact ⟨j, by omega, h⟩
theorem pubU_mem (L : List Ins) : ∀ k j, j < k → L[j]!.pub ∈ pubU L k
  | 0, j, h => by omega
  | k + 1, j, h => by
    unfold pubU
    by_cases hj : j = k
    · subst hj
      split
      · simp
      · rename_i ho
        obtain ⟨i, hi, e⟩ := once_false j (by simpa using ho)
        rw [← e]
        exact pubU_mem L j i hi
    · have := pubU_mem L k j (by omega)
      split
      · exact List.mem_cons_of_mem _ this
      · exact this
theorem pubU_all (L : List Ins) : ∀ y ∈ L, y.pub ∈ pubU L L.length := fun y hy => by
  obtain ⟨j, hj, rfl⟩ := List.getElem_of_mem hy
  have := pubU_mem L L.length j hj
  rwa [getElem!_pos L j hj] at this
theorem merge_all {a b c : List Ins} (ha : goodR a = true) (hb : goodR b = true) (hc : goodR c = true) (hn : pubN (a ++ b ++ c) (a ++ b ++ c).length ≤ 16) :
    mergeL a b = mergeL b a ∧ mergeL (mergeL a b) c = mergeL a (mergeL b c) ∧ mergeL (mergeL a b) b = mergeL a b := by
  have hU : (pubU (a ++ b ++ c) (a ++ b ++ c).length).length ≤ 16 := by rw [pubU_len]; exact hn
  have hall := pubU_all (a ++ b ++ c)
  generalize pubU (a ++ b ++ c) (a ++ b ++ c).length = U at *
  have pa : ∀ y ∈ a, y.pub ∈ U := fun y hy => hall y (by simp [hy])
  have pb : ∀ y ∈ b, y.pub ∈ U := fun y hy => hall y (by simp [hy])
  have pc : ∀ y ∈ c, y.pub ∈ U := fun y hy => hall y (by simp [hy])
  have both : ∀ {x y : List Ins}, (∀ z ∈ x, z.pub ∈ U) → (∀ z ∈ y, z.pub ∈ U) → ∀ z ∈ x ++ y, z.pub ∈ U := fun h1 h2 z hz => (List.mem_append.1 hz).elim (h1 z) (h2 z)
  have rab := rep_merge ha hb hU (both pa pb)
  have rba := rep_merge hb ha hU (both pb pa)
  have rbc := rep_merge hb hc hU (both pb pc)
  have pab := rep_pubs rab (both pa pb)
  have pbc := rep_pubs rbc (both pb pc)
  have gab := merge_good ha hb
  have gbc := merge_good hb hc
  refine ⟨rep_uniq rab rba (fun y => by simp only [List.mem_append]; exact ⟨Or.symm, Or.symm⟩), ?_, ?_⟩
  · have h1 := rep_through rab (rep_merge gab hc hU (both pab pc))
    have h2 := rep_merge ha gbc hU (both pa pbc)
    have h3 : Rep (mergeL a (mergeL b c)) (mergeL b c ++ a) := ⟨h2.1, fun y => (h2.2 y).trans (top_congr (fun z => by simp only [List.mem_append]; exact ⟨Or.symm, Or.symm⟩) y)⟩
    exact rep_uniq h1 (rep_through rbc h3) (fun y => by
      simp only [List.mem_append]
      constructor
      · rintro ((h | h) | h)
        · exact .inr h
        · exact .inl (.inl h)
        · exact .inl (.inr h)
      · rintro ((h | h) | h)
        · exact .inl (.inr h)
        · exact .inr h
        · exact .inl (.inl h))
  · have h1 := rep_through rab (rep_merge gab hb hU (both pab pb))
    exact rep_uniq h1 rab (fun y => by simp only [List.mem_append]; exact ⟨fun h => h.elim id .inr, .inl⟩)
/-! What is found. -/
/-- The newest one of x's publisher among the first j, as the statement's loop has it. -/
def newN (T : List Ins) (x : Ins) : Nat → Ins
  | 0 => x
  | j + 1 => if T[j]!.pub == x.pub && decide (cmpI T[j]! (newN T x j) > 0) then T[j]! else newN T x j
theorem newN_top {T : List Ins} {x : Ins} (hx : x ∈ T) : ∀ j, j ≤ T.length → newN T x j ∈ T ∧ (newN T x j).pub = x.pub ∧ ∀ i, i < j → T[i]!.pub = x.pub → cmpI T[i]! (newN T x j) ≤ 0
  | 0, _ => ⟨hx, rfl, fun i hi => by omega⟩
  | j + 1, hj => by
    obtain ⟨h1, h2, h3⟩ := newN_top hx j (by omega)
    have hm : T[j]! ∈ T := by rw [getElem!_pos T j (by omega)]; exact List.getElem_mem _
    unfold newN
    split
    · rename_i hc
      rw [Bool.and_eq_true, beq_iff_eq, decide_eq_true_eq] at hc
      refine ⟨hm, hc.1, fun i hi e => ?_⟩
      by_cases hij : i = j
      · subst hij; exact leI_refl _
      · exact leI_trans (h3 i (by omega) e) (gtI_le hc.2)
    · rename_i hc
      refine ⟨h1, h2, fun i hi e => ?_⟩
      by_cases hij : i = j
      · subst hij
        rw [Bool.and_eq_true, beq_iff_eq, decide_eq_true_eq] at hc
        have : ¬ cmpI T[i]! (newN T x i) > 0 := fun h => hc ⟨e, h⟩
        omega
      · exact h3 i (by omega) e
theorem getV_of {M : List Ins} (h : goodR M = true) {m : Ins} (hm : m ∈ M) : getV M m.pub = (m, true) := by
  unfold getV
  cases hf : M.filter (fun x => x.pub == m.pub) with
  | nil =>
    have : m ∈ M.filter (fun x => x.pub == m.pub) := List.mem_filter.2 ⟨hm, by simp⟩
    rw [hf] at this
    cases this
  | cons z zs =>
    have hz : z ∈ M.filter (fun x => x.pub == m.pub) := by rw [hf]; simp
    obtain ⟨hz1, hz2⟩ := List.mem_filter.1 hz
    have := asc_one ((good_iff M).1 h).2.2 hz1 hm (by simpa using hz2)
    subst this
    rfl
theorem newest_get {M T : List Ins} (h : Rep M T) {x : Ins} (hx : x ∈ T) : getV M x.pub = (newN T x T.length, true) := by
  obtain ⟨h1, h2, h3⟩ := newN_top hx T.length (Nat.le_refl _)
  rw [← h2]
  refine getV_of h.1 ((h.2 _).2 ⟨h1, fun z hz e => ?_⟩)
  obtain ⟨i, hi, rfl⟩ := List.getElem_of_mem hz
  have := h3 i hi (by rw [getElem!_pos T i hi, e, h2])
  rwa [getElem!_pos T i hi] at this
end Go.Proofs.Ytkceipkgebgigaa
end
section
namespace Go.Proofs.Ytkceipkgebgigaa
open Go.Shelf Go.RowKit Go.Lib Go.Great
set_option maxRecDepth 100000
set_option maxHeartbeats 400000
/-- A row of the program's own. -/
def OwnR (w : World) (M : List Ins) (W : World) (v : Value) : Prop := W.ownsRow w.heap.size 28 28 v M.length (flatE encI M) ∧ Below w.heap.size w W
theorem OwnR.bel {w W W' : World} {M : List Ins} {v : Value} (h : OwnR w M W v) (hb : Below W.heap.size W W') : OwnR w M W' v := ⟨own_bel h.1 hb, h.2.trans (hb.mono h.2.size)⟩
theorem OwnR.form {w W : World} {M : List Ins} {v : Value} (h : OwnR w M W v) : ∃ A c, v = .slice A M.length c ∧ IAt W W.heap.size A M ∧ (A = none ∨ ∃ g off, A = some ⟨g, off, none⟩) ∧ M.length ≤ c := by
  obtain ⟨A, c, hv, hn, hc, hm, hform⟩ := own_formI h.1
  rcases hform with ⟨e, e2, _⟩ | ⟨g, e, _, hg, hr⟩
  · exact ⟨A, c, hv, .inl e2, .inl e, hc⟩
  · exact ⟨A, c, hv, .inr ⟨g, 0, e, hg, hr⟩, .inr ⟨g, 0, e⟩, hc⟩
/-- The roster of the first k. -/
def foldK (a b : List Ins) (k : Nat) : List Ins := (b.take k).foldl putL a
theorem foldK_succ (a b : List Ins) (k : Nat) (hk : k < b.length) : foldK a b (k + 1) = putL (foldK a b k) b[k]! := by
  unfold foldK
  rw [List.take_add_one, List.getElem?_eq_getElem hk, getElem!_pos b k hk, List.foldl_append]
  rfl
theorem good_tgt {L : List Ins} (h : goodR L = true) : ∀ y ∈ L, y.tgt.length ≤ 253 := fun y hy => goodI_len (goodR_all h y hy)
theorem put_own {w W : World} {M : List Ins} {v : Value} (h : OwnR w M W v) (hg : goodR M = true) (x : Ins) (hx : goodI x = true) : Calls Try.prog 39 #[v, .agg (encI x).toArray] W fun e w' => ∃ v', e = .returned (.tuple #[v', .bool (putOk M x)]) ∧ OwnR w (putL M x) w' v' := by
  obtain ⟨A, c, rfl, hA, hA2, _⟩ := h.form
  have hl := ((goodR_iff M).1 hg).1
  refine (put_roster A c M x W (by omega) (fun y hy => by have := good_tgt hg y hy; omega) (by have := goodI_len hx; omega) hA hA2).mono ?_
  rintro e w' ⟨v', rfl, ho, hb⟩
  exact ⟨v', rfl, own_baseC ho h.2.size, h.2.trans (hb.mono h.2.size)⟩
theorem merge_bad (A B : Option Addr) (c d n : Nat) (a : List Ins) (w : World) (X : Value) (hX : X = .slice B n d)
    (ha : a.length ≤ 10000) (hta : ∀ y ∈ a, y.tgt.length ≤ 100000) (hA : IAt w w.heap.size A a) (hA2 : A = none ∨ ∃ g off, A = some ⟨g, off, none⟩)
    (hg : goodR a = false ∨ (goodR a = true ∧ ∀ W, Below w.heap.size w W → Calls Try.prog 40 #[X] W fun e w' => e = .returned (.bool false) ∧ Below W.heap.size W w')) :
    Calls Try.prog 43 #[.slice A a.length c, X] w fun e w' => ∃ v, e = .returned v ∧ OwnR w a w' v := by
  have HCL : Hid (Calls Try.prog 77 #[.slice A a.length c] w fun e w' => ∃ v, e = .returned v ∧ OwnR w a w' v) := Lib.hid ((iclone_any A c a w ha hA hA2).mono (by rintro e w' ⟨v, rfl, ho, hb⟩; exact ⟨v, rfl, ho, hb⟩))
  have HGA : Hid (∀ W v, OwnR w a W v → Calls Try.prog 40 #[.slice A a.length c] W fun e w' => e = .returned (.bool (goodR a)) ∧ OwnR w a w' v) := Lib.hid (fun W v h => (gd_any A c a W hta ((hA.below h.2).more h.2.size)).mono (by rintro e w' ⟨rfl, hb⟩; exact ⟨rfl, h.bel hb⟩))
  generalize a.length = m at *
  clear ha hta hA hA2 hX
  rcases hg with hg | ⟨hg, hb⟩
  · rw [hg] at HGA
    clear hg
    go_enter Try.func43, Try.ntmps43
    go_wp2_with (first
      | (go_at_call 77; (with_reducible refine HCL.out.mono ?_); rintro e w1 ⟨v1, rfl, ho1⟩)
      | (go_at_call 40; (with_reducible refine (HGA.out _ _ ho1).mono ?_); rintro e w2 ⟨rfl, ho2⟩))
    go_ret
    exact ⟨_, rfl, ho2⟩
  · rw [hg] at HGA
    have HGB : Hid (∀ W v, OwnR w a W v → Calls Try.prog 40 #[X] W fun e w' => e = .returned (.bool false) ∧ OwnR w a w' v) := Lib.hid (fun W v h => (hb W h.2).mono (by rintro e w' ⟨rfl, hb⟩; exact ⟨rfl, h.bel hb⟩))
    clear hg hb
    go_enter Try.func43, Try.ntmps43
    go_upto_region 2 with (first
      | (go_at_call 77; (with_reducible refine HCL.out.mono ?_); rintro e w1 ⟨v1, rfl, ho1⟩))
    have HG1 := Lib.hid (HGA.out _ _ ho1)
    clear HGA HCL
    go_wp2_with (first
      | (go_at_call 40; (with_reducible refine HG1.out.mono ?_); rintro e w2 ⟨rfl, ho2⟩; clear HG1; have HG2 := Lib.hid (HGB.out _ _ ho2))
      | (go_at_call 40; (with_reducible refine HG2.out.mono ?_); rintro e w3 ⟨rfl, ho3⟩))
    go_ret
    exact ⟨_, rfl, ho3⟩
theorem merge_fold (A B : Option Addr) (c d : Nat) (a b : List Ins) (w : World) (hga : goodR a = true) (hgb : goodR b = true)
    (hA : IAt w w.heap.size A a) (hA2 : A = none ∨ ∃ g off, A = some ⟨g, off, none⟩) (hB : IAt w w.heap.size B b) :
    Calls Try.prog 43 #[.slice A a.length c, .slice B b.length d] w fun e w' => ∃ v, e = .returned v ∧ OwnR w (mergeL a b) w' v := by
  have hla := ((goodR_iff a).1 hga).1
  have hlb := ((goodR_iff b).1 hgb).1
  have HCL : Hid (Calls Try.prog 77 #[.slice A a.length c] w fun e w' => ∃ v, e = .returned v ∧ OwnR w (foldK a b 0) w' v) := Lib.hid ((iclone_any A c a w (by omega) hA hA2).mono (by rintro e w' ⟨v, rfl, ho, hb⟩; exact ⟨v, rfl, ho, hb⟩))
  have HGA : Hid (∀ W v, OwnR w (foldK a b 0) W v → Calls Try.prog 40 #[.slice A a.length c] W fun e w' => e = .returned (.bool true) ∧ OwnR w (foldK a b 0) w' v) := Lib.hid (fun W v h => (gd_any A c a W (fun y hy => by have := good_tgt hga y hy; omega) ((hA.below h.2).more h.2.size)).mono (by rintro e w' ⟨rfl, hb⟩; exact ⟨by rw [hga], h.bel hb⟩))
  have HGB : Hid (∀ W v, OwnR w (foldK a b 0) W v → Calls Try.prog 40 #[.slice B b.length d] W fun e w' => e = .returned (.bool true) ∧ OwnR w (foldK a b 0) w' v) := Lib.hid (fun W v h => (gd_any B d b W (fun y hy => by have := good_tgt hgb y hy; omega) ((hB.below h.2).more h.2.size)).mono (by rintro e w' ⟨rfl, hb⟩; exact ⟨by rw [hgb], h.bel hb⟩))
  obtain ⟨n, hn⟩ : ∃ n, n = b.length := ⟨_, rfl⟩
  have HLD : Hid (∀ k, k < n → ∃ g off, B = some ⟨g, off, none⟩ ∧ ∀ W, Below w.heap.size w W → (loadVar 28 ⟨g, off + k * 28, none⟩).run Try.prog W = .ok (.agg (encI b[k]!).toArray) W) := Lib.hid (fun k hk => by
    rcases hB with rfl | ⟨g, off, rfl, hg, hr⟩
    · simp at hn; omega
    · exact ⟨g, off, rfl, fun W hW => row_load hr hg hW (by omega)⟩)
  have HPUT : Hid (∀ k, k < n → ∀ W v, OwnR w (foldK a b k) W v → Calls Try.prog 39 #[v, .agg (encI b[k]!).toArray] W fun e w' => ∃ v' r, e = .returned (.tuple #[v', .bool r]) ∧ OwnR w (foldK a b (k + 1)) w' v') := Lib.hid (fun k hk W v h => by
    have hgk : goodR (foldK a b k) = true := fold_good _ hga (fun x hx => goodR_all hgb x (List.mem_of_mem_take hx))
    have hx : goodI b[k]! = true := goodR_all hgb _ (by rw [getElem!_pos b k (by omega)]; exact List.getElem_mem _)
    refine (put_own h hgk b[k]! hx).mono ?_
    rintro e w' ⟨v', rfl, ho⟩
    exact ⟨v', _, rfl, by rw [foldK_succ a b k (by omega)]; exact ho⟩)
  have HEND : Hid (∀ W v, OwnR w (foldK a b n) W v → OwnR w (mergeL a b) W v) := Lib.hid (fun W v h => by
    rw [merge_is hga hgb]
    unfold foldK at h
    rw [hn, List.take_length] at h
    exact h)
  rw [← hn] at HGB hlb ⊢
  generalize a.length = m at *
  clear hA hA2 hB hga hgb hla hn
  go_enter Try.func43, Try.ntmps43
  go_upto_region 2 with (first
    | (go_at_call 77; (with_reducible refine HCL.out.mono ?_); rintro e w1 ⟨v1, rfl, ho1⟩))
  have HG1 := Lib.hid (HGA.out _ _ ho1)
  clear HGA HCL
  go_upto_region 5 with (first
    | (go_at_call 40; (with_reducible refine HG1.out.mono ?_); rintro e w2 ⟨rfl, ho2⟩; clear HG1; have HG2 := Lib.hid (HGB.out _ _ ho2))
    | (go_at_call 40; (with_reducible refine HG2.out.mono ?_); rintro e w3 ⟨rfl, ho3⟩))
  have HO3 := Lib.hid ho3
  clear ho1 ho2 ho3 HG2 HGB
  go_loopw [5, 21] (fun s5 i wr => ∃ k : Nat, i = .int .i64 (k : Int) ∧ k ≤ n ∧ OwnR w (foldK a b k) wr s5) (fun _ i _ => n - (RowKit.intOf i).toNat)
  case atStart => exact ⟨0, rfl, by omega, HO3.out⟩
  case round =>
    obtain ⟨k, rfl, hk, ho⟩ := hrel
    clear HO3
    by_cases hlt : k < n
    · have hlt' : (k : Int) < (n : Int) := by omega
      obtain ⟨g, off, rfl, hld⟩ := HLD.out k hlt
      have hld := Lib.hid (hld wr ho.2)
      have hnew := heap_alloc_new wr (.cells (encI b[k]!).toArray 28)
      have hba : Below wr.heap.size wr (wr.alloc (.cells (encI b[k]!).toArray 28)) := (Below.refl _ wr).alloc (Nat.le_refl _) _
      have HLX := Lib.hid (load28 (row_range hnew))
      have HP := Lib.hid (HPUT.out k hlt _ _ (ho.bel hba))
      clear HLD HPUT HEND ho hnew hba
      generalize b[k]! = x at *
      go_wp2_with (first
        | ((with_reducible refine wpList_loadV (op := ⟨some 24, _, _, _, _, _⟩) rfl 28 (.tmp 23) rfl _ ?_ _ hld.out ?_); rfl)
        | (with_reducible refine wpList_alloc28 (o := ⟨some 7, _, _, _, _, _⟩) wr.heap.size rfl rfl 7 rfl rfl ?_)
        | ((with_reducible refine wpList_store28n (o := ⟨none, _, _, _, _, _⟩) rfl (.tmp 7) (.tmp 24) rfl wr.heap.size rfl zeroI x ?_ ?_ ?_); rfl; rfl)
        | ((with_reducible refine wpList_loadV (op := ⟨some 27, _, _, _, _, _⟩) rfl 28 (.tmp 7) rfl _ ?_ _ HLX.out ?_); rfl)
        | (go_at_call 39; (with_reducible refine HP.out.mono ?_); rintro e w4 ⟨v4, r4, rfl, ho4⟩))
      go_roundw
      case rel => exact ⟨k + 1, by go_num, by omega, ho4⟩
      case measure => simp [RowKit.intOf]; omega
    · obtain rfl : k = n := by omega
      have HE := Lib.hid (HEND.out _ _ ho)
      clear HLD HPUT HEND ho
      go_wp2
      go_ret
      exact ⟨_, rfl, HE.out⟩
theorem merge_any (A B : Option Addr) (c d : Nat) (a b : List Ins) (w : World) (ha : a.length ≤ 10000) (hta : ∀ y ∈ a, y.tgt.length ≤ 100000) (htb : ∀ y ∈ b, y.tgt.length ≤ 100000)
    (hA : IAt w w.heap.size A a) (hA2 : A = none ∨ ∃ g off, A = some ⟨g, off, none⟩) (hB : IAt w w.heap.size B b) :
    Calls Try.prog 43 #[.slice A a.length c, .slice B b.length d] w fun e w' => ∃ v, e = .returned v ∧ OwnR w (mergeL a b) w' v := by
  have he : ¬ (goodR a = true ∧ goodR b = true) → mergeL a b = a := fun h => by
    unfold mergeL
    rw [if_neg (by rw [Bool.and_eq_true]; exact h)]
  cases hga : goodR a with
  | false =>
    rw [he (by rw [hga]; simp)]
    exact merge_bad A B c d b.length a w _ rfl ha hta hA hA2 (.inl hga)
  | true =>
    cases hgb : goodR b with
    | false =>
      rw [he (by rw [hgb]; simp)]
      exact merge_bad A B c d b.length a w _ rfl ha hta hA hA2 (.inr ⟨hga, fun W hW => by
        have := gd_any B d b W htb ((hB.below hW).more hW.size)
        rw [hgb] at this
        exact this⟩)
    | true => exact merge_fold A B c d a b w hga hgb hA hA2 hB
end Go.Proofs.Ytkceipkgebgigaa
end
