/- Instances are read back from their bytes, and what is read has just these: plain. No condition. -/
import Derived.Test.YtkceipkgebgigaaXIis
import Derived.Test.YtkceipkgebgigaaXIiw
namespace Go.Proofs.Ytkceipkgebgigaa
open Go.Shelf Go.RowKit Go.Lib Go.Great
set_option maxRecDepth 100000
set_option maxHeartbeats 1000000
theorem putB_succ (N k : Nat) : putB N (k + 1) = putB (N / 256) k ++ [UInt8.ofNat N] := by
  unfold putB
  rw [List.range_succ, List.map_append]
  congr 1
  · apply List.map_congr_left
    intro i hi
    have hi : i < k := by simpa using hi
    congr 1
    rw [Nat.div_div_eq_div_mul, show (256 : Nat) = 2 ^ 8 from rfl, ← Nat.pow_add]
    congr 2
    omega
  · simp

theorem getN_putB (k : Nat) : ∀ N : Nat, getN (putB N k) = N % 256 ^ k := by
  induction k with
  | zero => intro N; simp [putB, getN, Nat.mod_one]
  | succ k ih =>
    intro N
    rw [putB_succ, getN_snoc, ih]
    have h1 : (UInt8.ofNat N).toNat = N % 256 := by simp
    rw [h1, Nat.pow_succ, Nat.mul_comm (256 ^ k) 256, Nat.mod_mul]
    omega

theorem putB_getN (k : Nat) : ∀ ys : List UInt8, ys.length = k → putB (getN ys) k = ys := by
  induction k with
  | zero => intro ys h; have := List.eq_nil_of_length_eq_zero h; subst this; rfl
  | succ k ih =>
    intro ys h
    have hne : ys ≠ [] := by intro e; subst e; simp at h
    have hy := List.dropLast_concat_getLast hne
    rw [putB_succ]
    rw [← hy, getN_snoc]
    have hb := (ys.getLast hne).toNat_lt
    have e1 : (getN ys.dropLast * 256 + (ys.getLast hne).toNat) / 256 = getN ys.dropLast := by omega
    rw [e1, ih _ (by rw [List.length_dropLast]; omega)]
    congr 2
    apply UInt8.toNat.inj
    simp

/-- A number's part is read again. -/
theorem num_back (N k : Nat) (ys : List UInt8) (h1 : 1 ≤ k) (h8 : k ≤ 8) : numV ⟨putB N k ++ ys, false⟩ (k : Int) = N % 256 ^ k ∧ numS ⟨putB N k ++ ys, false⟩ (k : Int) = ⟨ys, false⟩ := by
  have hl := putB_length N k
  have hok : numOk ⟨putB N k ++ ys, false⟩ (k : Int) := ⟨rfl, by omega, by omega, by simp only [List.length_append]; omega⟩
  simp only [numV, numS, if_pos hok, Int.toNat_natCast]
  rw [List.take_left' hl, List.drop_left' hl, getN_putB]
  exact ⟨rfl, rfl⟩
/-- A text's part is read again. -/
theorem txt_back (t ys : List UInt8) (h : t.length ≤ 1024) : txtV ⟨(putB t.length 2 ++ t) ++ ys, false⟩ 1024 = t ∧ txtS ⟨(putB t.length 2 ++ t) ++ ys, false⟩ 1024 = ⟨ys, false⟩ := by
  have hl := putB_length t.length 2
  have e1 : ((putB t.length 2 ++ t) ++ ys).take 2 = putB t.length 2 := by rw [List.append_assoc, List.take_left' hl]
  have e2 : ((putB t.length 2 ++ t) ++ ys).drop 2 = t ++ ys := by rw [List.append_assoc, List.drop_left' hl]
  have e3 : getN (putB t.length 2) = t.length := by rw [getN_putB]; omega
  have hok : txtOk ⟨(putB t.length 2 ++ t) ++ ys, false⟩ 1024 := by
    refine ⟨rfl, by simp only [List.length_append]; omega, ?_, ?_, ?_⟩
    · simp only [e1, e3]; omega
    · simp only [e1, e3]; omega
    · simp only [e1, e3, List.length_append]; omega
  simp only [txtV, txtS, if_pos hok, e1, e2, e3]
  rw [List.take_left' rfl, List.drop_left' rfl]
  exact ⟨rfl, rfl⟩

/-- What was read is put again: as long as the reader is not bad, what was put and what is left are the bytes. -/
def Back (b o : List UInt8) (s : St) : Prop := s.bad = false → b = o ++ s.ys
theorem back_num (b o : List UInt8) (s : St) (k : Nat) (h : Back b o s) : Back b (o ++ putB (numV s (k : Int)) k) (numS s (k : Int)) := by
  intro hb
  by_cases hok : numOk s (k : Int)
  · simp only [numS, numV, if_pos hok, Int.toNat_natCast] at hb ⊢
    obtain ⟨h0, h1, h8, hle⟩ := hok
    rw [putB_getN k _ (by rw [List.length_take]; omega), List.append_assoc, List.take_append_drop]
    exact h h0
  · simp [numS, if_neg hok] at hb
theorem back_txt (b o : List UInt8) (s : St) (h : Back b o s) : Back b (o ++ (putB (txtV s 1024).length 2 ++ txtV s 1024)) (txtS s 1024) := by
  intro hb
  by_cases hok : txtOk s 1024
  · simp only [txtS, txtV, if_pos hok] at hb ⊢
    obtain ⟨h0, h2, h3, h4, h5⟩ := hok
    have e1 : ((s.ys.drop 2).take (getN (s.ys.take 2))).length = getN (s.ys.take 2) := by rw [List.length_take, List.length_drop]; omega
    rw [e1, putB_getN 2 _ (by rw [List.length_take]; omega), List.append_assoc, List.append_assoc, List.take_append_drop, List.take_append_drop]
    exact h h0
  · simp [txtS, if_neg hok] at hb

theorem take_back (p ys : List UInt8) (h : p.length = 20) : takeV ⟨p ++ ys, false⟩ 20 = p ∧ takeS ⟨p ++ ys, false⟩ 20 = ⟨ys, false⟩ := by
  have hok : takeOk ⟨p ++ ys, false⟩ 20 := ⟨rfl, by omega, by simp only [List.length_append]; omega⟩
  simp only [takeV, takeS, if_pos hok]
  rw [show (20 : Int).toNat = 20 from rfl, List.take_left' h, List.drop_left' h]
  exact ⟨rfl, rfl⟩
theorem back_take (b : List UInt8) (s : St) (h : Back b [] s) (hb : (takeS s 20).bad = false) : (takeV s 20).length = 20 ∧ Back b (takeV s 20) (takeS s 20) := by
  by_cases hok : takeOk s 20
  · simp only [takeS, takeV, if_pos hok] at hb ⊢
    obtain ⟨h0, h1, h2⟩ := hok
    refine ⟨by rw [List.length_take, show (20 : Int).toNat = 20 from rfl]; omega, fun _ => ?_⟩
    rw [List.take_append_drop]
    exact h h0
  · simp [takeS, if_neg hok] at hb
theorem num_bad {s : St} {k : Int} (h : (numS s k).bad = false) : s.bad = false := by
  by_cases hok : numOk s k
  · exact hok.1
  · simp [numS, if_neg hok] at h
theorem txt_bad {s : St} {k : Int} (h : (txtS s k).bad = false) : s.bad = false := by
  by_cases hok : txtOk s k
  · exact hok.1
  · simp [txtS, if_neg hok] at h
theorem gone_fields {i : Ins} (h : goodI i = true) (hg : i.gone = true) : i.pri = 0 ∧ i.wei = 0 ∧ i.port = 0 ∧ i.tgt = [] := by
  unfold goodI at h
  rw [hg, if_pos rfl, eq_bare i hg] at h
  simp only [Bool.and_eq_true, decide_eq_true_eq] at h
  exact ⟨h.2.1, h.2.2.1, h.2.2.2.1, h.2.2.2.2⟩
/-- A good instance is read from its bytes. -/
theorem next_back {i : Ins} (h : goodI i = true) (ys : List UInt8) : nextI ⟨bytesI i ++ ys, false⟩ = i ∧ nextS ⟨bytesI i ++ ys, false⟩ = ⟨ys, false⟩ := by
  obtain ⟨T, hT⟩ : ∃ T, T = if i.gone then ys else putB i.pri 2 ++ (putB i.wei 2 ++ (putB i.port 2 ++ ((putB i.tgt.length 2 ++ i.tgt) ++ ys))) := ⟨_, rfl⟩
  have e : bytesI i ++ ys = i.pub ++ (putB i.seq 8 ++ (putB i.born 8 ++ (putB i.life 4 ++ (putB (flagN i.gone) 1 ++ T)))) := by
    rw [hT]
    unfold bytesI headB
    cases i.gone
    · simp only [Bool.false_eq_true, if_false, List.append_assoc]
    · simp only [if_true, List.append_assoc]
  rw [e]
  have n8 := fun N (ys : List UInt8) => num_back N 8 ys (by omega) (by omega)
  have n4 := fun N (ys : List UInt8) => num_back N 4 ys (by omega) (by omega)
  have n1 := fun N (ys : List UInt8) => num_back N 1 ys (by omega) (by omega)
  have n2 := fun N (ys : List UInt8) => num_back N 2 ys (by omega) (by omega)
  simp only [show ((8 : Nat) : Int) = 8 from rfl, show ((4 : Nat) : Int) = 4 from rfl, show ((1 : Nat) : Int) = 1 from rfl, show ((2 : Nat) : Int) = 2 from rfl] at n8 n4 n1 n2
  have k0 := take_back i.pub (putB i.seq 8 ++ (putB i.born 8 ++ (putB i.life 4 ++ (putB (flagN i.gone) 1 ++ T)))) i.hp
  generalize hs : (⟨i.pub ++ (putB i.seq 8 ++ (putB i.born 8 ++ (putB i.life 4 ++ (putB (flagN i.gone) 1 ++ T)))), false⟩ : St) = s at *
  have e1 : s1 s = ⟨putB i.seq 8 ++ (putB i.born 8 ++ (putB i.life 4 ++ (putB (flagN i.gone) 1 ++ T))), false⟩ := k0.2
  have k1 := n8 i.seq (putB i.born 8 ++ (putB i.life 4 ++ (putB (flagN i.gone) 1 ++ T)))
  have e2 : s2 s = ⟨putB i.born 8 ++ (putB i.life 4 ++ (putB (flagN i.gone) 1 ++ T)), false⟩ := by unfold s2; rw [e1]; exact k1.2
  have k2 := n8 i.born (putB i.life 4 ++ (putB (flagN i.gone) 1 ++ T))
  have e3 : s3 s = ⟨putB i.life 4 ++ (putB (flagN i.gone) 1 ++ T), false⟩ := by unfold s3; rw [e2]; exact k2.2
  have k3 := n4 i.life (putB (flagN i.gone) 1 ++ T)
  have e4 : s4 s = ⟨putB (flagN i.gone) 1 ++ T, false⟩ := by unfold s4; rw [e3]; exact k3.2
  have k4 := n1 (flagN i.gone) T
  have e5 : s5 s = ⟨T, false⟩ := by unfold s5; rw [e4]; exact k4.2
  have v0 : pubV s = i.pub := by unfold pubV; rw [k0.1, if_pos i.hp]
  have v1 : numV (s1 s) 8 = i.seq := by rw [e1, k1.1]; exact Nat.mod_eq_of_lt i.hs
  have v2 : numV (s2 s) 8 = i.born := by rw [e2, k2.1]; exact Nat.mod_eq_of_lt i.hb
  have v3 : numV (s3 s) 4 = i.life := by rw [e3, k3.1]; exact Nat.mod_eq_of_lt i.hl
  have v4 : flagV s = flagN i.gone := by unfold flagV; rw [e4, k4.1]; exact Nat.mod_eq_of_lt (by unfold flagN; split <;> decide)
  clear k1 k2 k3 k4 k0
  cases hg : i.gone
  · rw [hg] at v4 hT
    simp only [Bool.false_eq_true, if_false] at hT
    have f0 : flagV s = 0 := v4
    have k5 := n2 i.pri (putB i.wei 2 ++ (putB i.port 2 ++ ((putB i.tgt.length 2 ++ i.tgt) ++ ys)))
    have e6 : s6 s = ⟨putB i.wei 2 ++ (putB i.port 2 ++ ((putB i.tgt.length 2 ++ i.tgt) ++ ys)), false⟩ := by unfold s6; rw [e5, hT]; exact k5.2
    have k6 := n2 i.wei (putB i.port 2 ++ ((putB i.tgt.length 2 ++ i.tgt) ++ ys))
    have e7 : s7 s = ⟨putB i.port 2 ++ ((putB i.tgt.length 2 ++ i.tgt) ++ ys), false⟩ := by unfold s7; rw [e6]; exact k6.2
    have k7 := n2 i.port ((putB i.tgt.length 2 ++ i.tgt) ++ ys)
    have e8 : s8 s = ⟨(putB i.tgt.length 2 ++ i.tgt) ++ ys, false⟩ := by unfold s8; rw [e7]; exact k7.2
    have k8 := txt_back i.tgt ys (by have := goodI_len h; omega)
    have e9 : s9 s = ⟨ys, false⟩ := by unfold s9; rw [e8]; exact k8.2
    refine ⟨?_, by unfold nextS; rw [if_pos f0]; exact e9⟩
    unfold nextI
    rw [if_pos f0]
    refine Ins.same v0 v1 v2 v3 hg.symm ?_ ?_ ?_ ?_
    · show numV (s5 s) 2 = i.pri
      rw [e5, hT, k5.1]; exact Nat.mod_eq_of_lt i.h1
    · show numV (s6 s) 2 = i.wei
      rw [e6, k6.1]; exact Nat.mod_eq_of_lt i.h2
    · show numV (s7 s) 2 = i.port
      rw [e7, k7.1]; exact Nat.mod_eq_of_lt i.h3
    · show txtV (s8 s) 1024 = i.tgt
      rw [e8]; exact k8.1
  · rw [hg] at v4 hT
    simp only [if_true] at hT
    have f1 : flagV s = 1 := v4
    obtain ⟨g1, g2, g3, g4⟩ := gone_fields h hg
    refine ⟨?_, by unfold nextS; rw [if_neg (by omega), e5, hT]⟩
    unfold nextI
    rw [if_neg (by omega)]
    refine Ins.same v0 v1 v2 v3 ?_ g1.symm g2.symm g3.symm g4.symm
    show decide (flagV s = 1) = i.gone
    rw [f1, hg]
    rfl
theorem read_back {i : Ins} (h : goodI i = true) (ys : List UInt8) : readI ⟨bytesI i ++ ys, false⟩ = i ∧ readS ⟨bytesI i ++ ys, false⟩ = ⟨ys, false⟩ ∧ goodI (nextI ⟨bytesI i ++ ys, false⟩) = true := by
  obtain ⟨h1, h2⟩ := next_back h ys
  unfold readI readS
  rw [h1, h2, if_pos h, if_pos h]
  exact ⟨rfl, rfl, h⟩
theorem bytesI_inj {a b : Ins} (ha : goodI a = true) (hb : goodI b = true) (h : bytesI a = bytesI b) : a = b := by
  have h1 := (next_back ha []).1
  have h2 := (next_back hb []).1
  rw [h] at h1
  rw [← h1, h2]
/-- What is read has just these bytes. -/
theorem next_bytes {b : List UInt8} (h : goodI (nextI ⟨b, false⟩) = true) : b = bytesI (nextI ⟨b, false⟩) ++ (nextS ⟨b, false⟩).ys ∧ (nextS ⟨b, false⟩).bad = false := by
  have hbd : (nextS ⟨b, false⟩).bad = false := by
    cases hx : (nextS ⟨b, false⟩).bad
    · rfl
    · rw [nextS_bad hx] at h; exact absurd h (by simp)
  refine ⟨?_, hbd⟩
  have hf2 : flagV ⟨b, false⟩ ≤ 1 := Classical.byContradiction fun hh => by rw [flag_two (by omega)] at h; exact absurd h (by simp)
  generalize hs : (⟨b, false⟩ : St) = s at *
  have B0 : Back b [] s := fun _ => by rw [← hs]; rfl
  have h5 : (s5 s).bad = false := by
    unfold nextS at hbd
    split at hbd
    · exact num_bad (k := 2) (num_bad (k := 2) (num_bad (k := 2) (txt_bad hbd)))
    · exact hbd
  have b4 := num_bad h5
  have b3 := num_bad b4
  have b2 := num_bad b3
  have b1 : (s1 s).bad = false := num_bad b2
  obtain ⟨hl, B1⟩ := back_take b s B0 b1
  have B2 := back_num b _ _ 8 B1
  have B3 := back_num b _ _ 8 B2
  have B4 := back_num b _ _ 4 B3
  have B5 := back_num b _ _ 1 B4
  have v0 : pubV s = takeV s 20 := by unfold pubV; rw [if_pos hl]
  by_cases h0 : flagV s = 0
  · have B6 := back_num b _ _ 2 B5
    have B7 := back_num b _ _ 2 B6
    have B8 := back_num b _ _ 2 B7
    have B9 := back_txt b _ _ B8
    have hn : nextS s = s9 s := by unfold nextS; rw [if_pos h0]
    rw [hn] at hbd ⊢
    have := B9 hbd
    rw [this]
    congr 1
    have hi : (nextI s).gone = false := by unfold nextI; rw [if_pos h0]
    unfold bytesI headB
    rw [hi]
    unfold nextI
    rw [if_pos h0]
    simp only [Bool.false_eq_true, if_false]
    rw [v0, ← (show flagV s = flagN false from h0)]
    rfl
  · have h1 : flagV s = 1 := by omega
    have hn : nextS s = s5 s := by unfold nextS; rw [if_neg h0]
    rw [hn] at hbd ⊢
    have := B5 hbd
    rw [this]
    congr 1
    have hi : (nextI s).gone = true := by unfold nextI; rw [if_neg h0]; simp only [decide_eq_true_eq]; exact h1
    unfold bytesI headB
    rw [hi]
    unfold nextI
    rw [if_neg h0]
    simp only [if_true]
    rw [v0, ← (show flagV s = flagN true from h1)]
    rfl
end Go.Proofs.Ytkceipkgebgigaa
