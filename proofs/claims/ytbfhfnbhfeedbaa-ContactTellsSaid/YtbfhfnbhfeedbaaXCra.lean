/- Contacts of the reference: equality, loads; its Good and Find. Conditions: at most 10,000 contacts. GoodList of the reference. Conditions: at most 10,000 contacts. -/
import Derived.Test.YtbfhfnbhfeedbaaXCdg
section
namespace Go.Proofs.Ytbfhfnbhfeedbaa
open Go.Shelf Go.RowKit Go.Lib Go.Sort Go.Great
set_option maxRecDepth 100000
set_option maxHeartbeats 1000000
theorem size73 : (Try.prog.info? 73).map (·.size) = some 22 := by kernel_rfl
theorem load73 {w : World} {g o : Nat} {c : Con} (hr : w.rangeAt g o (encC c)) : (loadVar 73 ⟨g, o, none⟩).run Try.prog w = .ok (.agg (encC c).toArray) w :=
  run_loadVar_mid w g o 73 (encC c) _ hr Try.underlying73 rfl (by rw [encC_length]; kernel_rfl)
theorem zV73 (W : World) : (zeroValue 73).run Try.prog W = .ok (.agg (encC default).toArray) W := by kernel_rfl
theorem load71 {w : World} {g o h p : Nat} (hr : w.rangeAt g o [.int .u32 (h : Int), .int .u16 (p : Int)]) : (loadVar 71 ⟨g, o, none⟩).run Try.prog w = .ok (.agg (adr h p)) w :=
  run_loadVar_mid w g o 71 [.int .u32 (h : Int), .int .u16 (p : Int)] _ hr Try.underlying71 rfl (by kernel_rfl)
theorem range_adr {w : World} {g o : Nat} {c : Con} (h : w.rangeAt g o (encC c)) : w.rangeAt g (o + 20) [.int .u32 (c.1.2.1 : Int), .int .u16 (c.1.2.2 : Int)] := by
  rw [encC_id] at h
  have h2 := range_back h
  rwa [show (encID (idC c)).length = 20 by unfold encID; rw [bcells_length]; exact (idC c).property] at h2
theorem range_idC {w : World} {g o : Nat} {c : Con} (h : w.rangeAt g o (encC c)) : w.rangeAt g o (encID (idC c)) := by
  rw [encC_id] at h
  exact range_front h
theorem eq64 (xs ys : List UInt8) (hx : xs.length = 20) (hy : ys.length = 20) (W : World) : (Op.equalIn 10000 64 (.agg (bcells xs).toArray) (.agg (bcells ys).toArray)).run Try.prog W = .ok (xs == ys) W :=
  run_equalIn_bytes W 9998 64 5 20 Try.underlying64 Try.underlying5 (fun w => by
    obtain ⟨i0, hi, hz0, hz1, hz2⟩ := info_parts info5
    simp [sizeOf, typeInfo, hi, hz1]) xs ys hx hy
/-- Two contacts are the same. -/
def eqC (x y : Con) : Bool := x.1.1 == y.1.1 && (x.1.2.1 == y.1.2.1 && x.1.2.2 == y.1.2.2)
theorem eqC_iff (x y : Con) : eqC x y = true ↔ x = y := by
  unfold eqC
  simp only [Bool.and_eq_true, beq_iff_eq]
  constructor
  · rintro ⟨a, b, c⟩
    exact Subtype.ext (Prod.ext a (Prod.ext b c))
  · rintro rfl
    exact ⟨rfl, rfl, rfl⟩
theorem beq_int (a b : Nat) : ((a : Int) == (b : Int)) = (a == b) := by
  rw [Bool.eq_iff_iff]
  simp only [beq_iff_eq]
  omega
theorem encC_ext1 (z : Con) : (encC z).toArray.extract 0 20 = (encID (idC z)).toArray := by
  have hl : (encID (idC z)).length = 20 := by unfold encID; rw [bcells_length]; exact (idC z).property
  rw [encC_id, List.extract_toArray, List.extract_eq_take_drop, List.drop_zero, List.take_append_of_le_length (by omega), List.take_of_length_le (by omega)]
theorem encC_ext2 (z : Con) : (encC z).toArray.extract 20 22 = adr z.1.2.1 z.1.2.2 := by
  have hl : (encID (idC z)).length = 20 := by unfold encID; rw [bcells_length]; exact (idC z).property
  rw [encC_id, List.extract_toArray, List.extract_eq_take_drop, List.drop_append_of_le_length (by omega), List.drop_of_length_le (by omega)]
  rfl
theorem eqAdr58 (h p h' p' : Nat) (W : World) : (Op.equalIn 9999 58 (.agg (adr h p)) (.agg (adr h' p'))).run Try.prog W = .ok (h == h' && p == p') W := by
  rw [run_equalIn_struct W 9998 58 _ _ (by kernel_rfl) (by kernel_rfl)]
  rw [show (Try.prog.fieldsOf 58).toList = [⟨"Host", 34, 0, false, "", "", 0⟩, ⟨"Port", 56, 1, false, "", "", 4⟩] from by kernel_rfl]
  have e1 := fun a b W => run_equalIn_int (P := Try.prog) W 9997 34 .u32 .u32 a b (by kernel_rfl)
  have e2 := fun a b W => run_equalIn_int (P := Try.prog) W 9997 56 .u16 .u16 a b (by kernel_rfl)
  have q1 : ∀ (h p : Nat) W, (part 34 (adr h p) 0).run Try.prog W = .ok (.int .u32 (h : Int)) W := fun h p W => by kernel_rfl
  have q2 : ∀ (h p : Nat) W, (part 56 (adr h p) 1).run Try.prog W = .ok (.int .u16 (p : Int)) W := fun h p W => by kernel_rfl
  simp only [Op.eqFields, Sem.run_bind, Sem.run_ite, q1, q2, e1, e2, Result.andThen_ok, beq_int]
  cases h == h' <;> cases p == p' <;> simp [Op.eqFields]
theorem eqAdr71 (h p h' p' : Nat) (W : World) : (Op.equalIn 9999 71 (.agg (adr h p)) (.agg (adr h' p'))).run Try.prog W = .ok (h == h' && p == p') W := by
  rw [run_equalIn_struct W 9998 71 _ _ (by kernel_rfl) (by kernel_rfl)]
  rw [show (Try.prog.fieldsOf 71).toList = [⟨"Host", 34, 0, false, "", "", 0⟩, ⟨"Port", 56, 1, false, "", "", 4⟩] from by kernel_rfl]
  have e1 := fun a b W => run_equalIn_int (P := Try.prog) W 9997 34 .u32 .u32 a b (by kernel_rfl)
  have e2 := fun a b W => run_equalIn_int (P := Try.prog) W 9997 56 .u16 .u16 a b (by kernel_rfl)
  have q1 : ∀ (h p : Nat) W, (part 34 (adr h p) 0).run Try.prog W = .ok (.int .u32 (h : Int)) W := fun h p W => by kernel_rfl
  have q2 : ∀ (h p : Nat) W, (part 56 (adr h p) 1).run Try.prog W = .ok (.int .u16 (p : Int)) W := fun h p W => by kernel_rfl
  simp only [Op.eqFields, Sem.run_bind, Sem.run_ite, q1, q2, e1, e2, Result.andThen_ok, beq_int]
  cases h == h' <;> cases p == p' <;> simp [Op.eqFields]
theorem eqCon60 (x y : Con) (W : World) : (Op.equalIn 10000 60 (.agg (encC x).toArray) (.agg (encC y).toArray)).run Try.prog W = .ok (eqC x y) W := by
  rw [run_equalIn_struct W 9999 60 _ _ (by kernel_rfl) (by kernel_rfl)]
  rw [show (Try.prog.fieldsOf 60).toList = [⟨"ID", 55, 0, false, "", "", 0⟩, ⟨"Addr", 58, 20, false, "", "", 20⟩] from by kernel_rfl]
  have i1 : ∀ W, (isAgg 55).run Try.prog W = .ok true W := fun W => by kernel_rfl
  have i2 : ∀ W, (isAgg 58).run Try.prog W = .ok true W := fun W => by kernel_rfl
  have s1 : ∀ W, (Go.sizeOf 55).run Try.prog W = .ok 20 W := fun W => by kernel_rfl
  have s2 : ∀ W, (Go.sizeOf 58).run Try.prog W = .ok 2 W := fun W => by kernel_rfl
  have q1 : ∀ (z : Con) W, (part 55 (encC z).toArray 0).run Try.prog W = .ok (.agg (encID (idC z)).toArray) W := fun z W => by
    unfold part
    simp only [Sem.run_bind, i1, s1, Result.andThen_ok, if_true, Sem.run_pure]
    rw [Nat.zero_add, encC_ext1]
  have q2 : ∀ (z : Con) W, (part 58 (encC z).toArray 20).run Try.prog W = .ok (.agg (adr z.1.2.1 z.1.2.2)) W := fun z W => by
    unfold part
    simp only [Sem.run_bind, i2, s2, Result.andThen_ok, if_true, Sem.run_pure]
    rw [show 20 + 2 = 22 from rfl, encC_ext2]
  have e1 : ∀ W, (Op.equalIn 9999 55 (.agg (encID (idC x)).toArray) (.agg (encID (idC y)).toArray)).run Try.prog W = .ok (x.1.1 == y.1.1) W := fun W =>
    run_equalIn_bytes W 9997 55 5 20 Try.underlying55 Try.underlying5 (fun w => by
      obtain ⟨i0, hi, hz0, hz1, hz2⟩ := info_parts info5
      simp [sizeOf, typeInfo, hi, hz1]) x.1.1 y.1.1 x.2.id y.2.id
  have e2 := fun W => eqAdr58 x.1.2.1 x.1.2.2 y.1.2.1 y.1.2.2 W
  simp only [Op.eqFields, Sem.run_bind, Sem.run_ite, q1, q2, e1, e2, Result.andThen_ok]
  unfold eqC
  cases x.1.1 == y.1.1 <;> cases (x.1.2.1 == y.1.2.1 && x.1.2.2 == y.1.2.2) <;> simp [Op.eqFields]
theorem eqCon73 (x y : Con) (W : World) : (Op.equalIn 10000 73 (.agg (encC x).toArray) (.agg (encC y).toArray)).run Try.prog W = .ok (eqC x y) W := by
  rw [run_equalIn_struct W 9999 73 _ _ (by kernel_rfl) (by kernel_rfl)]
  rw [show (Try.prog.fieldsOf 73).toList = [⟨"ID", 64, 0, false, "", "", 0⟩, ⟨"Addr", 71, 20, false, "", "", 20⟩] from by kernel_rfl]
  have i1 : ∀ W, (isAgg 64).run Try.prog W = .ok true W := fun W => by kernel_rfl
  have i2 : ∀ W, (isAgg 71).run Try.prog W = .ok true W := fun W => by kernel_rfl
  have s1 : ∀ W, (Go.sizeOf 64).run Try.prog W = .ok 20 W := fun W => by kernel_rfl
  have s2 : ∀ W, (Go.sizeOf 71).run Try.prog W = .ok 2 W := fun W => by kernel_rfl
  have q1 : ∀ (z : Con) W, (part 64 (encC z).toArray 0).run Try.prog W = .ok (.agg (encID (idC z)).toArray) W := fun z W => by
    unfold part
    simp only [Sem.run_bind, i1, s1, Result.andThen_ok, if_true, Sem.run_pure]
    rw [Nat.zero_add, encC_ext1]
  have q2 : ∀ (z : Con) W, (part 71 (encC z).toArray 20).run Try.prog W = .ok (.agg (adr z.1.2.1 z.1.2.2)) W := fun z W => by
    unfold part
    simp only [Sem.run_bind, i2, s2, Result.andThen_ok, if_true, Sem.run_pure]
    rw [show 20 + 2 = 22 from rfl, encC_ext2]
  have e1 : ∀ W, (Op.equalIn 9999 64 (.agg (encID (idC x)).toArray) (.agg (encID (idC y)).toArray)).run Try.prog W = .ok (x.1.1 == y.1.1) W := fun W =>
    run_equalIn_bytes W 9997 64 5 20 Try.underlying64 Try.underlying5 (fun w => by
      obtain ⟨i0, hi, hz0, hz1, hz2⟩ := info_parts info5
      simp [sizeOf, typeInfo, hi, hz1]) x.1.1 y.1.1 x.2.id y.2.id
  have e2 := fun W => eqAdr71 x.1.2.1 x.1.2.2 y.1.2.1 y.1.2.2 W
  simp only [Op.eqFields, Sem.run_bind, Sem.run_ite, q1, q2, e1, e2, Result.andThen_ok]
  unfold eqC
  cases x.1.1 == y.1.1 <;> cases (x.1.2.1 == y.1.2.1 && x.1.2.2 == y.1.2.2) <;> simp [Op.eqFields]
theorem idxF_find (p : Con → Bool) (d : Con) : ∀ (L : List Con) (i : Nat), Lib.idxByFrom (fun _ y => p y) d L i = match L.findIdx? p with | some k => ((i + k : Nat) : Int) | none => -1
  | [], i => rfl
  | y :: L, i => by
    rw [Lib.idxByFrom, List.findIdx?_cons]
    by_cases h : p y = true
    · simp [h]
    · rw [if_neg (by simpa using h), if_neg (by simpa using h), idxF_find p d L (i + 1)]
      cases L.findIdx? p with
      | none => rfl
      | some k => show ((i + 1 + k : Nat) : Int) = ((i + (k + 1) : Nat) : Int); omega
theorem idxP_find (p : Con → Bool) (L : List Con) : idxP p L = match L.findIdx? p with | some k => (k : Int) | none => -1 := by
  unfold idxP Lib.idxBy
  rw [idxF_find]
  cases L.findIdx? p with
  | none => rfl
  | some k => simp
theorem idxP_hit {p : Con → Bool} {L : List Con} {k : Nat} (hk : k < L.length) (h : p L[k] = true) (hne : ∀ j (hj : j < L.length), j < k → p L[j] = false) : idxP p L = (k : Int) := by
  rw [idxP_find, List.findIdx?_eq_some_iff_getElem.2 ⟨hk, h, fun j hj => by rw [hne j (by omega) hj]; simp⟩]
theorem idxP_miss {p : Con → Bool} {L : List Con} (hne : ∀ j (hj : j < L.length), p L[j] = false) : idxP p L = -1 := by
  rw [idxP_find, List.findIdx?_eq_none_iff.2 (fun x hx => by
    obtain ⟨j, hj, rfl⟩ := List.getElem_of_mem hx
    exact hne j hj)]
theorem idxP_lt (p : Con → Bool) (L : List Con) : -1 ≤ idxP p L ∧ idxP p L < (L.length : Int) + 0 ∨ idxP p L = -1 := by
  rw [idxP_find]
  cases h : L.findIdx? p with
  | none => exact .inr rfl
  | some k =>
    have := (List.findIdx?_eq_some_iff_getElem.1 h).1
    left
    simp only
    omega
theorem idxP_findC (t : IDv) (L : List Con) : idxP (isC t) L = match findC (ctsC L) t.val with | some k => (k : Int) | none => -1 := by
  rw [idxP_find]
  have : findC (ctsC L) t.val = L.findIdx? (isC t) := by
    unfold findC ctsC
    rw [List.findIdx?_map]
    rfl
  rw [this]
theorem rcgood_any (c : Con) (w : World) : Calls Try.prog 33 #[.agg (encC c).toArray] w fun e w' => e = .returned (.bool (ctGood c.1)) ∧ Below w.heap.size w w' := by
  have hb : Below w.heap.size w (w.alloc (.cells (encC c).toArray 73)) := (Below.refl _ w).alloc (Nat.le_refl _) _
  have HK := Lib.hid (load71 (range_adr (row_range (heap_alloc_new w (.cells (encC c).toArray 73)))))
  have HG : Hid (∀ W, Below w.heap.size w W → Calls Try.prog 63 #[.agg (adr c.1.2.1 c.1.2.2)] W fun e w' => e = .returned (.bool (ctGood c.1)) ∧ Below w.heap.size w w') := Lib.hid (fun W hW => (rgood_any c.1.2.1 c.1.2.2 W).mono (by rintro e w' ⟨rfl, h⟩; exact ⟨rfl, hW.trans (h.mono hW.size)⟩))
  have HB := Lib.hid hb
  rw [Nat.zero_add] at HK
  generalize adr c.1.2.1 c.1.2.2 = AD at HK HG
  generalize (encC c).toArray = X at HK HB ⊢
  generalize ctGood c.1 = gd at HG ⊢
  clear hb
  go_enter Try.func33, Try.ntmps33
  go_wp2_with (first
    | ((with_reducible refine wpList_loadV (op := ⟨some 4, _, _, _, _, _⟩) rfl 71 (.tmp 3) rfl _ ?_ _ HK.out ?_); rfl)
    | (go_at_call 63; (with_reducible refine (HG.out _ HB.out).mono ?_); rintro e w1 ⟨rfl, hb1⟩))
  go_ret
  exact ⟨rfl, hb1⟩
def FdRel (W0 : World) (L : List Con) (t : IDv) (i : Value) (wr : World) : Prop := ∃ j : Nat, j ≤ L.length ∧ i = .int .i64 (j : Int) ∧ (∀ q (hq : q < L.length), q < j → isC t L[q] = false) ∧ Below W0.heap.size W0 wr
theorem rfind_any (A : Option Addr) (c : Nat) (L : List Con) (t : IDv) (w : World) (hL : L.length ≤ 10000) (hA : CAt w w.heap.size A L) :
    Calls Try.prog 41 #[.slice A L.length c, .agg (encID t).toArray] w fun e w' => e = .returned (.int .i64 (idxP (isC t) L)) ∧ Below w.heap.size w w' := by
  obtain ⟨X, hX⟩ : ∃ X, X = (encID t).toArray := ⟨_, rfl⟩
  have hb0 : Below w.heap.size w (w.alloc (.cells X 64)) := (Below.refl _ w).alloc (Nat.le_refl _) _
  obtain ⟨W0, hW0⟩ : ∃ W0, W0 = w.alloc (.cells X 64) := ⟨_, rfl⟩
  have h0 := heap_alloc_new w (.cells X 64)
  rw [← hW0] at hb0 h0
  have HA := Lib.hid ((hA.below hb0).more hb0.size)
  have HB0 := Lib.hid hb0
  have HW := Lib.hid hW0
  have HH : Hid (W0.heap[w.heap.size]? = some (.cells (encID t).toArray 64 (0, 0))) := Lib.hid (by rw [← hX]; exact h0)
  have HX := Lib.hid hX
  have R0 : Hid (FdRel W0 L t (.int .i64 0) W0) := Lib.hid ⟨0, by omega, rfl, fun q hq h => by omega, Below.refl _ _⟩
  rw [← hX]
  obtain ⟨n, hn⟩ : ∃ n, n = L.length := ⟨_, rfl⟩
  rw [← hn] at hL ⊢
  have HN := Lib.hid hn
  obtain ⟨D, hD⟩ : ∃ D, D = idxP (isC t) L := ⟨_, rfl⟩
  rw [← hD]
  have HD := Lib.hid hD
  clear hA hX hb0 h0 hW0 hn hD
  go_enter Try.func41, Try.ntmps41
  go_upto_region 2 with fail
  rw [← HW.out]
  go_loopw [5] (FdRel W0 L t) (fun i _ => n - (RowKit.intOf i).toNat)
  case atStart => exact R0.out
  case round =>
    obtain ⟨j, hj, rfl, hq, hb⟩ := hrel
    clear R0
    have HQ := Lib.hid hq
    have HB := Lib.hid hb
    by_cases hlt : j < n
    · have hjL : j < L.length := by have := HN.out; omega
      obtain ⟨g, off, rfl, hg, hr⟩ := (HA.out.below hb).some_ (by omega)
      obtain ⟨x, hx⟩ : ∃ x, L[j]'hjL = x := ⟨_, rfl⟩
      have hre := range_elem hr j hjL
      rw [hx] at hre
      have HLY := Lib.hid (kept_range (Nat.lt_of_lt_of_le hg hb.size) (range_idC hre))
      have hgx : w.heap.size < W0.heap.size := (Array.getElem?_eq_some_iff.1 HH.out).1
      have hLX := kept_range (Nat.lt_of_lt_of_le hgx hb.size) (range_keep (row_range HH.out) (hb.block _ hgx))
      rw [← HX.out] at hLX
      have HLX := Lib.hid hLX
      have hE := fun W => eq64 (idC x).val t.val (idC x).property t.property W
      change ∀ W, (Op.equalIn 10000 64 (.agg (encID (idC x)).toArray) (.agg (encID t).toArray)).run Try.prog W = .ok (isC t x) W at hE
      rw [← HX.out] at hE
      have HJ := Lib.hid hjL
      have HIX : Hid (L[j]'hjL = x) := Lib.hid hx
      clear hr hg hgx hLX hb hq hx hre
      generalize (encID (idC x)).toArray = y at hE HLY
      by_cases hxy : isC t x = true
      · rw [hxy] at hE
        have HP : Hid (D = (j : Int)) := Lib.hid (by rw [HD.out]; exact idxP_hit HJ.out (by rw [HIX.out]; exact hxy) HQ.out)
        clear hxy
        go_upto_region 4 with fail
        refine wp_region_kept wr.heap.size wr (Below.refl _ _) (by kernel_rfl) (by kernel_rfl) ?_
        repeat (first
          | (go_big_quiet_want; (with_reducible refine quiet_loadV 64 (.tmp 3) rfl _ ?_ _ HLX.out ?_); rfl; simp only [Act.put, List.setIfInBounds_toArray, List.set_cons_zero, List.set_cons_succ]; go_big_quiet_on)
          | (go_big_quiet_want; (with_reducible refine quiet_loadV 64 (.tmp 15) rfl _ ?_ _ HLY.out ?_); rfl; simp only [Act.put, List.setIfInBounds_toArray, List.set_cons_zero, List.set_cons_succ]; go_big_quiet_on)
          | go_big_quiet_step (fail))
        refine wpQuiet_nil ?_
        rintro wk ⟨⟨_, hwk⟩, rfl⟩
        have HF := Lib.hid (HB0.out.trans ((HB.out.trans (hwk.mono HB.out.size)).mono HB0.out.size))
        clear hwk HLX HLY
        go_wp2
        go_ret
        exact ⟨by rw [HP.out] <;> rfl, HF.out⟩
      · have hxy' : isC t x = false := by cases h : isC t x with | true => exact absurd h hxy | false => rfl
        rw [hxy'] at hE
        have HXY := Lib.hid hxy'
        clear hxy hxy'
        go_upto_region 4 with fail
        refine wp_region_kept wr.heap.size wr (Below.refl _ _) (by kernel_rfl) (by kernel_rfl) ?_
        repeat (first
          | (go_big_quiet_want; (with_reducible refine quiet_loadV 64 (.tmp 3) rfl _ ?_ _ HLX.out ?_); rfl; simp only [Act.put, List.setIfInBounds_toArray, List.set_cons_zero, List.set_cons_succ]; go_big_quiet_on)
          | (go_big_quiet_want; (with_reducible refine quiet_loadV 64 (.tmp 15) rfl _ ?_ _ HLY.out ?_); rfl; simp only [Act.put, List.setIfInBounds_toArray, List.set_cons_zero, List.set_cons_succ]; go_big_quiet_on)
          | go_big_quiet_step (fail))
        refine wpQuiet_nil ?_
        rintro wk ⟨⟨_, hwk⟩, rfl⟩
        have HREL : Hid (FdRel W0 L t (.int .i64 ((j : Int) + 1)) wk) := Lib.hid ⟨j + 1, by have := HN.out; omega, by go_num, fun q hq h => by
          by_cases e : q = j
          · subst e
            exact (congrArg (isC t) HIX.out).trans HXY.out
          · exact HQ.out q hq (by omega), HB.out.trans (hwk.mono HB.out.size)⟩
        clear hwk HLX HLY HQ HB
        go_wp2
        go_roundw
        case rel => exact HREL.out
        case measure => simp [RowKit.intOf]; omega
    · have HP : Hid (D = -1) := Lib.hid (by
        rw [HD.out]
        exact idxP_miss (fun q hq => HQ.out q hq (by have := HN.out; omega)))
      have HF := Lib.hid (HB0.out.trans (HB.out.mono HB0.out.size))
      clear hb hq HB HQ
      go_wp2
      go_ret
      exact ⟨by rw [HP.out] <;> rfl, HF.out⟩
end Go.Proofs.Ytbfhfnbhfeedbaa
end
section
namespace Go.Proofs.Ytbfhfnbhfeedbaa
open Go.Shelf Go.RowKit Go.Lib Go.Sort Go.Great
set_option maxRecDepth 100000
set_option maxHeartbeats 1000000
theorem idxP_own (L : List Con) (q : Nat) (hq : q < L.length) : idxP (isC (idC L[q])) L = (q : Int) ↔ findC (ctsC L) (L[q].1.1) = some q := by
  rw [idxP_findC]
  show (match findC (ctsC L) (L[q].1.1) with | some k => (k : Int) | none => -1) = (q : Int) ↔ _
  cases h : findC (ctsC L) (L[q].1.1) with
  | none =>
    simp only [reduceCtorEq, iff_false] <;> omega
  | some k =>
    simp only [Option.some.injEq]
    omega
theorem goodC_yes {L : List Con} (h : ∀ q (hq : q < L.length), ctGood L[q].1 = true ∧ idxP (isC (idC L[q])) L = (q : Int)) : goodC (ctsC L) = decide (L.length ≤ 64) := by
  have h1 : (ctsC L).all ctGood = true := by
    unfold ctsC
    rw [List.all_map, List.all_eq_true]
    intro x hx
    obtain ⟨j, hj, rfl⟩ := List.getElem_of_mem hx
    exact (h j hj).1
  have h2 : ((ctsC L).map (·.1)).Nodup := by
    rw [← find_nodup]
    intro i hi
    have hi' : i < L.length := by simpa [ctsC] using hi
    have := (idxP_own L i hi').1 (h i hi').2
    simpa [ctsC] using this
  unfold goodC
  rw [h1, decide_eq_true h2, Bool.true_and, Bool.true_and]
  simp [ctsC]
theorem goodC_no {L : List Con} (q : Nat) (hq : q < L.length) (h : ¬ (ctGood L[q].1 = true ∧ idxP (isC (idC L[q])) L = (q : Int))) : goodC (ctsC L) = false := by
  cases hg : goodC (ctsC L) with
  | false => rfl
  | true =>
    refine absurd ⟨goodC_all hg _ (List.mem_map.2 ⟨L[q], List.getElem_mem hq, rfl⟩), (idxP_own L q hq).2 ?_⟩ h
    have hn : ((ctsC L).map (·.1)).Nodup := by
      unfold goodC at hg
      simp only [Bool.and_eq_true, decide_eq_true_eq] at hg
      exact hg.1.2
    have := (find_nodup (ctsC L)).2 hn q (by simpa [ctsC] using hq)
    simpa [ctsC] using this
def GlRel (W0 : World) (L : List Con) (i : Value) (wr : World) : Prop := ∃ j : Nat, j ≤ L.length ∧ i = .int .i64 (j : Int) ∧ (∀ q (hq : q < L.length), q < j → ctGood L[q].1 = true ∧ idxP (isC (idC L[q])) L = (q : Int)) ∧ Below W0.heap.size W0 wr
theorem rgoodlist_any (A : Option Addr) (c : Nat) (L : List Con) (w : World) (hL : L.length ≤ 10000) (hA : CAt w w.heap.size A L) :
    Calls Try.prog 54 #[.slice A L.length c] w fun e w' => e = .returned (.bool (goodC (ctsC L))) ∧ Below w.heap.size w w' := by
  have HA := Lib.hid hA
  have R0 : Hid (GlRel w L (.int .i64 0) w) := Lib.hid ⟨0, by omega, rfl, fun q hq h => by omega, Below.refl _ _⟩
  obtain ⟨n, hn⟩ : ∃ n, n = L.length := ⟨_, rfl⟩
  rw [← hn] at hL ⊢
  have HN := Lib.hid hn
  obtain ⟨D, hD⟩ : ∃ D, D = goodC (ctsC L) := ⟨_, rfl⟩
  rw [← hD]
  have HD := Lib.hid hD
  clear hA hn hD
  go_enter Try.func54, Try.ntmps54
  go_upto_region 2 with fail
  go_loopw [3] (GlRel w L) (fun i _ => n - (RowKit.intOf i).toNat)
  case atStart => exact R0.out
  case round =>
    obtain ⟨j, hj, rfl, hq, hb⟩ := hrel
    clear R0
    have HQ := Lib.hid hq
    have HB := Lib.hid hb
    by_cases hlt : j < n
    · have hjL : j < L.length := by have := HN.out; omega
      obtain ⟨x, hx⟩ : ∃ x, L[j]'hjL = x := ⟨_, rfl⟩
      have hF : ∀ W, Below wr.heap.size wr W → Calls Try.prog 41 #[.slice A n c, .agg (encID (idC x)).toArray] W fun e w' => e = .returned (.int .i64 (idxP (isC (idC x)) L)) ∧ Below w.heap.size w w' := fun W hW => by
        have h1 := hb.trans (hW.mono hb.size)
        have := rfind_any A c L (idC x) W (by rw [← HN.out]; exact hL) ((HA.out.below h1).more h1.size)
        rw [← HN.out] at this
        refine this.mono ?_
        rintro e w' ⟨rfl, k⟩
        exact ⟨rfl, h1.trans (k.mono h1.size)⟩
      have HF := Lib.hid hF
      obtain ⟨g, off, rfl, hg, hr⟩ := (HA.out.below hb).some_ (by omega)
      have hgr : g < wr.heap.size := Nat.lt_of_lt_of_le hg hb.size
      have hre := range_elem hr j hjL
      rw [hx] at hre
      have HLY := Lib.hid (load73 hre)
      have HLI : Hid (∀ W, Below wr.heap.size wr W → (loadVar 64 ⟨g, off + j * 22, none⟩).run Try.prog W = .ok (.agg (encID (idC x)).toArray) W) := Lib.hid (fun W hW => range_load42 (range_keep (range_idC hre) (hW.block g hgr)))
      have HG := Lib.hid (rcgood_any x wr)
      have HJ := Lib.hid hjL
      have HIX : Hid (L[j]'hjL = x) := Lib.hid hx
      have HNO : Hid (¬ (ctGood x.1 = true ∧ idxP (isC (idC x)) L = (j : Int)) → goodC (ctsC L) = false) := Lib.hid (fun h => goodC_no j hjL (fun k => h ⟨(congrArg (fun z : Con => ctGood z.1) hx).symm.trans k.1, (congrArg (fun z : Con => idxP (isC (idC z)) L) hx).symm.trans k.2⟩))
      by_cases hgd : ctGood x.1 = true
      · rw [hgd] at HG
        by_cases hix : idxP (isC (idC x)) L = (j : Int)
        · rw [hix] at HF
          have HS : Hid (∀ wk, Below w.heap.size w wk → GlRel w L (.int .i64 ((j : Int) + 1)) wk) := Lib.hid (fun wk hk => ⟨j + 1, by have := HN.out; omega, by go_num, fun q hq h => by
            by_cases e : q = j
            · subst e; exact ⟨(congrArg (fun z : Con => ctGood z.1) HIX.out).trans hgd, (congrArg (fun z : Con => idxP (isC (idC z)) L) HIX.out).trans hix⟩
            · exact HQ.out q hq (by omega), hk⟩)
          clear hr hg hgr hb hq hgd hix hF hx hre HNO
          generalize (encC x).toArray = X at HLY HG
          generalize (encID (idC x)).toArray = Y at HLI HF
          go_wp2_with (first
            | ((with_reducible refine wpList_loadV (op := ⟨some 13, _, _, _, _, _⟩) rfl 73 (.tmp 12) rfl _ ?_ _ HLY.out ?_); rfl)
            | (go_at_call 33; (with_reducible refine HG.out.mono ?_); rintro e1 w1 ⟨rfl, hb1⟩)
            | ((with_reducible refine wpList_loadG (op := ⟨some 22, _, _, _, _, _⟩) ?_ 64 (.tmp 21) rfl _ ?_ _ (HLI.out _ hb1) ?_); rfl; rfl)
            | (go_at_call 41; (with_reducible refine (HF.out _ hb1).mono ?_); rintro e2 w2 ⟨rfl, hb2⟩))
          go_roundw
          case rel => exact HS.out _ hb2
          case measure => simp [RowKit.intOf]; omega
        · have HP : Hid (D = false) := Lib.hid (by rw [HD.out]; exact HNO.out (fun h => hix h.2))
          obtain ⟨ix, hix2⟩ : ∃ ix, ix = idxP (isC (idC x)) L := ⟨_, rfl⟩
          rw [← hix2] at HF hix
          clear hr hg hgr hb hq hgd hF hix2 hx hre HNO
          have hne : (ix == (j : Int)) = false := by simpa using hix
          generalize (encC x).toArray = X at HLY HG
          generalize (encID (idC x)).toArray = Y at HLI HF
          go_wp2_with (first
            | ((with_reducible refine wpList_loadV (op := ⟨some 13, _, _, _, _, _⟩) rfl 73 (.tmp 12) rfl _ ?_ _ HLY.out ?_); rfl)
            | (go_at_call 33; (with_reducible refine HG.out.mono ?_); rintro e1 w1 ⟨rfl, hb1⟩)
            | ((with_reducible refine wpList_loadG (op := ⟨some 22, _, _, _, _, _⟩) ?_ 64 (.tmp 21) rfl _ ?_ _ (HLI.out _ hb1) ?_); rfl; rfl)
            | (go_at_call 41; (with_reducible refine (HF.out _ hb1).mono ?_); rintro e2 w2 ⟨rfl, hb2⟩))
          go_ret
          exact ⟨by rw [HP.out] <;> rfl, hb2⟩
      · have hgd' : ctGood x.1 = false := by cases h : ctGood x.1 with | true => exact absurd h hgd | false => rfl
        rw [hgd'] at HG
        have HP : Hid (D = false) := Lib.hid (by rw [HD.out]; exact HNO.out (fun h => hgd h.1))
        clear hr hg hgr hb hq hgd hgd' HF hF HLI hx hre HNO
        generalize (encC x).toArray = X at HLY HG
        go_wp2_with (first
          | ((with_reducible refine wpList_loadV (op := ⟨some 13, _, _, _, _, _⟩) rfl 73 (.tmp 12) rfl _ ?_ _ HLY.out ?_); rfl)
          | (go_at_call 33; (with_reducible refine HG.out.mono ?_); rintro e1 w1 ⟨rfl, hb1⟩))
        go_ret
        exact ⟨by rw [HP.out] <;> rfl, HB.out.trans (hb1.mono HB.out.size)⟩
    · have HP : Hid (D = decide (n ≤ 64)) := Lib.hid (by
        rw [HD.out, HN.out]
        exact goodC_yes (fun q hq => HQ.out q hq (by have := HN.out; omega)))
      clear hb hq HQ
      by_cases h64 : n ≤ 64
      · rw [decide_eq_true h64] at HP
        have h64' : (n : Int) ≤ 64 := by omega
        go_wp2
        go_ret
        exact ⟨by rw [HP.out] <;> rfl, HB.out⟩
      · rw [decide_eq_false h64] at HP
        have h64' : ¬ (n : Int) ≤ 64 := by omega
        go_wp2
        go_ret
        exact ⟨by rw [HP.out] <;> rfl, HB.out⟩
end Go.Proofs.Ytbfhfnbhfeedbaa
end
