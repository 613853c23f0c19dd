/- Contacts of the reference: equality, loads; its Good and Find. Conditions: at most 10,000 contacts. slices.Equal at contacts. Conditions: at most 10,000 contacts. -/
import Derived.Test.YtehgpnnfjgmiiaaGreatVOja
import Derived.Test.YtehgpnnfjgmiiaaGreatVObd
import Derived.Test.YtehgpnnfjgmiiaaGreatVIiv
import Derived.Test.YtehgpnnfjgmiiaaGreatVObc
import Derived.Test.YtehgpnnfjgmiiaaGreatVROcc
import Derived.Test.YtehgpnnfjgmiiaaGreatVRERefb
import Derived.Test.YtehgpnnfjgmiiaaGreatVRKCdk
import Derived.Test.YtehgpnnfjgmiiaaGreatVRIip
import Derived.Test.YtehgpnnfjgmiiaaGreatVREOctc
import Derived.Test.YtehgpnnfjgmiiaaGreatVNCdg
import Derived.Test.YtehgpnnfjgmiiaaGreatVWaa
section
namespace Go.Proofs.YtehgpnnfjgmiiaaGreat
open Go.Shelf Go.RowKit Go.Lib Go.Sort Go.Great
set_option maxRecDepth 100000
set_option maxHeartbeats 1000000
theorem size73 : (Tryz.prog.info? 90).map (·.size) = some 22 := by kernel_rfl
theorem load73 {w : World} {g o : Nat} {c : Con} (hr : w.rangeAt g o (encC c)) : (loadVar 90 ⟨g, o, none⟩).run Tryz.prog w = .ok (.agg (encC c).toArray) w :=
  run_loadVar_mid w g o 90 (encC c) _ hr Tryz.underlying90 rfl (by rw [encC_length]; kernel_rfl)
theorem zV73 (W : World) : (zeroValue 90).run Tryz.prog W = .ok (.agg (encC default).toArray) W := by kernel_rfl
theorem load71 {w : World} {g o h p : Nat} (hr : w.rangeAt g o [.int .u32 (h : Int), .int .u16 (p : Int)]) : (loadVar 88 ⟨g, o, none⟩).run Tryz.prog w = .ok (.agg (adr h p)) w :=
  run_loadVar_mid w g o 88 [.int .u32 (h : Int), .int .u16 (p : Int)] _ hr Tryz.underlying88 rfl (by kernel_rfl)
theorem range_adr {w : World} {g o : Nat} {c : Con} (h : w.rangeAt g o (encC c)) : w.rangeAt g (o + 20) [.int .u32 (c.1.2.1 : Int), .int .u16 (c.1.2.2 : Int)] := by
  rw [encC_id] at h
  have h2 := range_back h
  rwa [show (encID (idC c)).length = 20 by unfold encID; rw [bcells_length]; exact (idC c).property] at h2
theorem range_idC {w : World} {g o : Nat} {c : Con} (h : w.rangeAt g o (encC c)) : w.rangeAt g o (encID (idC c)) := by
  rw [encC_id] at h
  exact range_front h
theorem eq64 (xs ys : List UInt8) (hx : xs.length = 20) (hy : ys.length = 20) (W : World) : (Op.equalIn 10000 87 (.agg (bcells xs).toArray) (.agg (bcells ys).toArray)).run Tryz.prog W = .ok (xs == ys) W :=
  run_equalIn_bytes W 9998 87 5 20 Tryz.underlying87 Tryz.underlying5 (fun w => by
    obtain ⟨i0, hi, hz0, hz1, hz2⟩ := info_parts info5
    simp [sizeOf, typeInfo, hi, hz1]) xs ys hx hy
/-- Two contacts are the same. -/
def eqC (x y : Con) : Bool := x.1.1 == y.1.1 && (x.1.2.1 == y.1.2.1 && x.1.2.2 == y.1.2.2)
theorem beq_int (a b : Nat) : ((a : Int) == (b : Int)) = (a == b) := by
  rw [Bool.eq_iff_iff]
  simp only [beq_iff_eq]
  omega
theorem encC_ext1 (z : Con) : (encC z).toArray.extract 0 20 = (encID (idC z)).toArray := by
  have hl : (encID (idC z)).length = 20 := by unfold encID; rw [bcells_length]; exact (idC z).property
  rw [encC_id, List.extract_toArray, List.extract_eq_take_drop, List.drop_zero, List.take_append_of_le_length (by omega), List.take_of_length_le (by omega)]
theorem encC_ext2 (z : Con) : (encC z).toArray.extract 20 22 = adr z.1.2.1 z.1.2.2 := by
  have hl : (encID (idC z)).length = 20 := by unfold encID; rw [bcells_length]; exact (idC z).property
  rw [encC_id, List.extract_toArray, List.extract_eq_take_drop, List.drop_append_of_le_length (by omega), List.drop_of_length_le (by omega)]
  rfl
theorem eqAdr58 (h p h' p' : Nat) (W : World) : (Op.equalIn 9999 61 (.agg (adr h p)) (.agg (adr h' p'))).run Tryz.prog W = .ok (h == h' && p == p') W := by
  rw [run_equalIn_struct W 9998 61 _ _ (by kernel_rfl) (by kernel_rfl)]
  rw [show (Tryz.prog.fieldsOf 61).toList = [⟨"Host", 22, 0, false, "", "", 0⟩, ⟨"Port", 59, 1, false, "", "", 4⟩] from by kernel_rfl]
  have e1 := fun a b W => run_equalIn_int (P := Tryz.prog) W 9997 22 .u32 .u32 a b (by kernel_rfl)
  have e2 := fun a b W => run_equalIn_int (P := Tryz.prog) W 9997 59 .u16 .u16 a b (by kernel_rfl)
  have q1 : ∀ (h p : Nat) W, (part 22 (adr h p) 0).run Tryz.prog W = .ok (.int .u32 (h : Int)) W := fun h p W => by kernel_rfl
  have q2 : ∀ (h p : Nat) W, (part 59 (adr h p) 1).run Tryz.prog W = .ok (.int .u16 (p : Int)) W := fun h p W => by kernel_rfl
  simp only [Op.eqFields, Sem.run_bind, Sem.run_ite, q1, q2, e1, e2, Result.andThen_ok, beq_int]
  cases h == h' <;> cases p == p' <;> simp [Op.eqFields]
theorem eqCon60 (x y : Con) (W : World) : (Op.equalIn 10000 63 (.agg (encC x).toArray) (.agg (encC y).toArray)).run Tryz.prog W = .ok (eqC x y) W := by
  rw [run_equalIn_struct W 9999 63 _ _ (by kernel_rfl) (by kernel_rfl)]
  rw [show (Tryz.prog.fieldsOf 63).toList = [⟨"ID", 24, 0, false, "", "", 0⟩, ⟨"Addr", 61, 20, false, "", "", 20⟩] from by kernel_rfl]
  have i1 : ∀ W, (isAgg 24).run Tryz.prog W = .ok true W := fun W => by kernel_rfl
  have i2 : ∀ W, (isAgg 61).run Tryz.prog W = .ok true W := fun W => by kernel_rfl
  have s1 : ∀ W, (Go.sizeOf 24).run Tryz.prog W = .ok 20 W := fun W => by kernel_rfl
  have s2 : ∀ W, (Go.sizeOf 61).run Tryz.prog W = .ok 2 W := fun W => by kernel_rfl
  have q1 : ∀ (z : Con) W, (part 24 (encC z).toArray 0).run Tryz.prog W = .ok (.agg (encID (idC z)).toArray) W := fun z W => by
    unfold part
    simp only [Sem.run_bind, i1, s1, Result.andThen_ok, if_true, Sem.run_pure]
    rw [Nat.zero_add, encC_ext1]
  have q2 : ∀ (z : Con) W, (part 61 (encC z).toArray 20).run Tryz.prog W = .ok (.agg (adr z.1.2.1 z.1.2.2)) W := fun z W => by
    unfold part
    simp only [Sem.run_bind, i2, s2, Result.andThen_ok, if_true, Sem.run_pure]
    rw [show 20 + 2 = 22 from rfl, encC_ext2]
  have e1 : ∀ W, (Op.equalIn 9999 24 (.agg (encID (idC x)).toArray) (.agg (encID (idC y)).toArray)).run Tryz.prog W = .ok (x.1.1 == y.1.1) W := fun W =>
    run_equalIn_bytes W 9997 24 5 20 Tryz.underlying24 Tryz.underlying5 (fun w => by
      obtain ⟨i0, hi, hz0, hz1, hz2⟩ := info_parts info5
      simp [sizeOf, typeInfo, hi, hz1]) x.1.1 y.1.1 x.2.id y.2.id
  have e2 := fun W => eqAdr58 x.1.2.1 x.1.2.2 y.1.2.1 y.1.2.2 W
  simp only [Op.eqFields, Sem.run_bind, Sem.run_ite, q1, q2, e1, e2, Result.andThen_ok]
  unfold eqC
  cases x.1.1 == y.1.1 <;> cases (x.1.2.1 == y.1.2.1 && x.1.2.2 == y.1.2.2) <;> simp [Op.eqFields]
theorem idxF_find (p : Con → Bool) (d : Con) : ∀ (L : List Con) (i : Nat), Lib.idxByFrom (fun _ y => p y) d L i = match L.findIdx? p with | some k => ((i + k : Nat) : Int) | none => -1
  | [], i => rfl
  | y :: L, i => by
    rw [Lib.idxByFrom, List.findIdx?_cons]
    by_cases h : p y = true
    · simp [h]
    · rw [if_neg (by simpa using h), if_neg (by simpa using h), idxF_find p d L (i + 1)]
      cases L.findIdx? p with
      | none => rfl
      | some k => show ((i + 1 + k : Nat) : Int) = ((i + (k + 1) : Nat) : Int); omega
theorem idxP_find (p : Con → Bool) (L : List Con) : idxP p L = match L.findIdx? p with | some k => (k : Int) | none => -1 := by
  unfold idxP Lib.idxBy
  rw [idxF_find]
  cases L.findIdx? p with
  | none => rfl
  | some k => simp
theorem idxP_hit {p : Con → Bool} {L : List Con} {k : Nat} (hk : k < L.length) (h : p L[k] = true) (hne : ∀ j (hj : j < L.length), j < k → p L[j] = false) : idxP p L = (k : Int) := by
  rw [idxP_find, List.findIdx?_eq_some_iff_getElem.2 ⟨hk, h, fun j hj => by rw [hne j (by omega) hj]; simp⟩]
theorem idxP_miss {p : Con → Bool} {L : List Con} (hne : ∀ j (hj : j < L.length), p L[j] = false) : idxP p L = -1 := by
  rw [idxP_find, List.findIdx?_eq_none_iff.2 (fun x hx => by
    obtain ⟨j, hj, rfl⟩ := List.getElem_of_mem hx
    exact hne j hj)]
theorem idxP_findC (t : IDv) (L : List Con) : idxP (isC t) L = match findC (ctsC L) t.val with | some k => (k : Int) | none => -1 := by
  rw [idxP_find]
  have : findC (ctsC L) t.val = L.findIdx? (isC t) := by
    unfold findC ctsC
    rw [List.findIdx?_map]
    rfl
  rw [this]
theorem rcgood_any (c : Con) (w : World) : Calls Tryz.prog 59 #[.agg (encC c).toArray] w fun e w' => e = .returned (.bool (ctGood c.1)) ∧ Below w.heap.size w w' := by
  have hb : Below w.heap.size w (w.alloc (.cells (encC c).toArray 90)) := (Below.refl _ w).alloc (Nat.le_refl _) _
  have HK := Lib.hid (load71 (range_adr (row_range (heap_alloc_new w (.cells (encC c).toArray 90)))))
  have HG : Hid (∀ W, Below w.heap.size w W → Calls Tryz.prog 86 #[.agg (adr c.1.2.1 c.1.2.2)] W fun e w' => e = .returned (.bool (ctGood c.1)) ∧ Below w.heap.size w w') := Lib.hid (fun W hW => (rgood_anyN c.1.2.1 c.1.2.2 W).mono (by rintro e w' ⟨rfl, h⟩; exact ⟨rfl, hW.trans (h.mono hW.size)⟩))
  have HB := Lib.hid hb
  rw [Nat.zero_add] at HK
  generalize adr c.1.2.1 c.1.2.2 = AD at HK HG
  generalize (encC c).toArray = X at HK HB ⊢
  generalize ctGood c.1 = gd at HG ⊢
  clear hb
  go_enter Tryz.func59, Tryz.ntmps59
  go_wp2_with (first
    | ((with_reducible refine wpList_loadV (op := ⟨some 4, _, _, _, _, _⟩) rfl 88 (.tmp 3) rfl _ ?_ _ HK.out ?_); rfl)
    | (go_at_call 86; (with_reducible refine (HG.out _ HB.out).mono ?_); rintro e w1 ⟨rfl, hb1⟩))
  go_ret
  exact ⟨rfl, hb1⟩
def FdRel (W0 : World) (L : List Con) (t : IDv) (i : Value) (wr : World) : Prop := ∃ j : Nat, j ≤ L.length ∧ i = .int .i64 (j : Int) ∧ (∀ q (hq : q < L.length), q < j → isC t L[q] = false) ∧ Below W0.heap.size W0 wr
theorem rfind_any (A : Option Addr) (c : Nat) (L : List Con) (t : IDv) (w : World) (hL : L.length ≤ 10000) (hA : CAt w w.heap.size A L) :
    Calls Tryz.prog 60 #[.slice A L.length c, .agg (encID t).toArray] w fun e w' => e = .returned (.int .i64 (idxP (isC t) L)) ∧ Below w.heap.size w w' := by
  obtain ⟨X, hX⟩ : ∃ X, X = (encID t).toArray := ⟨_, rfl⟩
  have hb0 : Below w.heap.size w (w.alloc (.cells X 87)) := (Below.refl _ w).alloc (Nat.le_refl _) _
  obtain ⟨W0, hW0⟩ : ∃ W0, W0 = w.alloc (.cells X 87) := ⟨_, rfl⟩
  have h0 := heap_alloc_new w (.cells X 87)
  rw [← hW0] at hb0 h0
  have HA := Lib.hid ((hA.below hb0).more hb0.size)
  have HB0 := Lib.hid hb0
  have HW := Lib.hid hW0
  have HH : Hid (W0.heap[w.heap.size]? = some (.cells (encID t).toArray 87 (0, 0))) := Lib.hid (by rw [← hX]; exact h0)
  have HX := Lib.hid hX
  have R0 : Hid (FdRel W0 L t (.int .i64 0) W0) := Lib.hid ⟨0, by omega, rfl, fun q hq h => by omega, Below.refl _ _⟩
  rw [← hX]
  obtain ⟨n, hn⟩ : ∃ n, n = L.length := ⟨_, rfl⟩
  rw [← hn] at hL ⊢
  have HN := Lib.hid hn
  obtain ⟨D, hD⟩ : ∃ D, D = idxP (isC t) L := ⟨_, rfl⟩
  rw [← hD]
  have HD := Lib.hid hD
  clear hA hX hb0 h0 hW0 hn hD
  go_enter Tryz.func60, Tryz.ntmps60
  go_upto_region 2 with fail
  rw [← HW.out]
  go_loopw [5] (FdRel W0 L t) (fun i _ => n - (RowKit.intOf i).toNat)
  case atStart => exact R0.out
  case round =>
    obtain ⟨j, hj, rfl, hq, hb⟩ := hrel
    clear R0
    have HQ := Lib.hid hq
    have HB := Lib.hid hb
    by_cases hlt : j < n
    · have hjL : j < L.length := by have := HN.out; omega
      obtain ⟨g, off, rfl, hg, hr⟩ := (HA.out.below hb).some_ (by omega)
      obtain ⟨x, hx⟩ : ∃ x, L[j]'hjL = x := ⟨_, rfl⟩
      have hre := range_elem hr j hjL
      rw [hx] at hre
      have HLY := Lib.hid (kept_range (Nat.lt_of_lt_of_le hg hb.size) (range_idC hre))
      have hgx : w.heap.size < W0.heap.size := (Array.getElem?_eq_some_iff.1 HH.out).1
      have hLX := kept_range (Nat.lt_of_lt_of_le hgx hb.size) (range_keep (row_range HH.out) (hb.block _ hgx))
      rw [← HX.out] at hLX
      have HLX := Lib.hid hLX
      have hE := fun W => eq64 (idC x).val t.val (idC x).property t.property W
      change ∀ W, (Op.equalIn 10000 87 (.agg (encID (idC x)).toArray) (.agg (encID t).toArray)).run Tryz.prog W = .ok (isC t x) W at hE
      rw [← HX.out] at hE
      have HJ := Lib.hid hjL
      have HIX : Hid (L[j]'hjL = x) := Lib.hid hx
      clear hr hg hgx hLX hb hq hx hre
      generalize (encID (idC x)).toArray = y at hE HLY
      by_cases hxy : isC t x = true
      · rw [hxy] at hE
        have HP : Hid (D = (j : Int)) := Lib.hid (by rw [HD.out]; exact idxP_hit HJ.out (by rw [HIX.out]; exact hxy) HQ.out)
        clear hxy
        go_upto_region 4 with fail
        refine wp_region_kept wr.heap.size wr (Below.refl _ _) (by kernel_rfl) (by kernel_rfl) ?_
        repeat (first
          | (go_big_quiet_want; (with_reducible refine quiet_loadV 87 (.tmp 3) rfl _ ?_ _ HLX.out ?_); rfl; simp only [Act.put, List.setIfInBounds_toArray, List.set_cons_zero, List.set_cons_succ]; go_big_quiet_on)
          | (go_big_quiet_want; (with_reducible refine quiet_loadV 87 (.tmp 15) rfl _ ?_ _ HLY.out ?_); rfl; simp only [Act.put, List.setIfInBounds_toArray, List.set_cons_zero, List.set_cons_succ]; go_big_quiet_on)
          | go_big_quiet_step (fail))
        refine wpQuiet_nil ?_
        rintro wk ⟨⟨_, hwk⟩, rfl⟩
        have HF := Lib.hid (HB0.out.trans ((HB.out.trans (hwk.mono HB.out.size)).mono HB0.out.size))
        clear hwk HLX HLY
        go_wp2
        go_ret
        exact ⟨by rw [HP.out] <;> rfl, HF.out⟩
      · have hxy' : isC t x = false := by cases h : isC t x with | true => exact absurd h hxy | false => rfl
        rw [hxy'] at hE
        have HXY := Lib.hid hxy'
        clear hxy hxy'
        go_upto_region 4 with fail
        refine wp_region_kept wr.heap.size wr (Below.refl _ _) (by kernel_rfl) (by kernel_rfl) ?_
        repeat (first
          | (go_big_quiet_want; (with_reducible refine quiet_loadV 87 (.tmp 3) rfl _ ?_ _ HLX.out ?_); rfl; simp only [Act.put, List.setIfInBounds_toArray, List.set_cons_zero, List.set_cons_succ]; go_big_quiet_on)
          | (go_big_quiet_want; (with_reducible refine quiet_loadV 87 (.tmp 15) rfl _ ?_ _ HLY.out ?_); rfl; simp only [Act.put, List.setIfInBounds_toArray, List.set_cons_zero, List.set_cons_succ]; go_big_quiet_on)
          | go_big_quiet_step (fail))
        refine wpQuiet_nil ?_
        rintro wk ⟨⟨_, hwk⟩, rfl⟩
        have HREL : Hid (FdRel W0 L t (.int .i64 ((j : Int) + 1)) wk) := Lib.hid ⟨j + 1, by have := HN.out; omega, by go_num, fun q hq h => by
          by_cases e : q = j
          · subst e
            exact (congrArg (isC t) HIX.out).trans HXY.out
          · exact HQ.out q hq (by omega), HB.out.trans (hwk.mono HB.out.size)⟩
        clear hwk HLX HLY HQ HB
        go_wp2
        go_roundw
        case rel => exact HREL.out
        case measure => simp [RowKit.intOf]; omega
    · have HP : Hid (D = -1) := Lib.hid (by
        rw [HD.out]
        exact idxP_miss (fun q hq => HQ.out q hq (by have := HN.out; omega)))
      have HF := Lib.hid (HB0.out.trans (HB.out.mono HB0.out.size))
      clear hb hq HB HQ
      go_wp2
      go_ret
      exact ⟨by rw [HP.out] <;> rfl, HF.out⟩
end Go.Proofs.YtehgpnnfjgmiiaaGreat
end
section
namespace Go.Proofs.YtehgpnnfjgmiiaaGreat
open Go.Shelf Go.RowKit Go.Lib Go.Great
set_option maxRecDepth 100000
set_option maxHeartbeats 400000
theorem eqCc_iff (x y : Con) : eqC x y = true ↔ x = y := by
  unfold eqC
  simp only [Bool.and_eq_true, beq_iff_eq]
  constructor
  · rintro ⟨a, b, c⟩
    exact Subtype.ext (Prod.ext a (Prod.ext b c))
  · rintro rfl
    exact ⟨rfl, rfl, rfl⟩
theorem eqCc_self (x : Con) : eqC x x = true := (eqCc_iff x x).2 rfl
theorem rowC_load {w W : World} {B g off : Nat} {L : List Con} (h : w.rangeAt g off (flatE encC L)) (hg : g < B) (hb : Below B w W) {k : Nat} (hk : k < L.length) : (loadVar 63 ⟨g, off + k * 22, none⟩).run Tryz.prog W = .ok (.agg (encC L[k]!).toArray) W := by
  have hr : W.rangeAt g off (flatE encC L) := fun j v hj => (hb.cell (p := ⟨g, off + j, none⟩) hg).trans (h j v hj)
  refine load60 (fun j v hv => ?_)
  have hj : j < 22 := by have := (List.getElem?_eq_some_iff.1 hv).1; rwa [encC_length] at this
  have e := flatE_get encC_length (by omega) L k L[k]! j (by rw [List.getElem?_eq_getElem hk, getElem!_pos L k hk]) hj
  have := hr (k * 22 + j) v (by rw [e]; exact hv)
  rwa [← Nat.add_assoc] at this
/-- The same contacts, in the same order. -/
def sameC (xs ys : List Con) : Bool := decide (xs.length = ys.length) && (List.range xs.length).all (fun k => eqC xs[k]! ys[k]!)
theorem sameC_iff (xs ys : List Con) : sameC xs ys = true ↔ xs = ys := by
  unfold sameC
  rw [Bool.and_eq_true, decide_eq_true_eq, List.all_eq_true]
  constructor
  · rintro ⟨h1, h2⟩
    apply List.ext_getElem h1
    intro k hk hk'
    have := h2 k (by simpa using hk)
    rw [eqCc_iff, getElem!_pos xs k hk, getElem!_pos ys k hk'] at this
    exact this
  · rintro rfl
    exact ⟨rfl, fun k _ => eqCc_self _⟩
theorem ceq_len (A A' : Option Addr) (n m c c' : Nat) (w : World) (h : n ≠ m) : Calls Tryz.prog 36 #[.slice A n c, .slice A' m c'] w fun e w' => e = .returned (.bool false) ∧ w' = w := by
  have h' : ¬ (n : Int) = (m : Int) := by omega
  go_enter Tryz.func36, Tryz.ntmps36
  go_wp2
  go_ret
  exact ⟨rfl, rfl⟩
theorem ceq_none (A A' : Option Addr) (c c' : Nat) (w : World) : Calls Tryz.prog 36 #[.slice A 0 c, .slice A' 0 c'] w fun e w' => e = .returned (.bool true) ∧ w' = w := by
  go_enter Tryz.func36, Tryz.ntmps36
  go_wp2
  go_loopg [13] 0 (fun _ s wr => s = .int .i64 0 ∧ wr = w)
  case atStart => exact ⟨rfl, rfl⟩
  case round =>
    obtain ⟨rfl, rfl⟩ := hrel
    go_wp2
    go_ret
    exact ⟨rfl, rfl⟩
theorem ceq_some (g1 o1 c1 g2 o2 c2 n : Nat) (xs ys : List Con) (w : World) (hx : xs.length = n) (hy : ys.length = n) (hn : n ≤ 10000) (hg1 : g1 < w.heap.size) (hr1 : w.rangeAt g1 o1 (flatE encC xs)) (hg2 : g2 < w.heap.size) (hr2 : w.rangeAt g2 o2 (flatE encC ys)) :
    Calls Tryz.prog 36 #[.slice (some ⟨g1, o1, none⟩) n c1, .slice (some ⟨g2, o2, none⟩) n c2] w fun e w' => e = .returned (.bool (sameC xs ys)) ∧ Below w.heap.size w w' := by
  have HL1 : Hid (∀ k, k < n → ∀ W, Below w.heap.size w W → (loadVar 63 ⟨g1, o1 + k * 22, none⟩).run Tryz.prog W = .ok (.agg (encC xs[k]!).toArray) W) := Lib.hid (fun k hk W hW => rowC_load hr1 hg1 hW (by omega))
  have HL2 : Hid (∀ k, k < n → ∀ W, Below w.heap.size w W → (loadVar 63 ⟨g2, o2 + k * 22, none⟩).run Tryz.prog W = .ok (.agg (encC ys[k]!).toArray) W) := Lib.hid (fun k hk W hW => rowC_load hr2 hg2 hW (by omega))
  have HT : Hid ((∀ k, k < n → eqC xs[k]! ys[k]! = true) → sameC xs ys = true) := Lib.hid (fun h => by
    unfold sameC
    rw [Bool.and_eq_true, decide_eq_true_eq, List.all_eq_true]
    exact ⟨by omega, fun k hk => h k (by rw [List.mem_range] at hk; omega)⟩)
  have HF : Hid (∀ k, k < n → eqC xs[k]! ys[k]! = false → sameC xs ys = false) := Lib.hid (fun k hk h => by
    cases hs : sameC xs ys with
    | false => rfl
    | true => rw [(sameC_iff xs ys).1 hs, eqCc_self] at h; cases h)
  generalize sameC xs ys = r at *
  clear hr1 hr2
  go_enter Tryz.func36, Tryz.ntmps36
  go_wp2
  go_loopw [13] (fun i wr => ∃ k : Nat, i = .int .i64 (k : Int) ∧ k ≤ n ∧ (∀ j, j < k → eqC xs[j]! ys[j]! = true) ∧ Below w.heap.size w wr) (fun i _ => n - (RowKit.intOf i).toNat)
  case atStart => exact ⟨0, rfl, by omega, fun j hj => by omega, Below.refl _ _⟩
  case round =>
    obtain ⟨k, rfl, hk, hF, hbr⟩ := hrel
    have HD := Lib.hid hF
    clear hF
    by_cases hlt : k < n
    · have hlt' : (k : Int) < (n : Int) := by omega
      have HBN := Lib.hid hbr
      have HQ1 : Hid (∀ q : Kept wr.heap.size wr, (loadVar 63 ⟨g1, o1 + k * 22, none⟩).run Tryz.prog q.val = .ok (.agg (encC xs[k]!).toArray) q.val) := Lib.hid (fun q => HL1.out k hlt _ (HBN.out.trans (q.property.mono HBN.out.size)))
      have HQ2 : Hid (∀ q : Kept wr.heap.size wr, (loadVar 63 ⟨g2, o2 + k * 22, none⟩).run Tryz.prog q.val = .ok (.agg (encC ys[k]!).toArray) q.val) := Lib.hid (fun q => HL2.out k hlt _ (HBN.out.trans (q.property.mono HBN.out.size)))
      have he := fun W => eqCon60 xs[k]! ys[k]! W
      have HNX : Hid (eqC xs[k]! ys[k]! = true → ∀ wx, Below w.heap.size w wx → ∃ k' : Nat, Value.int .i64 ((k : Int) + 1) = .int .i64 (k' : Int) ∧ k' ≤ n ∧ (∀ j, j < k' → eqC xs[j]! ys[j]! = true) ∧ Below w.heap.size w wx) := Lib.hid (fun h wx hx => ⟨k + 1, by simp, by omega, fun j hj => by
        by_cases e : j = k
        · subst e; exact h
        · exact HD.out j (by omega), hx⟩)
      have HRF := Lib.hid (HF.out k hlt)
      clear HT HF HD HL1 HL2 hbr
      cases hq : eqC xs[k]! ys[k]! with
      | false =>
        rw [hq] at he
        have HRR : Hid (r = false) := Lib.hid (HRF.out hq)
        clear HRF HNX hq
        generalize (encC xs[k]!).toArray = X at *
        generalize (encC ys[k]!).toArray = Y at *
        go_upto_region 6 with fail
        refine wp_region_kept wr.heap.size wr (Below.refl _ _) (by kernel_rfl) (by kernel_rfl) ?_
        repeat (first
          | (go_big_quiet_want; (with_reducible refine quiet_loadV 63 (.tmp 18) rfl _ ?_ _ HQ1.out ?_); rfl; simp only [Act.put, List.setIfInBounds_toArray, List.set_cons_zero, List.set_cons_succ]; go_big_quiet_on)
          | (go_big_quiet_want; (with_reducible refine quiet_loadV 63 (.tmp 22) rfl _ ?_ _ HQ2.out ?_); rfl; simp only [Act.put, List.setIfInBounds_toArray, List.set_cons_zero, List.set_cons_succ]; go_big_quiet_on)
          | go_big_quiet_step (fail))
        refine wpQuiet_nil ?_
        rintro wk ⟨⟨_, hwk⟩, rfl⟩
        go_wp2
        go_ret
        exact ⟨by rw [HRR.out]; rfl, HBN.out.trans (hwk.mono HBN.out.size)⟩
      | true =>
        rw [hq] at he
        have HNY := Lib.hid (HNX.out hq)
        clear HRF HNX hq
        generalize (encC xs[k]!).toArray = X at *
        generalize (encC ys[k]!).toArray = Y at *
        go_upto_region 6 with fail
        refine wp_region_kept wr.heap.size wr (Below.refl _ _) (by kernel_rfl) (by kernel_rfl) ?_
        repeat (first
          | (go_big_quiet_want; (with_reducible refine quiet_loadV 63 (.tmp 18) rfl _ ?_ _ HQ1.out ?_); rfl; simp only [Act.put, List.setIfInBounds_toArray, List.set_cons_zero, List.set_cons_succ]; go_big_quiet_on)
          | (go_big_quiet_want; (with_reducible refine quiet_loadV 63 (.tmp 22) rfl _ ?_ _ HQ2.out ?_); rfl; simp only [Act.put, List.setIfInBounds_toArray, List.set_cons_zero, List.set_cons_succ]; go_big_quiet_on)
          | go_big_quiet_step (fail))
        refine wpQuiet_nil ?_
        rintro wk ⟨⟨_, hwk⟩, rfl⟩
        have HBW := Lib.hid (HNY.out _ (HBN.out.trans (hwk.mono HBN.out.size)))
        clear hwk
        go_wp2
        go_roundw
        case rel => exact HBW.out
        case measure => simp [RowKit.intOf]; omega
    · have hlt' : ¬ (k : Int) < (n : Int) := by omega
      have HRT : Hid (r = true) := Lib.hid (HT.out (fun j hj => HD.out j (by omega)))
      have HBR := Lib.hid hbr
      clear HT HF HD HL1 HL2 hbr
      go_wp2
      go_ret
      exact ⟨by rw [HRT.out]; rfl, HBR.out⟩
theorem ceq_any (A A' : Option Addr) (c c' : Nat) (xs ys : List Con) (w : World) (hx : xs.length ≤ 10000) (hA : CAt w w.heap.size A xs) (hA' : CAt w w.heap.size A' ys) :
    Calls Tryz.prog 36 #[.slice A xs.length c, .slice A' ys.length c'] w fun e w' => e = .returned (.bool (sameC xs ys)) ∧ Below w.heap.size w w' := by
  by_cases h : xs.length = ys.length
  · rcases hA with rfl | ⟨g1, o1, rfl, hg1, hr1⟩
    · have hy : ys = [] := List.eq_nil_of_length_eq_zero (by simpa using h.symm)
      subst hy
      refine (ceq_none A A' c c' w).mono ?_
      rintro e w' ⟨rfl, rfl⟩
      exact ⟨rfl, Below.refl _ _⟩
    · rcases hA' with rfl | ⟨g2, o2, rfl, hg2, hr2⟩
      · have hx0 : xs = [] := List.eq_nil_of_length_eq_zero (by simpa using h)
        subst hx0
        refine (ceq_none _ A' c c' w).mono ?_
        rintro e w' ⟨rfl, rfl⟩
        exact ⟨rfl, Below.refl _ _⟩
      · rw [← h]
        exact ceq_some g1 o1 c g2 o2 c' xs.length xs ys w rfl h.symm hx hg1 hr1 hg2 hr2
  · have hs : sameC xs ys = false := by unfold sameC; rw [decide_eq_false h, Bool.false_and]
    rw [hs]
    refine (ceq_len A A' _ _ c c' w h).mono ?_
    rintro e w' ⟨rfl, rfl⟩
    exact ⟨rfl, Below.refl _ _⟩
end Go.Proofs.YtehgpnnfjgmiiaaGreat
end
