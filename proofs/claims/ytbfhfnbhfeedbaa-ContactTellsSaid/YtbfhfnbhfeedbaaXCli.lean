/- Contract of lives of the statements on contact. No condition. Plain facts on reading lists of contacts. No condition. -/
import Derived.Test.YtbfhfnbhfeedbaaXCrd
import Derived.Test.YtbfhfnbhfeedbaaXCdq
import Derived.Test.YtbfhfnbhfeedbaaXCdo
import Derived.Test.YtbfhfnbhfeedbaaXDcv
section
namespace Go.Proofs.Ytbfhfnbhfeedbaa
open Go.Shelf Go.RowKit Go.Lib Go.Sort Go.Great
set_option maxRecDepth 100000
set_option maxHeartbeats 1000000
def oneC : Con := ⟨(List.replicate 20 0, 1, 1), ⟨by simp, by simp, by simp⟩⟩
theorem run_build60a (W : World) : (Instr.build 60 #[(1, .agg #[.int .u32 1, .int .u16 1])]).run Try.prog W = .ok (.agg (encC oneC).toArray) W := by kernel_rfl
theorem rdOk_one : rdOk (ctB oneC.1) := by decide +kernel
theorem rdK_ctB {c : Con} (h : rdOk (ctB c.1)) : rdK (ctB c.1) = c := by
  have hid := c.2.id
  have e1 : (ctB c.1).take 20 = c.1.1 := by unfold ctB; rw [List.take_append_of_le_length (by omega), List.take_of_length_le (by omega)]
  have e2 : (ctB c.1).drop 20 = adB c.1.2.1 c.1.2.2 := by unfold ctB; rw [List.drop_append_of_le_length (by omega), List.drop_of_length_le (by omega), List.nil_append]
  unfold rdK
  rw [dif_pos h]
  refine Subtype.ext ?_
  simp only
  rw [e1, e2, adB_take _ _ c.2.hh, adB_drop _ _ c.2.hp]
theorem clives_any (w : World) : Calls Try.prog 28 #[] w fun e w' => e = .returned (.bool true) ∧ Below w.heap.size w w' := by
  have H30 : Hid (Calls Try.prog 30 #[.slice none 0 0] w fun e w1 => ∃ v1, e = .returned (.tuple #[v1, .int .i64 0]) ∧ BsIs [0] v1 w1 ∧ Below w.heap.size w w1) := by
    refine Lib.hid ((clist_any none 0 [] w (by simp) (.inl rfl) (.inl rfl)).mono ?_)
    rintro e w1 ⟨v, rfl, ho, hb⟩
    have hg : goodC (ctsC []) = true := by decide +kernel
    rw [hg] at ho
    exact ⟨v, by rw [hg]; rfl, BsIs.of_own ho, hb⟩
  have HCV : Hid (∀ W v, BsIs [0] v W → (convert 22 9 v).run Try.prog W = .ok (.string ⟨#[0]⟩) W) := by
    refine Lib.hid (fun W v hv => ?_)
    obtain ⟨A, k, rfl, _, hA⟩ := hv
    exact run_convert_bat 22 9 5 k Try.underlying22 Try.underlying5 Try.underlying9 hA
  obtain ⟨c1, hc1⟩ : ∃ c, c = oneC := ⟨_, rfl⟩
  have HBA : Hid (∀ W, (Instr.build 60 #[(1, .agg #[.int .u32 1, .int .u16 1])]).run Try.prog W = .ok (.agg (encC c1).toArray) W) := Lib.hid (fun W => by rw [hc1]; exact run_build60a W)
  have hl : (ctB c1.1).length = 26 := ctB_length c1.2.id
  have H35 : Hid (∀ W, Calls Try.prog 35 #[.agg (encC c1).toArray] W fun e w' => ∃ A k, e = .returned (.slice A 26 k) ∧ BAt w' w'.heap.size A (ctB c1.1) ∧ Below W.heap.size W w') := by
    refine Lib.hid (fun W => (cbytes_any c1 W).mono ?_)
    rintro e w' ⟨v, rfl, ho, hb⟩
    obtain ⟨A, k, rfl, hA, _⟩ := own_bat ho
    exact ⟨A, k, by rw [hl], hA, hb⟩
  have H44 : Hid (∀ W A k, BAt W W.heap.size A (ctB c1.1) → Calls Try.prog 44 #[.slice A 26 k] W fun e w' => e = .returned (.tuple #[.agg (encC c1).toArray, .int .i64 0]) ∧ Below W.heap.size W w') := by
    refine Lib.hid (fun W A k hA => ?_)
    have := cread_any A k (ctB c1.1) W hA (by omega)
    rw [hl] at this
    refine this.mono ?_
    rintro e w' ⟨rfl, hb⟩
    have hk : rdOk (ctB c1.1) := by rw [hc1]; exact rdOk_one
    refine ⟨?_, hb⟩
    rw [rdK_ctB hk]
    unfold rdE
    rw [if_pos hk]
  have H40 : Hid (∀ W, Calls Try.prog 40 #[.slice none 0 0, .agg (encID zID).toArray] W fun e w' => e = .returned (.int .i64 (-1)) ∧ Below W.heap.size W w') := Lib.hid (fun W => cfind_any none 0 [] zID W (by simp) (.inl rfl))
  have HBZ := Lib.hid (fun W => build55 W)
  generalize (encID zID).toArray = ZI at H40 HBZ
  have hE : ∀ W, (Op.equalIn 10000 60 (.agg (encC c1).toArray) (.agg (encC c1).toArray)).run Try.prog W = .ok true W := fun W => by rw [eqCon60, eqC_self]
  have HLX : Hid (∀ (W : World) (x : Con), (loadVar 60 ⟨W.heap.size, 0, none⟩).run Try.prog (W.alloc (.cells (encC x).toArray 60)) = .ok (.agg (encC x).toArray) (W.alloc (.cells (encC x).toArray 60))) := Lib.hid (fun W x => load60 (row_range (heap_alloc_new W (.cells (encC x).toArray 60))))
  have HE := Lib.hid hE
  clear hc1 hl hE
  go_enter Try.func28, Try.ntmps28
  go_upto_region 4 with (first
    | (go_at_call 30; (with_reducible refine H30.out.mono ?_); rintro e w1 ⟨v1, rfl, hv1, hb1⟩)
    | ((with_reducible refine wpList_buildV (o := ⟨some 11, _, _, _, _, _⟩) rfl 60 _ rfl _ ?_ _ (HBA.out _) ?_); (simp only [List.map_toArray, List.map_cons, List.map_nil]; rfl))
    | (with_reducible refine wpList_alloc60 (o := ⟨some 3, _, _, _, _, _⟩) rfl 3 rfl rfl ?_)
    | ((with_reducible refine wpList_store60 (o := ⟨none, _, _, _, _, _⟩) rfl (.tmp 3) (.tmp 11) rfl default c1 ?_ ?_ ?_); rfl; rfl)
    | ((with_reducible refine wpList_loadV (op := ⟨some 13, _, _, _, _, _⟩) rfl 60 (.tmp 3) rfl _ ?_ _ (HLX.out _ _) ?_); rfl)
    | (go_at_call 35; (with_reducible refine (H35.out _).mono ?_); rintro e w3 ⟨A3, k3, rfl, hA3, hb3⟩)
    | (go_at_call 44; (with_reducible refine (H44.out _ _ _ hA3).mono ?_); rintro e w4 ⟨rfl, hb4⟩)
    | (with_reducible refine wpList_alloc60 (o := ⟨some 4, _, _, _, _, _⟩) rfl 4 rfl rfl ?_)
    | ((with_reducible refine wpList_store60 (o := ⟨none, _, _, _, _, _⟩) rfl (.tmp 4) (.tmp 16) rfl default c1 ?_ ?_ ?_); rfl; rfl))
  have hn1 := heap_alloc_new w1 (.cells (encC c1).toArray 60)
  have ha1 : Below w1.heap.size w1 (w1.alloc (.cells (encC c1).toArray 60)) := (Below.refl _ w1).alloc (Nat.le_refl _) _
  have hlt1 : w1.heap.size < (w1.alloc (.cells (encC c1).toArray 60)).heap.size := by simp
  have ha4 : Below w4.heap.size w4 (w4.alloc (.cells (encC c1).toArray 60)) := (Below.refl _ w4).alloc (Nat.le_refl _) _
  have h3 := hb3.trans (hb4.mono hb3.size)
  have h4 := h3.trans (ha4.mono h3.size)
  have HL4 := Lib.hid (HLX.out w4 c1)
  have HL3 := Lib.hid (load60 (row_range ((h4.block _ hlt1).trans hn1)))
  have h5 := ha1.trans (h4.mono ha1.size)
  have hcv := HCV.out _ _ (BsIs.keep _ _ _ h5 hv1)
  have HB5 := Lib.hid (hb1.trans (h5.mono hb1.size))
  generalize w4.alloc (.cells (encC c1).toArray 60) = W5 at HL4 HL3 hcv HB5 ⊢
  generalize w4.heap.size = b4 at HL4 ⊢
  generalize w1.heap.size = b1 at HL3 ⊢
  clear hn1 ha1 hlt1 ha4 h3 h4 h5 hv1 hb1 hb3 hb4 hA3
  have hE := HE.out
  generalize (encC c1).toArray = X at HL4 HL3 hE ⊢
  clear HE HLX H35 H44 HBA H30 HCV
  go_wp2_with (first
    | ((with_reducible refine wpList_loadG (op := ⟨some 26, _, _, _, _, _⟩) ?_ 60 (.tmp 4) rfl _ ?_ _ HL4.out ?_); rfl; rfl)
    | ((with_reducible refine wpList_loadG (op := ⟨some 27, _, _, _, _, _⟩) ?_ 60 (.tmp 3) rfl _ ?_ _ HL3.out ?_); rfl; rfl)
    | ((with_reducible refine wpList_buildG (o := ⟨some 35, _, _, _, _, _⟩) ?_ 55 rfl _ (HBZ.out _) ?_); rfl)
    | (go_at_call 40; (with_reducible refine (H40.out _).mono ?_); rintro e w6 ⟨rfl, hb6⟩))
  go_ret
  exact ⟨rfl, HB5.out.trans (hb6.mono HB5.out.size)⟩
end Go.Proofs.Ytbfhfnbhfeedbaa
end
section
namespace Go.Proofs.Ytbfhfnbhfeedbaa
set_option maxRecDepth 100000
theorem rdK_bytes {xs : List UInt8} (h : rdOk xs) : ctB (rdK xs).1 = xs ∧ ctGood (rdK xs).1 = true := by
  have hc : rdC xs = some (rdK xs).1 := by
    unfold rdC rdK
    rw [if_pos (show xs.length = 26 ∧ getN ((xs.drop 20).take 4) ≠ 0 ∧ getN (((xs.drop 20).drop 4).take 2) ≠ 0 from h), dif_pos h]
  obtain ⟨_, h2, h3⟩ := rdC_some hc
  exact ⟨h3, h2⟩
theorem rdOk_ctB {c : Con} (hg : ctGood c.1 = true) : rdOk (ctB c.1) := by
  have h := rdC_ctB c.2 hg
  unfold rdC at h
  split at h
  · rename_i hk; exact hk
  · cases h
theorem good_default : ctGood (default : Con).1 = false := by decide +kernel
theorem flatC_cons (c : Con) (L : List Con) : flatC (ctsC (c :: L)) = ctB c.1 ++ flatC (ctsC L) := by
  unfold ctsC flatC
  rw [List.map_cons, List.flatMap_cons]
theorem flatC_app (L M : List Con) : flatC (ctsC (L ++ M)) = flatC (ctsC L) ++ flatC (ctsC M) := by
  unfold ctsC flatC
  rw [List.map_append, List.flatMap_append]
/-- Contacts that are all good were read. -/
theorem nxI_good (ys : List UInt8) : ∀ n : Nat, (∀ c ∈ (nxI n ⟨ys, false⟩).1, ctGood c.1 = true) → 26 * n ≤ ys.length ∧ (nxI n ⟨ys, false⟩).2 = ⟨ys.drop (26 * n), false⟩ ∧ flatC (ctsC (nxI n ⟨ys, false⟩).1) = ys.take (26 * n)
  | 0, _ => ⟨by omega, rfl, rfl⟩
  | n + 1, h => by
    rw [nxI] at h ⊢
    obtain ⟨h1, h2, h3⟩ := nxI_good ys n (fun c hc => h c (List.mem_append_left _ hc))
    have hc := h _ (List.mem_append_right _ (List.mem_singleton.2 rfl))
    rw [h2] at hc ⊢
    have hl : 26 ≤ (ys.drop (26 * n)).length := by
      by_cases hl : 26 ≤ (ys.drop (26 * n)).length
      · exact hl
      · exfalso
        have := (nx_short (ys.drop (26 * n)) (by omega)).1
        unfold nxC at hc
        rw [dif_neg this, good_default] at hc
        cases hc
    have hl' := hl
    rw [List.length_drop] at hl'
    have hcon := nx_con _ hl
    have hok : rdOk ((ys.drop (26 * n)).take 26) := by
      by_cases hk : rdOk ((ys.drop (26 * n)).take 26)
      · exact hk
      · exfalso
        rw [hcon] at hc
        unfold rdK at hc
        rw [dif_neg hk, good_default] at hc
        cases hc
    refine ⟨by omega, ?_, ?_⟩
    · simp only
      rw [(nx_long _ hl).2, List.drop_drop, show 26 * n + 26 = 26 * (n + 1) by omega]
    · simp only
      rw [flatC_app, h3, flatC_cons, hcon, (rdK_bytes hok).1]
      show _ ++ (_ ++ []) = _
      rw [List.append_nil, show 26 * (n + 1) = 26 * n + 26 by omega, List.take_add]
/-- What is put is read. -/
theorem nxI_flat (rest : List UInt8) : ∀ (n : Nat) (L : List Con), (∀ c ∈ L, ctGood c.1 = true) → n ≤ L.length → nxI n ⟨flatC (ctsC L) ++ rest, false⟩ = (L.take n, ⟨flatC (ctsC (L.drop n)) ++ rest, false⟩)
  | 0, L, _, _ => rfl
  | n + 1, L, hg, hn => by
    rw [nxI, nxI_flat rest n L hg (by omega)]
    have hd : L.drop n = L[n] :: L.drop (n + 1) := List.drop_eq_getElem_cons (by omega)
    have hgn := hg L[n] (List.getElem_mem _)
    have hl26 : (ctB L[n].1).length = 26 := ctB_length L[n].2.id
    have e1 : flatC (ctsC (L.drop n)) ++ rest = ctB L[n].1 ++ (flatC (ctsC (L.drop (n + 1))) ++ rest) := by rw [hd, flatC_cons, List.append_assoc]
    have hl : 26 ≤ (flatC (ctsC (L.drop n)) ++ rest).length := by rw [e1, List.length_append]; omega
    simp only
    rw [nx_con _ hl]
    have e2 : nxS ⟨flatC (ctsC (L.drop n)) ++ rest, false⟩ = ⟨flatC (ctsC (L.drop (n + 1))) ++ rest, false⟩ := by
      rw [(nx_long _ hl).2, e1, List.drop_append_of_le_length (by omega), List.drop_of_length_le (by omega), List.nil_append]
    have e3 : (ctB L[n].1 ++ (flatC (ctsC (L.drop (n + 1))) ++ rest)).take 26 = ctB L[n].1 := by rw [List.take_append_of_le_length (by omega), List.take_of_length_le (by omega)]
    rw [e2, e1, e3, rdK_ctB (rdOk_ctB hgn)]
    rw [List.take_succ_eq_append_getElem (by omega)]
theorem num1_cons (b : UInt8) (ys : List UInt8) : numV ⟨b :: ys, false⟩ 1 = b.toNat ∧ numS ⟨b :: ys, false⟩ 1 = ⟨ys, false⟩ := by
  have hk : numOk ⟨b :: ys, false⟩ 1 := ⟨rfl, by omega, by omega, by show (1 : Int) ≤ ((b :: ys).length : Int); simp only [List.length_cons]; omega⟩
  unfold numV numS
  rw [if_pos hk, if_pos hk]
  refine ⟨?_, rfl⟩
  show getN ([b]) = _
  rw [getN_cons]
  simp [getN]
theorem num1_nil : numV ⟨[], false⟩ 1 = 0 ∧ numS ⟨[], false⟩ 1 = ⟨[], true⟩ := by
  have hk : ¬ numOk ⟨[], false⟩ 1 := fun h => by have := h.2.2.2; simp at this
  unfold numV numS
  rw [if_neg hk, if_neg hk]
  exact ⟨rfl, rfl⟩
/-- A good list is read from its bytes. -/
theorem rl_list {L : List Con} (hg : goodC (ctsC L) = true) (rest : List UInt8) : rlL ⟨listC (ctsC L) ++ rest, false⟩ = L ∧ rlS ⟨listC (ctsC L) ++ rest, false⟩ = ⟨rest, false⟩ := by
  have hl := goodC_len hg
  have hl' : L.length ≤ 64 := by unfold ctsC at hl; simpa using hl
  have hall : ∀ c ∈ L, ctGood c.1 = true := fun c hc => goodC_all hg _ (List.mem_map.2 ⟨c, hc, rfl⟩)
  have e : listC (ctsC L) ++ rest = UInt8.ofNat L.length :: (flatC (ctsC L) ++ rest) := by
    unfold listC
    rw [show (ctsC L).length = L.length by unfold ctsC; simp]
    rfl
  obtain ⟨n1, n2⟩ := num1_cons (UInt8.ofNat L.length) (flatC (ctsC L) ++ rest)
  have hn : (UInt8.ofNat L.length).toNat = L.length := by rw [UInt8.toNat_ofNat']; omega
  have hI := nxI_flat rest L.length L hall (Nat.le_refl _)
  rw [List.take_length, List.drop_length] at hI
  have hr : rlG ⟨listC (ctsC L) ++ rest, false⟩ = true := by
    unfold rlG
    rw [e, n1, n2, hn, hI]
    exact hg
  unfold rlL rlS
  rw [hr, if_pos rfl, if_pos rfl, e, n1, n2, hn, hI]
  exact ⟨rfl, rfl⟩
/-- What is read is good, and has just those bytes; or the reader is bad. -/
theorem rl_cases (ys : List UInt8) : (rlL ⟨ys, false⟩ = [] ∧ rlS ⟨ys, false⟩ = ⟨[], true⟩) ∨ (goodC (ctsC (rlL ⟨ys, false⟩)) = true ∧ (rlS ⟨ys, false⟩).bad = false ∧ ys = listC (ctsC (rlL ⟨ys, false⟩)) ++ (rlS ⟨ys, false⟩).ys) := by
  by_cases hr : rlG ⟨ys, false⟩ = true
  · cases ys with
    | nil =>
      left
      unfold rlL rlS
      rw [hr, if_pos rfl, if_pos rfl, num1_nil.1, num1_nil.2]
      exact ⟨rfl, rfl⟩
    | cons b ys =>
      right
      have hr' := hr
      unfold rlG at hr'
      obtain ⟨n1, n2⟩ := num1_cons b ys
      unfold rlL rlS
      rw [hr, if_pos rfl, if_pos rfl]
      rw [n1, n2] at hr' ⊢
      obtain ⟨a1, a2, a3⟩ := nxI_good ys b.toNat (fun c hc => goodC_all hr' _ (List.mem_map.2 ⟨c, hc, rfl⟩))
      refine ⟨hr', by rw [a2], ?_⟩
      unfold listC
      rw [a2, a3, show (ctsC (nxI b.toNat ⟨ys, false⟩).1).length = b.toNat by unfold ctsC; rw [List.length_map, nxI_len], UInt8.ofNat_toNat]
      show b :: ys = b :: (ys.take _ ++ ys.drop _)
      rw [List.take_append_drop]
  · have hr' : rlG ⟨ys, false⟩ = false := by cases h : rlG ⟨ys, false⟩ with | true => exact absurd h hr | false => rfl
    left
    unfold rlL rlS
    rw [hr']
    exact ⟨rfl, rfl⟩
end Go.Proofs.Ytbfhfnbhfeedbaa
end
