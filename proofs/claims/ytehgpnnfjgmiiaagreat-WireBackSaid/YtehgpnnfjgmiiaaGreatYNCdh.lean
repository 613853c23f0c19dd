/- Contract of Bytes of package contact. No condition. Contacts in blocks of their own: making one, storing into it. No condition. Contract of List of package contact. Conditions: at most 10,000 contacts. Messages as values; loads of their fields; what a good message is, plain. No condition. -/
import Derived.Test.YtehgpnnfjgmiiaaGreatYOja
import Derived.Test.YtehgpnnfjgmiiaaGreatYOcb
import Derived.Test.YtehgpnnfjgmiiaaGreatYOga
import Derived.Test.YtehgpnnfjgmiiaaGreatYRIis
import Derived.Test.YtehgpnnfjgmiiaaGreatYRERefc
import Derived.Test.YtehgpnnfjgmiiaaGreatYRIip
import Derived.Test.YtehgpnnfjgmiiaaGreatYREOcta
import Derived.Test.YtehgpnnfjgmiiaaGreatYNCdd
section
namespace Go.Proofs.YtehgpnnfjgmiiaaGreat
open Go.Shelf Go.RowKit Go.Lib Go.Sort Go.Great
set_option maxRecDepth 100000
set_option maxHeartbeats 1000000
theorem yieldsIf_loadP {P : Program} {ops : Array Oper} {S : World → Prop} {op : Oper} {a : Act} (hw : Region.wanted op (yielded ops a.tmps) = true) (ty : TypeId) (x : Operand) (ho : op.op = .load ty x) (p : Addr) (hx : a.eval x = .pointer (some p)) (v : Value) (hl : ∀ w, S w → (loadVar ty p).run P w = .ok v w) : YieldsIf P ops S op v a :=
  .inl ⟨hw, fun w hw' => by
    unfold execOp
    simp only [ho, hx, Instr.loadAt, Instr.sureAddr, Sem.run_bind, Sem.run_pure, Result.andThen_ok, hl w hw']⟩
theorem cbytes_any (c : Con) (w : World) : Calls Tryz.prog 79 #[.agg (encC c).toArray] w fun e w' => ∃ v, e = .returned v ∧ w'.ownsRow w.heap.size 5 1 v (ctB c.1).length (bcells (ctB c.1)) ∧ Below w.heap.size w w' := by
  obtain ⟨W0, hW0⟩ : ∃ W0, W0 = w.alloc (.cells (encC c).toArray 63) := ⟨_, rfl⟩
  have hb0 : Below w.heap.size w W0 := by rw [hW0]; exact (Below.refl _ w).alloc (Nat.le_refl _) _
  have h0 : W0.heap[w.heap.size]? = some (.cells (encC c).toArray 63 (0, 0)) := by rw [hW0]; exact heap_alloc_new w _
  have hl0 : w.heap.size < W0.heap.size := (Array.getElem?_eq_some_iff.1 h0).1
  have HA : Hid (∀ W, Below W0.heap.size W0 W → BAt W W.heap.size (some ⟨w.heap.size, 0, none⟩) c.1.1) := Lib.hid (fun W hW => by
    refine .inr ⟨w.heap.size, 0, rfl, Nat.lt_of_lt_of_le hl0 hW.size, fun j hj => ?_⟩
    have h1 : W.rangeAt w.heap.size 0 (encC c) := row_range ((hW.block _ hl0).trans h0)
    rw [encC_id] at h1
    have h2 := range_front h1
    exact h2 j _ (show (bcells c.1.1)[j]? = _ from bcells_get c.1.1 j hj))
  have HK : Hid (∀ W, Below W0.heap.size W0 W → (loadVar 61 ⟨w.heap.size, 20, none⟩).run Tryz.prog W = .ok (.agg (adr c.1.2.1 c.1.2.2)) W) := Lib.hid (fun W hW => box_addr ((hW.block _ hl0).trans h0))
  have H1 : Hid (∀ W, Below W0.heap.size W0 W → Calls Tryz.prog 99 #[.agg (adr c.1.2.1 c.1.2.2)] W fun e w' => ∃ A k, e = .returned (.slice A 6 k) ∧ Below W0.heap.size W0 w' ∧ BAt w' w'.heap.size A (adB c.1.2.1 c.1.2.2)) := by
    refine Lib.hid (fun W hW => (bytes_any c.1.2.1 c.1.2.2 c.2.hh c.2.hp W).mono ?_)
    rintro e w' ⟨v, rfl, ⟨A, k, rfl, _, hA⟩, hb⟩
    exact ⟨A, k, by rw [adB_length], hW.trans (hb.mono hW.size), hA⟩
  have H2 : Hid (∀ W A k, Below W0.heap.size W0 W → BAt W W.heap.size A (adB c.1.2.1 c.1.2.2) → Calls Tryz.prog 24 #[.slice (some ⟨W.heap.size, 0, none⟩) 2 2] (W.alloc (.cells #[.slice (some ⟨w.heap.size, 0, none⟩) 20 20, .slice A 6 k] 31)) fun e w' => ∃ v, e = .returned v ∧ w'.ownsRow w.heap.size 5 1 v (ctB c.1).length (bcells (ctB c.1)) ∧ Below w.heap.size w w' ∧ Below W0.heap.size W0 w') := by
    refine Lib.hid (fun W A k hW hA => ?_)
    have hb2 : Below W.heap.size W (W.alloc (.cells #[.slice (some ⟨w.heap.size, 0, none⟩) 20 20, .slice A 6 k] 31)) := (Below.refl _ W).alloc (Nat.le_refl _) _
    have hx := HA.out _ (hW.trans (hb2.mono hW.size))
    have hy : BAt (W.alloc (.cells #[.slice (some ⟨w.heap.size, 0, none⟩) 20 20, .slice A 6 k] 31)) _ A (adB c.1.2.1 c.1.2.2) := (hA.below hb2).more hb2.size
    have hid := c.2.id
    refine (concat_any (some ⟨w.heap.size, 0, none⟩) A 20 k W.heap.size c.1.1 (adB c.1.2.1 c.1.2.2) _ (by omega) (by rw [adB_length]; omega) (by omega) (by rw [hid, adB_length]; exact heap_alloc_new W _) hx hy).mono ?_
    rintro e w' ⟨v, rfl, ho, hb⟩
    have hb' : Below w.heap.size w (W.alloc (.cells #[.slice (some ⟨w.heap.size, 0, none⟩) 20 20, .slice A 6 k] 31)) := (hb0.trans (hW.mono hb0.size)).trans (hb2.mono (Nat.le_trans hb0.size hW.size))
    have hb9 := hW.trans (hb2.mono hW.size)
    exact ⟨v, rfl, own_baseC ho hb'.size, hb'.trans (hb.mono hb'.size), hb9.trans (hb.mono hb9.size)⟩
  have HB0 := Lib.hid hb0
  have HW := Lib.hid hW0
  generalize adr c.1.2.1 c.1.2.2 = AD at HK H1
  generalize (encC c).toArray = X at HW ⊢
  clear h0 hl0 hb0 hW0
  go_enter Tryz.func79, Tryz.ntmps79
  go_upto_region 1 with fail
  rw [← HW.out]
  clear HW
  have hS0 : Below W0.heap.size W0 W0.drew := (Below.refl _ W0).drew
  refine wp_region_noPanic ?_
  refine wp_region_held_drew (S := fun w' => Below W0.heap.size W0 w') (by kernel_rfl) hS0 (fun hHeld => ?_)
  refine takeH_at 0 3 (v := ?_) rfl rfl (by kernel_rfl) (by kernel_rfl) (by kernel_rfl) (fun _ _ _ h => h) (Or.inl ⟨by rfl, ?_⟩) (by assumption) ?_
  rotate_left
  · (intro wx hSw; (try dsimp only at hSw); go_simp) <;> with_reducible rfl
  simp only [Act.put, List.setIfInBounds_toArray, List.set_cons_zero, List.set_cons_succ]
  refine takeH_at 1 4 (v := ?_) rfl rfl (by kernel_rfl) (by kernel_rfl) (by kernel_rfl) (fun _ _ _ h => h) (Or.inl ⟨by rfl, ?_⟩) (by assumption) ?_
  rotate_left
  · (intro wx hSw; (try dsimp only at hSw); go_simp) <;> with_reducible rfl
  simp only [Act.put, List.setIfInBounds_toArray, List.set_cons_zero, List.set_cons_succ]
  refine takeH_at 2 5 (v := ?_) rfl rfl (by kernel_rfl) (by kernel_rfl) (by kernel_rfl) (fun _ _ _ h => h) (Or.inl ⟨by rfl, ?_⟩) (by assumption) ?_
  rotate_left
  · (intro wx hSw; (try dsimp only at hSw); go_simp) <;> with_reducible rfl
  simp only [Act.put, List.setIfInBounds_toArray, List.set_cons_zero, List.set_cons_succ]
  refine takeH_at 3 6 (v := .agg AD) rfl rfl (by kernel_rfl) (by kernel_rfl) (by kernel_rfl) (fun _ _ _ h => h) (yieldsIf_loadP (by rfl) 61 (.tmp 5) rfl ⟨w.heap.size, 20, none⟩ rfl _ (fun w hw => HK.out w hw)) (by assumption) ?_
  simp only [Act.put, List.setIfInBounds_toArray, List.set_cons_zero, List.set_cons_succ]
  refine wpAnyH_ready (rs := [4]) (by kernel_rfl) (by simp) ?_
  refine AllReadyH.cons rfl (fun K hK => ?_) ?_
  · go_simp
    go_wp2_with (go_at_call 99; (with_reducible refine (H1.out _ hS0).mono ?_); rintro e w2 ⟨A2, k2, rfl, hb2, hA2⟩)
    refine hK.out _ _ (by assumption) (fun hHeld => ?_)
    clear hK K
    refine wpAnyH_ready (rs := [5]) (by kernel_rfl) (by simp) ?_
    refine AllReadyH.cons rfl (fun K hK => ?_) ?_
    · go_simp
      have hb3 : Below W0.heap.size W0 (w2.alloc (.cells #[.slice (some ⟨w.heap.size, 0, none⟩) 20 20, .slice A2 6 k2] 31)) := hb2.alloc hb2.size _
      go_wp2
      refine hK.out _ _ (by assumption) (fun hHeld => ?_)
      clear hK K
      refine wpAnyH_ready (rs := [6]) (by kernel_rfl) (by simp) ?_
      refine AllReadyH.cons rfl (fun K hK => ?_) ?_
      · go_simp
        go_wp2_with (go_at_call 24; (with_reducible refine (H2.out _ _ _ hb2 hA2).mono ?_); rintro e w4 ⟨v4, rfl, ho4, hb4, hb5⟩)
        refine hK.out _ _ (by assumption) (fun hHeld => ?_)
        clear hK K
        refine takeH_at 7 2 (v := ?_) rfl rfl (by kernel_rfl) (by kernel_rfl) (by kernel_rfl) (fun _ _ _ h => h) (Or.inl ⟨by rfl, ?_⟩) (by assumption) ?_
        rotate_left
        · (intro wx hSw; (try dsimp only at hSw); go_simp) <;> with_reducible rfl
        simp only [Act.put, List.setIfInBounds_toArray, List.set_cons_zero, List.set_cons_succ]
        refine wpAnyH_done (by kernel_rfl) ?_ _
        refine NoPanic.normal ?_
        go_wp2
        go_ret
        exact ⟨_, rfl, ho4, hb4⟩
      exact AllReadyH.nil
    exact AllReadyH.nil
  exact AllReadyH.nil
end Go.Proofs.YtehgpnnfjgmiiaaGreat
end
section
namespace Go.Proofs.YtehgpnnfjgmiiaaGreat
open Go.Shelf Go.RowKit Go.Lib Go.Sort Go.Great
set_option maxRecDepth 100000
set_option maxHeartbeats 1000000
theorem size60 : (Tryz.prog.info? 63).map (·.size) = some 22 := by kernel_rfl
/-- A contact's block is made. -/
theorem wpList_alloc60 {w : World} {ops : Array Oper} {rest : List Oper} {o : Oper} {a : Act} {Q : Exit → Act → World → Prop} (hgd : o.guard = none) (d : Nat) (hd : o.dst = some d) (ho : o.op = .alloc 63)
    (h : wpList Tryz.prog ops Q rest (a.put (some d) (.pointer (some ⟨w.heap.size, 0, none⟩))) (w.alloc (.cells (encC default).toArray 63))) : wpList Tryz.prog ops Q (o :: rest) a w :=
  wpList_plain hgd fun _ hK => by
    have hz := fun W => zV60 W
    generalize (encC default).toArray = Z at hz h
    unfold Oper.wp execOp
    simp only [ho, Instr.alloc, Sem.run_bind, hz, Result.andThen_ok, Value.cells]
    simp [Oper.upon, hd]
    exact hK _ _ h
/-- A contact is stored into the block made last. -/
theorem wpList_store60 {w : World} {ops : Array Oper} {rest : List Oper} {o : Oper} {a : Act} {Q : Exit → Act → World → Prop} (hgd : o.guard = none) (x y : Operand) (ho : o.op = .store 63 x y) (z c : Con) (hx : a.eval x = .pointer (some ⟨w.heap.size, 0, none⟩)) (hy : a.eval y = .agg (encC c).toArray)
    (h : wpList Tryz.prog ops Q rest (a.put o.dst undef) (w.alloc (.cells (encC c).toArray 63))) : wpList Tryz.prog ops Q (o :: rest) a (w.alloc (.cells (encC z).toArray 63)) := by
  have hsz : (encC c).toArray.size = 22 := by rw [List.size_toArray, encC_length]
  refine wpList_store_mid (P := Tryz.prog) hgd 63 x y ho w.heap.size 0 (encC c).toArray hx hy ?_ (by rw [hsz]; exact size60) ?_ ?_
  · have := there_new w 63 (encC z)
    rw [encC_length] at this
    rw [hsz]
    exact this
  · rw [Array.all_eq_true_iff_forall_mem]
    intro v hv
    exact encC_one c v (by simpa using hv)
  · rw [show (encC c).toArray.toList = encC c from rfl, setCells_all w 63 (encC z) (encC c) (by rw [encC_length, encC_length])]
    exact h
end Go.Proofs.YtehgpnnfjgmiiaaGreat
end
section
namespace Go.Proofs.YtehgpnnfjgmiiaaGreat
open Go.Shelf Go.RowKit Go.Lib Go.Sort Go.Great
set_option maxRecDepth 100000
set_option maxHeartbeats 1000000
/-- What List tells. -/
def LstC (w : World) (L : List Con) (e : Ending) (w' : World) : Prop :=
  ∃ v, e = .returned (.tuple #[v, .int .i64 (if goodC (ctsC L) then 0 else 2)]) ∧ w'.ownsRow w.heap.size 5 1 v (if goodC (ctsC L) then listC (ctsC L) else []).length (bcells (if goodC (ctsC L) then listC (ctsC L) else [])) ∧ Below w.heap.size w w'
theorem CAt.some_ {w : World} {B : Nat} {A : Option Addr} {L : List Con} (h : CAt w B A L) (hL : 0 < L.length) : ∃ g off, A = some ⟨g, off, none⟩ ∧ g < B ∧ w.rangeAt g off (flatE encC L) := by
  rcases h with rfl | h
  · simp at hL
  · exact h
theorem range_elem {w : World} {g off : Nat} {L : List Con} (hr : w.rangeAt g off (flatE encC L)) (j : Nat) (hj : j < L.length) : w.rangeAt g (off + j * 22) (encC L[j]) := fun i v hv => by
  have hi := (List.getElem?_eq_some_iff.1 hv).1
  rw [encC_length] at hi
  have := flatE_get encC_length (by omega) L j _ i (List.getElem?_eq_getElem hj) hi
  rw [hv] at this
  rw [Nat.add_assoc]
  exact hr _ v this
theorem flatC_take (L : List Con) (j : Nat) (hj : j < L.length) : flatC (ctsC (L.take (j + 1))) = flatC (ctsC (L.take j)) ++ ctB L[j].1 := by
  rw [List.take_succ_eq_append_getElem hj]
  unfold ctsC flatC
  rw [List.map_append, List.flatMap_append]
  simp
theorem putB1 (n : Nat) (hn : n < 256) : putB n 1 = [UInt8.ofNat n] := by
  unfold putB
  simp
theorem flatC_len (L : List Con) : (flatC (ctsC L)).length = L.length * 26 := by
  unfold ctsC flatC
  induction L with
  | nil => rfl
  | cons c L ih => rw [List.map_cons, List.flatMap_cons, List.length_append, ih, ctB_length c.2.id, List.length_cons]; omega
theorem clist_any (A : Option Addr) (c : Nat) (L : List Con) (w : World) (hL : L.length ≤ 10000) (hA : CAt w w.heap.size A L) (hA2 : A = none ∨ ∃ g off, A = some ⟨g, off, none⟩) : Calls Tryz.prog 53 #[.slice A L.length c] w (LstC w L) := by
  have HG := Lib.hid (isgood_any A c L w hL hA hA2)
  by_cases hg : goodC (ctsC L) = true
  · have h64 : L.length ≤ 64 := by have := goodC_len hg; unfold ctsC at this; simpa using this
    rw [hg] at HG
    have HFIN : Hid (∀ v w', w'.ownsRow w.heap.size 5 1 v (putB L.length 1 ++ flatC (ctsC (L.take L.length))).length (bcells (putB L.length 1 ++ flatC (ctsC (L.take L.length)))) → Below w.heap.size w w' → LstC w L (.returned (.tuple #[v, .int .i64 0])) w') := by
      refine Lib.hid (fun v w' ho hb => ⟨v, by rw [hg]; rfl, ?_, hb⟩)
      rw [hg]
      rw [List.take_length, putB1 _ (by omega)] at ho
      have e : listC (ctsC L) = [UInt8.ofNat L.length] ++ flatC (ctsC L) := by unfold listC; rw [show (ctsC L).length = L.length by unfold ctsC; simp]; rfl
      simp only [if_true]
      rw [e]
      exact ho
    have HP : Hid (∀ W, Below w.heap.size w W → Calls Tryz.prog 22 #[.slice none 0 0, .int .u64 (L.length : Int), .int .i64 1] W fun e w' => ∃ v, e = .returned v ∧ w'.ownsRow w.heap.size 5 1 v (putB L.length 1 ++ flatC (ctsC (L.take 0))).length (bcells (putB L.length 1 ++ flatC (ctsC (L.take 0)))) ∧ Below w.heap.size w w') := by
      refine Lib.hid (fun W hW => (put_yes none 0 L.length 1 [] W (.inl rfl) (by simp) (by omega) (by omega) (by omega)).mono ?_)
      rintro e w' ⟨v, rfl, k1, k2⟩
      refine ⟨v, rfl, own_baseC (by simpa [ctsC, flatC] using k1) hW.size, hW.trans (k2.mono hW.size)⟩
    have HRW : Hid (∀ j (hj : j < L.length) (v : Value) (wr : World), wr.ownsRow w.heap.size 5 1 v (putB L.length 1 ++ flatC (ctsC (L.take j))).length (bcells (putB L.length 1 ++ flatC (ctsC (L.take j)))) → Below w.heap.size w wr →
        (∃ g off, A = some ⟨g, off, none⟩ ∧ (loadVar 63 ⟨g, off + j * 22, none⟩).run Tryz.prog wr = .ok (.agg (encC L[j]).toArray) wr) ∧
        Calls Tryz.prog 79 #[.agg (encC L[j]).toArray] (wr.alloc (.cells (encC L[j]).toArray 63)) fun e w2 => ∃ A2 k2, e = .returned (.slice A2 26 k2) ∧ Below w.heap.size w w2 ∧ w2.ownsRow w.heap.size 5 1 v (putB L.length 1 ++ flatC (ctsC (L.take j))).length (bcells (putB L.length 1 ++ flatC (ctsC (L.take j)))) ∧ Src Tryz.prog 1 31 (.slice A2 26 k2) (ctB L[j].1).length (bcells (ctB L[j].1)) w2) := by
      refine Lib.hid (fun j hj v wr ho hb => ⟨?_, ?_⟩)
      · obtain ⟨g, off, rfl, hgl, hr⟩ := (hA.below hb).some_ (by omega)
        exact ⟨g, off, rfl, load60 (range_elem hr j hj)⟩
      · have hb1 : Below wr.heap.size wr (wr.alloc (.cells (encC L[j]).toArray 63)) := (Below.refl _ wr).alloc (Nat.le_refl _) _
        have ho1 := ho.kept (grown_of_bel hb1 none) (by cases v.ownBlock <;> simp)
        refine (cbytes_any L[j] (wr.alloc (.cells (encC L[j]).toArray 63))).mono ?_
        rintro e w2 ⟨v2, rfl, ho2, hb2⟩
        obtain ⟨A2, k2, rfl, hbat, _⟩ := own_bat ho2
        have hl : (ctB L[j].1).length = 26 := ctB_length L[j].2.id
        have hbw := hb.trans (hb1.mono hb.size)
        refine ⟨A2, k2, by rw [hl], hbw.trans (hb2.mono hbw.size), ho1.kept (grown_of_bel hb2 none) (by cases v.ownBlock <;> simp), ?_⟩
        have := hbat.srcB k2
        rw [hl] at this ⊢
        exact this
    have HLEN : Hid (∀ j, j ≤ L.length → (putB L.length 1 ++ flatC (ctsC (L.take j))).length + 26 ≤ 10000000) := Lib.hid (fun j hj => by rw [List.length_append, flatC_len, putB_length, List.length_take]; omega)
    have HNX : Hid (∀ j (hj : j < L.length), putB L.length 1 ++ flatC (ctsC (L.take (j + 1))) = putB L.length 1 ++ flatC (ctsC (L.take j)) ++ ctB L[j].1) := Lib.hid (fun j hj => by rw [flatC_take L j hj, List.append_assoc])
    obtain ⟨n, hn⟩ : ∃ n, n = L.length := ⟨_, rfl⟩
    have HN : Hid (n = L.length) := Lib.hid hn
    rw [← hn] at HG HP h64 ⊢
    clear hA hA2 hL hn
    go_enter Tryz.func53, Tryz.ntmps53
    go_upto_region 5 with (first
      | (go_at_call 78; (with_reducible refine HG.out.mono ?_); rintro e1 w1 ⟨rfl, hb1⟩)
      | (go_at_call 22; (with_reducible refine (HP.out _ hb1).mono ?_); rintro e2 w2 ⟨v2, rfl, ho2, hb2⟩))
    have HO2 := Lib.hid ho2
    have HB2 := Lib.hid hb2
    clear ho2 hb2 hb1 HG HP
    go_loopg [4, 16] n (fun kx s4 s16 wr => ∃ (j : Nat), j ≤ n ∧ n - j ≤ kx ∧ s16 = .int .i64 (j : Int) ∧ wr.ownsRow w.heap.size 5 1 s4 (putB n 1 ++ flatC (ctsC (L.take j))).length (bcells (putB n 1 ++ flatC (ctsC (L.take j)))) ∧ Below w.heap.size w wr)
    case atStart => exact ⟨0, by omega, by omega, rfl, HO2.out, HB2.out⟩
    case round =>
      obtain ⟨j, hj, hkx, rfl, ho, hb⟩ := hrel
      clear HO2 HB2
      by_cases hlt : j < n
      · have hlt' : (j : Int) < (n : Int) := by omega
        have hlL : j < L.length := by rw [← HN.out]; exact hlt
        rw [HN.out] at ho
        obtain ⟨A4, c4, hv4, _⟩ := own_bat ho
        obtain ⟨lb, hlb⟩ : ∃ lb, lb = (putB L.length 1 ++ flatC (ctsC (L.take j))).length := ⟨_, rfl⟩
        rw [← hlb] at hv4
        clear hlb
        subst hv4
        obtain ⟨⟨g, off, rfl, hld⟩, hcall⟩ := HRW.out j hlL _ wr ho hb
        have HLD := Lib.hid hld
        have HCA := Lib.hid hcall
        have HLX := Lib.hid (load60 (row_range (heap_alloc_new wr (.cells (encC L[j]).toArray 63))))
        have hl : (ctB L[j].1).length = 26 := ctB_length L[j].2.id
        have HLE : Hid ((putB L.length 1 ++ flatC (ctsC (L.take j))).length + (ctB L[j].1).length ≤ 10000000) := Lib.hid (by rw [hl]; exact HLEN.out j (by omega))
        have HNJ := Lib.hid (HNX.out j hlL)
        have HR : Hid (∀ v' w2 w', w2.ownsRow w.heap.size 5 1 (.slice A4 lb c4) (putB L.length 1 ++ flatC (ctsC (L.take j))).length (bcells (putB L.length 1 ++ flatC (ctsC (L.take j)))) → Below w.heap.size w w2 → w'.ownsRow w.heap.size 5 1 v' (putB L.length 1 ++ flatC (ctsC (L.take j)) ++ ctB L[j].1).length (bcells (putB L.length 1 ++ flatC (ctsC (L.take j)) ++ ctB L[j].1)) → w2.grownBy w' (Value.slice A4 lb c4).ownBlock → w'.ownsRow w.heap.size 5 1 v' (putB n 1 ++ flatC (ctsC (L.take (j + 1)))).length (bcells (putB n 1 ++ flatC (ctsC (L.take (j + 1))))) ∧ Below w.heap.size w w') := Lib.hid (fun v' w2 w' h0 hb2 h1 h2 => by
          rw [HN.out, HNJ.out]
          exact ⟨h1, below_own hb2 h2 (fun q hq => (h0.lt q hq).1)⟩)
        obtain ⟨cv, hcv⟩ : ∃ cv : Con, cv = L[j] := ⟨_, rfl⟩
        rw [← hcv] at HLD HCA HLX HLE HR
        clear hld hcall ho hb hl hcv HNJ
        generalize putB L.length 1 ++ flatC (ctsC (L.take j)) = bs at HLD HCA HLX HLE HR ⊢
        go_wp2_with (first
          | ((with_reducible refine wpList_loadV (op := ⟨some 19, _, _, _, _, _⟩) rfl 63 (.tmp 18) rfl _ ?_ _ HLD.out ?_); rfl)
          | (with_reducible refine wpList_alloc60 (o := ⟨some 6, _, _, _, _, _⟩) rfl 6 rfl rfl ?_)
          | ((with_reducible refine wpList_store60 (o := ⟨none, _, _, _, _, _⟩) rfl (.tmp 6) (.tmp 19) rfl default cv ?_ ?_ ?_); rfl; rfl)
          | ((with_reducible refine wpList_loadV (op := ⟨some 21, _, _, _, _, _⟩) rfl 63 (.tmp 6) rfl _ ?_ _ HLX.out ?_); rfl)
          | (go_at_call 79; (with_reducible refine HCA.out.mono ?_); rintro e3 w3 ⟨A3, k3, rfl, hb3, ho3, hs3⟩)
          | (refine wpList_append_bytes rfl (.tmp 20) (.tmp 22) rfl w.heap.size _ bs rfl ho3 _ (ctB cv.1) rfl hs3 HLE.out hb3.size ?_; intro v5 w5 ho5 hg5))
        go_roundg (n - (j + 1))
        case measure => omega
        case rel => exact ⟨j + 1, by omega, Nat.le_refl _, by go_num, (HR.out _ _ _ ho3 hb3 ho5 hg5).1, (HR.out _ _ _ ho3 hb3 ho5 hg5).2⟩
      · obtain rfl : j = n := by omega
        have HF := Lib.hid (HFIN.out _ wr (by rw [← HN.out]; exact ho) hb)
        obtain ⟨A4, c4, rfl, _⟩ := own_bat ho
        clear ho hb HFIN
        generalize (putB j 1 ++ flatC (ctsC (L.take j))).length = lb at *
        go_wp2
        go_ret2
        exact HF.out
  · have hg' : goodC (ctsC L) = false := by cases h : goodC (ctsC L) with | true => exact absurd h hg | false => rfl
    rw [hg'] at HG
    have HFIN : Hid (∀ w', Below w.heap.size w w' → LstC w L (.returned (.tuple #[.slice none 0 0, .int .i64 2])) w') := Lib.hid (fun w' hb => ⟨_, by rw [hg']; rfl, by rw [hg']; exact ⟨by simp [bcells], .inl ⟨rfl, rfl⟩⟩, hb⟩)
    generalize L.length = n at *
    clear hA hA2
    go_enter Tryz.func53, Tryz.ntmps53
    go_wp2_with (first | (go_at_call 78; (with_reducible refine HG.out.mono ?_); rintro e1 w1 ⟨rfl, hb1⟩))
    go_ret2
    exact HFIN.out _ hb1
end Go.Proofs.YtehgpnnfjgmiiaaGreat
end
section
namespace Go.Proofs.YtehgpnnfjgmiiaaGreat
open Go.Shelf Go.RowKit Go.Lib Go.Great
set_option maxRecDepth 100000
set_option maxHeartbeats 1000000
/-- A message: its numbers and ids, and what its two lists are as values. -/
structure Msg where
  kind : Int
  txn : Nat
  frm : List UInt8
  key : List UInt8
  vc : Value
  vr : Value
  hk : -9223372036854775808 ≤ kind ∧ kind ≤ 9223372036854775807
  ht : txn < 4294967296
  hf : frm.length = 20
  hy : key.length = 20
  oc : vc.oneCell' = true
  os : vr.oneCell' = true
def encM (m : Msg) : List Value := [.int .i64 m.kind, .int .u32 (m.txn : Int)] ++ (bcells m.frm ++ (bcells m.key ++ [m.vc, m.vr]))
theorem encM_length (m : Msg) : (encM m).length = 44 := by
  unfold encM
  simp only [List.length_append, bcells_length, m.hf, m.hy, List.length_cons, List.length_nil]
theorem size28m : (Tryz.prog.info? 28).map (·.size) = some 44 := by kernel_rfl
/-- The fields of a message in a block. -/
structure FldM (w : World) (g : Nat) (m : Msg) : Prop where
  kind : w.cell? ⟨g, 0, none⟩ = some (.int .i64 m.kind)
  txn : w.cell? ⟨g, 1, none⟩ = some (.int .u32 (m.txn : Int))
  frm : (loadVar 24 ⟨g, 2, none⟩).run Tryz.prog w = .ok (.agg (bcells m.frm).toArray) w
  key : (loadVar 24 ⟨g, 22, none⟩).run Tryz.prog w = .ok (.agg (bcells m.key).toArray) w
  con : w.cell? ⟨g, 42, none⟩ = some m.vc
  ros : w.cell? ⟨g, 43, none⟩ = some m.vr
  all : (loadVar 28 ⟨g, 0, none⟩).run Tryz.prog w = .ok (.agg (encM m).toArray) w
  frmR : w.rangeAt g 2 (bcells m.frm)
  keyR : w.rangeAt g 22 (bcells m.key)
theorem fldM {w : World} {g : Nat} {t : TypeId} {m : Msg} (h : w.heap[g]? = some (.cells (encM m).toArray t (0, 0))) : FldM w g m := by
  have hr : w.rangeAt g 0 (encM m) := row_range h
  have r1 : w.rangeAt g 2 (bcells m.frm ++ (bcells m.key ++ [m.vc, m.vr])) := by
    have := range_backI (a := [Value.int .i64 m.kind, .int .u32 (m.txn : Int)]) (show w.rangeAt g 0 _ from hr)
    simpa using this
  have r2 : w.rangeAt g 22 (bcells m.key ++ [m.vc, m.vr]) := by
    have := range_backI r1
    rwa [bcells_length, m.hf] at this
  have r3 : w.rangeAt g 42 [m.vc, m.vr] := by
    have := range_backI r2
    rwa [bcells_length, m.hy] at this
  refine ⟨?_, ?_, ?_, ?_, r3 0 _ rfl, r3 1 _ rfl, ?_, range_frontI r1, range_frontI r2⟩
  · have := hr 0 (.int .i64 m.kind) rfl
    simpa using this
  · have := hr 1 (.int .u32 (m.txn : Int)) rfl
    simpa using this
  · exact run_loadVar_mid w g 2 24 (bcells m.frm) _ (range_frontI r1) Tryz.underlying24 rfl (by rw [bcells_length, m.hf]; exact size23i)
  · exact run_loadVar_mid w g 22 24 (bcells m.key) _ (range_frontI r2) Tryz.underlying24 rfl (by rw [bcells_length, m.hy]; exact size23i)
  · exact run_loadVar_mid w g 0 28 (encM m) _ hr Tryz.underlying28 rfl (by rw [encM_length]; exact size28m)
theorem fldM_below {w W : World} {g B : Nat} {t : TypeId} {m : Msg} (h : w.heap[g]? = some (.cells (encM m).toArray t (0, 0))) (hb : Below B w W) (hg : g < B) : FldM W g m := fldM ((hb.block g hg).trans h)
/-- A slice of contacts, and of instances, as a value. -/
def ConV (w : World) (v : Value) (L : List Con) : Prop := ∃ A c, v = .slice A L.length c ∧ CAt w w.heap.size A L ∧ (A = none ∨ ∃ g off, A = some ⟨g, off, none⟩)
def InsV (w : World) (v : Value) (L : List Ins) : Prop := ∃ A c, v = .slice A L.length c ∧ IAt w w.heap.size A L
theorem ConV.below {w w' : World} {v : Value} {L : List Con} (h : ConV w v L) (hb : Below w.heap.size w w') : ConV w' v L := by
  obtain ⟨A, c, rfl, h1, h2⟩ := h
  exact ⟨A, c, rfl, (h1.below hb).more hb.size, h2⟩
theorem InsV.below {w w' : World} {v : Value} {L : List Ins} (h : InsV w v L) (hb : Below w.heap.size w w') : InsV w' v L := by
  obtain ⟨A, c, rfl, h1⟩ := h
  exact ⟨A, c, rfl, (h1.below hb).more hb.size⟩
theorem conV_nil (w : World) : ConV w (.slice none 0 0) [] := ⟨none, 0, rfl, .inl rfl, .inl rfl⟩
theorem insV_nil (w : World) : InsV w (.slice none 0 0) [] := ⟨none, 0, rfl, .inl rfl⟩
/-- A good message, plain. -/
def zero20 : List UInt8 := List.replicate 20 0
def goodM (k : Int) (y : List UInt8) (L : List Con) (R : List Ins) : Bool :=
  if k = 1 ∨ k = 5 then (y == zero20) && (decide (L.length = 0) && decide (R.length = 0))
  else if k = 2 ∨ k = 3 ∨ k = 8 ∨ k = 9 then decide (L.length = 0) && decide (R.length = 0)
  else if k = 6 then goodC (ctsC L) && decide (R.length = 0)
  else if k = 4 ∨ k = 7 then decide (L.length = 0) && (decide (0 < R.length) && goodR R)
  else false
end Go.Proofs.YtehgpnnfjgmiiaaGreat
end
