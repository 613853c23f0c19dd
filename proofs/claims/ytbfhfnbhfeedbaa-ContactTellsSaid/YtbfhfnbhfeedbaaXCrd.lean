/- Bytes, List and Without of the reference. Conditions: at most 10,000 contacts. -/
import Derived.Test.YtbfhfnbhfeedbaaXCra
import Derived.Test.YtbfhfnbhfeedbaaXCdn
import Derived.Test.YtbfhfnbhfeedbaaXCdp
namespace Go.Proofs.Ytbfhfnbhfeedbaa
open Go.Shelf Go.RowKit Go.Lib Go.Sort Go.Great
set_option maxRecDepth 100000
set_option maxHeartbeats 1000000
theorem run_build_noneB (w : World) : (Instr.buildSlice 22 0 #[]).run Try.prog w = .ok (.slice (some ⟨w.heap.size, 0, none⟩) 0 0) (w.alloc (.cells #[] 5)) := by kernel_rfl
theorem step_noneB {ops : Array Oper} {o : Oper} {a : Act} {w : World} {K : Act → World → Prop} {Q : Exit → Act → World → Prop} {E : Prop} (hgd : o.guard = none) (d : Nat) (hd : o.dst = some d) (ho : o.op = .buildSlice 22 0 #[])
    (h : K (a.put (some d) (.slice (some ⟨w.heap.size, 0, none⟩) 0 0)) (w.alloc (.cells #[] 5))) : if Region.wanted o (yielded ops a.tmps) = true then Oper.wp Try.prog o a w K Q else E := by
  have hw : Region.wanted o (yielded ops a.tmps) = true := by simp [Region.wanted, hgd]
  rw [if_pos hw]
  unfold Oper.wp execOp
  simp only [ho, List.map_toArray, List.map_nil, Sem.run_bind, run_build_noneB, Result.andThen_ok, Sem.run_pure]
  show K (a.put o.dst _) _
  rw [hd]
  exact h
theorem step_appB {ops : Array Oper} {o : Oper} {a : Act} {w : World} {K : Act → World → Prop} {Q : Exit → Act → World → Prop} {E : Prop} (hgd : o.guard = none) (d : Nat) (hd : o.dst = some d) (s x : Operand)
    (ho : o.op = .call { callee := .builtin .append, args := #[s, x], argTypes := #[22, 22] })
    (base : Nat) (v : Value) (L : List UInt8) (hs : a.eval s = v) (hown : w.ownsRow base 5 1 v L.length (bcells L)) (y : Value) (M : List UInt8) (hx : a.eval x = y) (hr : Src Try.prog 1 22 y M.length (bcells M) w) (h63 : L.length + M.length ≤ 10000000) (hbase : base ≤ w.heap.size)
    (h : ∀ v' w', w'.ownsRow base 5 1 v' (L ++ M).length (bcells (L ++ M)) → w.grownBy w' v.ownBlock → K (a.put (some d) v') w') :
    if Region.wanted o (yielded ops a.tmps) = true then Oper.wp Try.prog o a w K Q else E := by
  have hw : Region.wanted o (yielded ops a.tmps) = true := by simp [Region.wanted, hgd]
  rw [if_pos hw]
  obtain ⟨i0, hi, hz0, hz1, hz2⟩ := info5b
  obtain ⟨v', w', hrun, h2, h3, _⟩ := run_append_srcK w base 22 22 o.type 5 i0 _ 1 1 undBs hi hz0 hz1 hz2 rfl v L.length (bcells L) hown y M.length (bcells M) hr (by simp only [maxLen]; omega) (by omega) hbase
  unfold Oper.wp execOp
  simp only [ho, resolve, invoke, builtin, Sem.run_bind, Sem.run_pure, Result.andThen_ok, List.map_toArray, List.map_cons, List.map_nil, hs, hx, hrun]
  show K (a.put o.dst _) _
  rw [hd]
  refine h v' w' ?_ h3
  rw [List.length_append, bcells_app]
  exact h2
theorem below_ownB {B : Nat} {W0 w w' : World} {ob : Option Nat} (hb : Below B W0 w) (hBw : B ≤ w.heap.size) (hg : w.grownBy w' ob) (ho : ∀ k, ob = some k → B ≤ k) : Below B W0 w' :=
  ⟨hg.os.trans hb.os, hg.tape.trans hb.tape, hg.output.trans hb.output, Nat.le_trans hb.size hg.size, fun i hi => (hg.block i (by omega) (by intro e; have := ho i (by first | exact e | exact e.symm); omega)).trans (hb.block i hi)⟩
theorem ownNone {w : World} {base : Nat} (e size : TypeId) (hb : base ≤ w.heap.size) : (w.alloc (.cells #[] e)).ownsRow base e size (.slice (some ⟨w.heap.size, 0, none⟩) 0 0) 0 [] :=
  ⟨by simp, .inr ⟨w.heap.size, 0, #[], rfl, hb, heap_alloc_new w (.cells #[] e), Nat.le_refl _, by simp [maxLen], by simp, by simp⟩⟩
theorem rcbytes_any (c : Con) (w : World) : Calls Try.prog 36 #[.agg (encC c).toArray] w fun e w' => ∃ v, e = .returned v ∧ w'.ownsRow w.heap.size 5 1 v (ctB c.1).length (bcells (ctB c.1)) ∧ Below w.heap.size w w' := by
  obtain ⟨W0, hW0⟩ : ∃ W0, W0 = w.alloc (.cells (encC c).toArray 73) := ⟨_, rfl⟩
  have hb0 : Below w.heap.size w W0 := by rw [hW0]; exact (Below.refl _ w).alloc (Nat.le_refl _) _
  have h0 : W0.heap[w.heap.size]? = some (.cells (encC c).toArray 73 (0, 0)) := by rw [hW0]; exact heap_alloc_new w _
  have hl0 : w.heap.size < W0.heap.size := (Array.getElem?_eq_some_iff.1 h0).1
  have hid := c.2.id
  have HA : Hid (∀ W, Below W0.heap.size W0 W → Src Try.prog 1 22 (.slice (some ⟨w.heap.size, 0, none⟩) 20 20) c.1.1.length (bcells c.1.1) W) := Lib.hid (fun W hW => by
    have : BAt W W.heap.size (some ⟨w.heap.size, 0, none⟩) c.1.1 := .inr ⟨w.heap.size, 0, rfl, Nat.lt_of_lt_of_le hl0 hW.size, fun j hj => by
      have h1 : W.rangeAt w.heap.size 0 (encC c) := row_range ((hW.block _ hl0).trans h0)
      rw [encC_id] at h1
      have h2 := range_front h1
      exact h2 j _ (show (bcells c.1.1)[j]? = _ from bcells_get c.1.1 j hj)⟩
    have h := this.srcB 20
    rwa [show (Value.slice (some ⟨w.heap.size, 0, none⟩) c.1.1.length 20) = .slice (some ⟨w.heap.size, 0, none⟩) 20 20 by rw [hid]] at h)
  have HK : Hid (∀ W, Below W0.heap.size W0 W → (loadVar 71 ⟨w.heap.size, 20, none⟩).run Try.prog W = .ok (.agg (adr c.1.2.1 c.1.2.2)) W) := Lib.hid (fun W hW => by
    have := load71 (range_adr (row_range ((hW.block _ hl0).trans h0)))
    rwa [Nat.zero_add] at this)
  have H1 : Hid (∀ W v, Below W0.heap.size W0 W → W.ownsRow W0.heap.size 5 1 v ([] ++ c.1.1).length (bcells ([] ++ c.1.1)) → Calls Try.prog 66 #[.agg (adr c.1.2.1 c.1.2.2)] W fun e w' => ∃ u, e = .returned u ∧ Below W0.heap.size W0 w' ∧ w'.ownsRow W0.heap.size 5 1 v ([] ++ c.1.1).length (bcells ([] ++ c.1.1)) ∧ Src Try.prog 1 22 u (adB c.1.2.1 c.1.2.2).length (bcells (adB c.1.2.1 c.1.2.2)) w') := by
    refine Lib.hid (fun W v hW ho => (rbytes_any c.1.2.1 c.1.2.2 c.2.hh c.2.hp W).mono ?_)
    rintro e w' ⟨u, rfl, ⟨A, k, rfl, _, hA⟩, hb⟩
    exact ⟨_, rfl, hW.trans (hb.mono hW.size), own_belC ho hb, hA.srcB k⟩
  have HLE : Hid (([] : List UInt8).length + c.1.1.length ≤ 10000000 ∧ ([] ++ c.1.1).length + (adB c.1.2.1 c.1.2.2).length ≤ 10000000) := Lib.hid (by rw [adB_length, List.nil_append, hid]; simp)
  have HFIN : Hid (∀ v w', w'.ownsRow W0.heap.size 5 1 v ([] ++ c.1.1 ++ adB c.1.2.1 c.1.2.2).length (bcells ([] ++ c.1.1 ++ adB c.1.2.1 c.1.2.2)) → Below W0.heap.size W0 w' → w'.ownsRow w.heap.size 5 1 v (ctB c.1).length (bcells (ctB c.1)) ∧ Below w.heap.size w w') := Lib.hid (fun v w' h1 h2 => ⟨own_baseC h1 hb0.size, hb0.trans (h2.mono hb0.size)⟩)
  have HW := Lib.hid hW0
  generalize adr c.1.2.1 c.1.2.2 = AD at HK H1
  generalize (encC c).toArray = X at HW ⊢
  generalize adB c.1.2.1 c.1.2.2 = AB at *
  generalize hCI : c.1.1 = CI at *
  clear h0 hl0 hb0 hW0 hid hCI
  go_enter Try.func36, Try.ntmps36
  go_upto_region 1 with fail
  rw [← HW.out]
  clear HW
  have hS0 : Below W0.heap.size W0 W0.drew := (Below.refl _ W0).drew
  refine wp_region_noPanic ?_
  refine wp_region_held_drew (S := fun w' => Below W0.heap.size W0 w') (by kernel_rfl) hS0 (fun hHeld => ?_)
  refine takeH_at 1 4 (v := ?_) rfl rfl (by kernel_rfl) (by kernel_rfl) (by kernel_rfl) (fun _ _ _ h => h) (Or.inl ⟨by rfl, ?_⟩) (by assumption) ?_
  rotate_left
  · (intro wx hSw; clear hSw; go_simp) <;> with_reducible rfl
  simp only [Act.put, List.setIfInBounds_toArray, List.set_cons_zero, List.set_cons_succ]
  refine takeH_at 2 5 (v := ?_) rfl rfl (by kernel_rfl) (by kernel_rfl) (by kernel_rfl) (fun _ _ _ h => h) (Or.inl ⟨by rfl, ?_⟩) (by assumption) ?_
  rotate_left
  · (intro wx hSw; clear hSw; go_simp) <;> with_reducible rfl
  simp only [Act.put, List.setIfInBounds_toArray, List.set_cons_zero, List.set_cons_succ]
  refine takeH_at 4 7 (v := ?_) rfl rfl (by kernel_rfl) (by kernel_rfl) (by kernel_rfl) (fun _ _ _ h => h) (Or.inl ⟨by rfl, ?_⟩) (by assumption) ?_
  rotate_left
  · (intro wx hSw; clear hSw; go_simp) <;> with_reducible rfl
  simp only [Act.put, List.setIfInBounds_toArray, List.set_cons_zero, List.set_cons_succ]
  refine takeH_at 5 8 (v := .agg AD) rfl rfl (by kernel_rfl) (by kernel_rfl) (by kernel_rfl) (fun _ _ _ h => h) (yieldsIf_loadP (by rfl) 71 (.tmp 7) rfl ⟨w.heap.size, 20, none⟩ rfl _ (fun w hw => HK.out w hw)) (by assumption) ?_
  simp only [Act.put, List.setIfInBounds_toArray, List.set_cons_zero, List.set_cons_succ]
  refine wpAnyH_ready (rs := [0]) (by kernel_rfl) (by simp) (AllReadyH.cons rfl (fun K hK => ?_) AllReadyH.nil)
  refine step_noneB rfl 3 rfl rfl ?_
  have hb4 : Below W0.heap.size W0 (W0.drew.alloc (.cells #[] 5)) := hS0.alloc hS0.size _
  have HO4 : Hid ((W0.drew.alloc (.cells #[] 5)).ownsRow W0.heap.size 5 1 (.slice (some ⟨W0.drew.heap.size, 0, none⟩) 0 0) ([] : List UInt8).length (bcells [])) := Lib.hid (ownNone 5 1 hS0.size)
  refine hK.out _ _ hb4 (fun _ => ?_)
  clear hK K
  simp only [Act.put, List.setIfInBounds_toArray, List.set_cons_zero, List.set_cons_succ]
  refine wpAnyH_ready (rs := [3]) (by kernel_rfl) (by simp) (AllReadyH.cons rfl (fun K hK => ?_) AllReadyH.nil)
  refine step_appB rfl 6 rfl (.tmp 3) (.tmp 5) rfl W0.heap.size _ [] rfl HO4.out _ CI rfl (HA.out _ hb4) HLE.out.1 hb4.size ?_
  intro v5 w5 ho5 hg5
  have hb5 := below_ownB hb4 hb4.size hg5 (fun k hk => (HO4.out.lt k hk).1)
  refine hK.out _ _ hb5 (fun _ => ?_)
  clear hK K
  simp only [Act.put, List.setIfInBounds_toArray, List.set_cons_zero, List.set_cons_succ]
  refine wpAnyH_ready (rs := [6]) (by kernel_rfl) (by simp) (AllReadyH.cons rfl (fun K hK => ?_) AllReadyH.nil)
  go_simp
  go_wp2_with (go_at_call 66; (with_reducible refine (H1.out _ _ hb5 ho5).mono ?_); rintro e w6 ⟨u6, rfl, hb6, ho6, hs6⟩)
  refine hK.out _ _ hb6 (fun _ => ?_)
  clear hK K
  (try simp only [Act.put, List.setIfInBounds_toArray, List.set_cons_zero, List.set_cons_succ])
  refine wpAnyH_ready (rs := [7]) (by kernel_rfl) (by simp) (AllReadyH.cons rfl (fun K hK => ?_) AllReadyH.nil)
  refine step_appB rfl 10 rfl (.tmp 6) (.tmp 9) rfl W0.heap.size _ _ rfl ho6 _ AB rfl hs6 HLE.out.2 hb6.size ?_
  intro v7 w7 ho7 hg7
  have hb7 := below_ownB hb6 hb6.size hg7 (fun k hk => (ho6.lt k hk).1)
  refine hK.out _ _ hb7 (fun _ => ?_)
  clear hK K
  simp only [Act.put, List.setIfInBounds_toArray, List.set_cons_zero, List.set_cons_succ]
  refine takeH_at 8 2 (v := ?_) rfl rfl (by kernel_rfl) (by kernel_rfl) (by kernel_rfl) (fun _ _ _ h => h) (Or.inl ⟨by rfl, ?_⟩) (by assumption) ?_
  rotate_left
  · (intro wx hSw; clear hSw; go_simp) <;> with_reducible rfl
  simp only [Act.put, List.setIfInBounds_toArray, List.set_cons_zero, List.set_cons_succ]
  refine wpAnyH_done (by kernel_rfl) ?_ _
  refine NoPanic.normal ?_
  have HF := Lib.hid (HFIN.out v7 w7 ho7 hb7)
  clear hHeld hb4 hb5 hb6 hb7 ho5 ho6 ho7 hg5 hg7 hs6 HA HK H1 HO4 HFIN hS0
  go_wp2
  go_ret
  exact ⟨_, rfl, HF.out⟩
theorem run_build_byte (n : Nat) (hn : n < 256) (w : World) : (Instr.buildSlice 22 1 #[(0, .int .u8 (n : Int))]).run Try.prog w = .ok (.slice (some ⟨w.heap.size, 0, none⟩) 1 1) (w.alloc (.cells #[.int .u8 (n : Int)] 5)) := by kernel_rfl
theorem rclist_any (A : Option Addr) (c : Nat) (L : List Con) (w : World) (hL : L.length ≤ 10000) (hA : CAt w w.heap.size A L) : Calls Try.prog 31 #[.slice A L.length c] w (LstC w L) := by
  have HG := Lib.hid (rgoodlist_any A c L w hL hA)
  by_cases hg : goodC (ctsC L) = true
  · have h64 : L.length ≤ 64 := by have := goodC_len hg; unfold ctsC at this; simpa using this
    rw [hg] at HG
    have HFIN : Hid (∀ (v : Value) (w' : World), w'.ownsRow w.heap.size 5 1 v ([UInt8.ofNat L.length] ++ flatC (ctsC (L.take L.length))).length (bcells ([UInt8.ofNat L.length] ++ flatC (ctsC (L.take L.length)))) → Below w.heap.size w w' → LstC w L (.returned (.tuple #[v, .int .i64 0])) w') := by
      refine Lib.hid (fun v w' ho hb => ⟨v, by rw [hg]; rfl, ?_, hb⟩)
      rw [hg]
      rw [List.take_length] at ho
      have e : listC (ctsC L) = [UInt8.ofNat L.length] ++ flatC (ctsC L) := by unfold listC; rw [show (ctsC L).length = L.length by unfold ctsC; simp]; rfl
      simp only [if_true]
      rw [e]
      exact ho
    have HST : Hid (∀ (W : World), Below w.heap.size w W → (W.alloc (.cells #[.int .u8 (L.length : Int)] 5)).ownsRow w.heap.size 5 1 (.slice (some ⟨W.heap.size, 0, none⟩) 1 1) ([UInt8.ofNat L.length] ++ flatC (ctsC (L.take 0))).length (bcells ([UInt8.ofNat L.length] ++ flatC (ctsC (L.take 0)))) ∧ Below w.heap.size w (W.alloc (.cells #[.int .u8 (L.length : Int)] 5))) := by
      refine Lib.hid (fun W hW => ⟨?_, hW.alloc hW.size _⟩)
      have e1 : bcells ([UInt8.ofNat L.length] ++ flatC (ctsC (L.take 0))) = [.int .u8 (L.length : Int)] := by
        have : (UInt8.ofNat L.length).toNat = L.length := by rw [UInt8.toNat_ofNat']; omega
        simp [flatC, ctsC, bcells, this]
      rw [e1]
      refine ⟨by simp [flatC, ctsC], .inr ⟨W.heap.size, 1, #[.int .u8 (L.length : Int)], by simp [flatC, ctsC], hW.size, heap_alloc_new W _, by simp [flatC, ctsC], by simp [maxLen], by simp, by simp [flatC, ctsC]⟩⟩
    have HRW : Hid (∀ j (hj : j < L.length) (v : Value) (wr : World), wr.ownsRow w.heap.size 5 1 v ([UInt8.ofNat L.length] ++ flatC (ctsC (L.take j))).length (bcells ([UInt8.ofNat L.length] ++ flatC (ctsC (L.take j)))) → Below w.heap.size w wr →
        (∃ g off, A = some ⟨g, off, none⟩ ∧ (loadVar 73 ⟨g, off + j * 22, none⟩).run Try.prog wr = .ok (.agg (encC L[j]).toArray) wr) ∧
        Calls Try.prog 36 #[.agg (encC L[j]).toArray] wr fun e w2 => ∃ A2 k2, e = .returned (.slice A2 26 k2) ∧ Below w.heap.size w w2 ∧ w2.ownsRow w.heap.size 5 1 v ([UInt8.ofNat L.length] ++ flatC (ctsC (L.take j))).length (bcells ([UInt8.ofNat L.length] ++ flatC (ctsC (L.take j)))) ∧ Src Try.prog 1 22 (.slice A2 26 k2) (ctB L[j].1).length (bcells (ctB L[j].1)) w2) := by
      refine Lib.hid (fun j hj v wr ho hb => ⟨?_, ?_⟩)
      · obtain ⟨g, off, rfl, hgl, hr⟩ := (hA.below hb).some_ (by omega)
        exact ⟨g, off, rfl, load73 (range_elem hr j hj)⟩
      · refine (rcbytes_any L[j] wr).mono ?_
        rintro e w2 ⟨v2, rfl, ho2, hb2⟩
        obtain ⟨A2, k2, rfl, hbat, _⟩ := own_bat ho2
        have hl : (ctB L[j].1).length = 26 := ctB_length L[j].2.id
        refine ⟨A2, k2, by rw [hl], hb.trans (hb2.mono hb.size), own_belC ho hb2, ?_⟩
        have := hbat.srcB k2
        rw [hl] at this ⊢
        exact this
    have HLEN : Hid (∀ j, j ≤ L.length → ([UInt8.ofNat L.length] ++ flatC (ctsC (L.take j))).length + 26 ≤ 10000000) := Lib.hid (fun j hj => by rw [List.length_append, flatC_len, List.length_singleton, List.length_take]; omega)
    have HNX : Hid (∀ j (hj : j < L.length), [UInt8.ofNat L.length] ++ flatC (ctsC (L.take (j + 1))) = [UInt8.ofNat L.length] ++ flatC (ctsC (L.take j)) ++ ctB L[j].1) := Lib.hid (fun j hj => by rw [flatC_take L j hj, List.append_assoc])
    obtain ⟨n, hn⟩ : ∃ n, n = L.length := ⟨_, rfl⟩
    have HN : Hid (n = L.length) := Lib.hid hn
    rw [← hn] at HG h64 HST ⊢
    have hwr : IntKind.u8.wrap (n : Int) = (n : Int) := by simp only [IntKind.wrap, IntKind.bits, IntKind.signed]; simp; omega
    clear hA hL hn
    go_enter Try.func31, Try.ntmps31
    go_upto_region 5 with (first
      | (go_at_call 54; (with_reducible refine HG.out.mono ?_); rintro e1 w1 ⟨rfl, hb1⟩))
    obtain ⟨ho2, hb2⟩ := HST.out w1 hb1
    generalize w1.alloc (.cells #[.int .u8 (n : Int)] 5) = w2 at ho2 hb2 ⊢
    have HO2 := Lib.hid ho2
    have HB2 := Lib.hid hb2
    clear ho2 hb2 hb1 HG HST hwr
    go_loopg [4, 5] n (fun kx s4 s5 wr => ∃ (j : Nat), j ≤ n ∧ n - j ≤ kx ∧ s5 = .int .i64 (j : Int) ∧ wr.ownsRow w.heap.size 5 1 s4 ([UInt8.ofNat n] ++ flatC (ctsC (L.take j))).length (bcells ([UInt8.ofNat n] ++ flatC (ctsC (L.take j)))) ∧ Below w.heap.size w wr)
    case atStart => exact ⟨0, by omega, by omega, rfl, HO2.out, HB2.out⟩
    case round =>
      obtain ⟨j, hj, hkx, rfl, ho, hb⟩ := hrel
      clear HO2 HB2
      by_cases hlt : j < n
      · have hlt' : (j : Int) < (n : Int) := by omega
        have hlL : j < L.length := by rw [← HN.out]; exact hlt
        rw [HN.out] at ho
        obtain ⟨A4, c4, hv4, _⟩ := own_bat ho
        obtain ⟨lb, hlb⟩ : ∃ lb, lb = ([UInt8.ofNat L.length] ++ flatC (ctsC (L.take j))).length := ⟨_, rfl⟩
        rw [← hlb] at hv4
        clear hlb
        subst hv4
        obtain ⟨⟨g, off, rfl, hld⟩, hcall⟩ := HRW.out j hlL _ wr ho hb
        have HLD := Lib.hid hld
        have HCA := Lib.hid hcall
        have hl : (ctB L[j].1).length = 26 := ctB_length L[j].2.id
        have HLE : Hid (([UInt8.ofNat L.length] ++ flatC (ctsC (L.take j))).length + (ctB L[j].1).length ≤ 10000000) := Lib.hid (by rw [hl]; exact HLEN.out j (by omega))
        have HNJ := Lib.hid (HNX.out j hlL)
        have HR : Hid (∀ v' w2 w', w2.ownsRow w.heap.size 5 1 (.slice A4 lb c4) ([UInt8.ofNat L.length] ++ flatC (ctsC (L.take j))).length (bcells ([UInt8.ofNat L.length] ++ flatC (ctsC (L.take j)))) → Below w.heap.size w w2 → w'.ownsRow w.heap.size 5 1 v' ([UInt8.ofNat L.length] ++ flatC (ctsC (L.take j)) ++ ctB L[j].1).length (bcells ([UInt8.ofNat L.length] ++ flatC (ctsC (L.take j)) ++ ctB L[j].1)) → w2.grownBy w' (Value.slice A4 lb c4).ownBlock → w'.ownsRow w.heap.size 5 1 v' ([UInt8.ofNat n] ++ flatC (ctsC (L.take (j + 1)))).length (bcells ([UInt8.ofNat n] ++ flatC (ctsC (L.take (j + 1))))) ∧ Below w.heap.size w w') := Lib.hid (fun v' w2 w' h0 hb2 h1 h2 => by
          rw [HN.out, HNJ.out]
          exact ⟨h1, below_own hb2 h2 (fun q hq => (h0.lt q hq).1)⟩)
        obtain ⟨cv, hcv⟩ : ∃ cv : Con, cv = L[j] := ⟨_, rfl⟩
        rw [← hcv] at HLD HCA HLE HR
        clear hld hcall ho hb hl hcv HNJ
        generalize [UInt8.ofNat L.length] ++ flatC (ctsC (L.take j)) = bs at HLD HCA HLE HR ⊢
        go_wp2_with (first
          | ((with_reducible refine wpList_loadV (op := ⟨some 23, _, _, _, _, _⟩) rfl 73 (.tmp 22) rfl _ ?_ _ HLD.out ?_); rfl)
          | (go_at_call 36; (with_reducible refine HCA.out.mono ?_); rintro e3 w3 ⟨A3, k3, rfl, hb3, ho3, hs3⟩)
          | (refine wpList_append_bytes rfl (.tmp 19) (.tmp 24) rfl w.heap.size _ bs rfl ho3 _ (ctB cv.1) rfl hs3 HLE.out hb3.size ?_; intro v5 w5 ho5 hg5))
        go_roundg (n - (j + 1))
        case measure => omega
        case rel => exact ⟨j + 1, by omega, Nat.le_refl _, by go_num, (HR.out _ _ _ ho3 hb3 ho5 hg5).1, (HR.out _ _ _ ho3 hb3 ho5 hg5).2⟩
      · obtain rfl : j = n := by omega
        have HF := Lib.hid (HFIN.out _ wr (by rw [← HN.out]; exact ho) hb)
        obtain ⟨A4, c4, rfl, _⟩ := own_bat ho
        clear ho hb HFIN
        generalize ([UInt8.ofNat j] ++ flatC (ctsC (L.take j))).length = lb at *
        go_wp2
        go_ret2
        exact HF.out
  · have hg' : goodC (ctsC L) = false := by cases h : goodC (ctsC L) with | true => exact absurd h hg | false => rfl
    rw [hg'] at HG
    have HFIN : Hid (∀ w', Below w.heap.size w w' → LstC w L (.returned (.tuple #[.slice none 0 0, .int .i64 2])) w') := Lib.hid (fun w' hb => ⟨_, by rw [hg']; rfl, by rw [hg']; exact ⟨by simp [bcells], .inl ⟨rfl, rfl⟩⟩, hb⟩)
    generalize L.length = n at *
    clear hA
    go_enter Try.func31, Try.ntmps31
    go_wp2_with (first | (go_at_call 54; (with_reducible refine HG.out.mono ?_); rintro e1 w1 ⟨rfl, hb1⟩))
    go_ret2
    exact HFIN.out _ hb1
def RwRel (W0 : World) (L : List Con) (t : IDv) (s5 s6 : Value) (wr : World) : Prop := ∃ j : Nat, j ≤ L.length ∧ s6 = .int .i64 (j : Int) ∧ wr.ownsRow W0.heap.size 73 22 s5 (keepC (isC t) (L.take j)).length (flatE encC (keepC (isC t) (L.take j))) ∧ Below W0.heap.size W0 wr
theorem keepC_le (p : Con → Bool) (L : List Con) : (keepC p L).length ≤ L.length := List.length_filter_le _ _
theorem rcwithout_any (t : IDv) (A : Option Addr) (c : Nat) (L : List Con) (w : World) (hL : L.length ≤ 10000) (hA : CAt w w.heap.size A L) :
    Calls Try.prog 43 #[.slice A L.length c, .agg (encID t).toArray] w fun e w' => ∃ v, e = .returned v ∧ w'.ownsRow w.heap.size 73 22 v (keepC (isC t) L).length (flatE encC (keepC (isC t) L)) ∧ Below w.heap.size w w' := by
  obtain ⟨X, hX⟩ : ∃ X, X = (encID t).toArray := ⟨_, rfl⟩
  have hb0 : Below w.heap.size w (w.alloc (.cells X 64)) := (Below.refl _ w).alloc (Nat.le_refl _) _
  obtain ⟨W0, hW0⟩ : ∃ W0, W0 = w.alloc (.cells X 64) := ⟨_, rfl⟩
  have h0 := heap_alloc_new w (.cells X 64)
  rw [← hW0] at hb0 h0
  have HA := Lib.hid ((hA.below hb0).more hb0.size)
  have HB0 := Lib.hid hb0
  have HW := Lib.hid hW0
  have HH : Hid (W0.heap[w.heap.size]? = some (.cells (encID t).toArray 64 (0, 0))) := Lib.hid (by rw [← hX]; exact h0)
  have HX := Lib.hid hX
  have R0 : Hid (RwRel W0 L t (.slice none 0 0) (.int .i64 0) W0) := Lib.hid ⟨0, by omega, rfl, World.ownsRow_nil W0 _ 73 22, Below.refl _ _⟩
  have HEND : Hid (∀ (s : Value) (wr : World), wr.ownsRow W0.heap.size 73 22 s (keepC (isC t) (L.take L.length)).length (flatE encC (keepC (isC t) (L.take L.length))) → Below W0.heap.size W0 wr → wr.ownsRow w.heap.size 73 22 s (keepC (isC t) L).length (flatE encC (keepC (isC t) L)) ∧ Below w.heap.size w wr) := Lib.hid (fun s wr h hb => by
    rw [List.take_length] at h
    exact ⟨own_baseC h HB0.out.size, HB0.out.trans (hb.mono HB0.out.size)⟩)
  rw [← hX]
  obtain ⟨n, hn⟩ : ∃ n, n = L.length := ⟨_, rfl⟩
  rw [← hn] at hL HEND ⊢
  have HN := Lib.hid hn
  clear hA hX hb0 h0 hW0 hn
  go_enter Try.func43, Try.ntmps43
  go_upto_region 3 with fail
  rw [← HW.out]
  go_loopw [5, 6] (RwRel W0 L t) (fun _ i _ => n - (RowKit.intOf i).toNat)
  case atStart => exact R0.out
  case round =>
    obtain ⟨j, hj, rfl, ho, hb⟩ := hrel
    clear R0
    have HB := Lib.hid hb
    have HO := Lib.hid ho
    by_cases hlt : j < n
    · have hjL : j < L.length := by have := HN.out; omega
      obtain ⟨g, off, rfl, hg, hr⟩ := (HA.out.below hb).some_ (by omega)
      obtain ⟨x, hx⟩ : ∃ x, L[j]'hjL = x := ⟨_, rfl⟩
      have hre := range_elem hr j hjL
      rw [hx] at hre
      have hgr : g < wr.heap.size := Nat.lt_of_lt_of_le hg hb.size
      have HLY := Lib.hid (kept_range hgr (range_idC hre))
      have HLZ : Hid (∀ W, Below wr.heap.size wr W → (loadVar 73 ⟨g, off + j * 22, none⟩).run Try.prog W = .ok (.agg (encC x).toArray) W) := Lib.hid (fun W hW => load73 (range_keep hre (hW.block g hgr)))
      have hgx : w.heap.size < W0.heap.size := (Array.getElem?_eq_some_iff.1 HH.out).1
      have hLX := kept_range (Nat.lt_of_lt_of_le hgx hb.size) (range_keep (row_range HH.out) (hb.block _ hgx))
      rw [← HX.out] at hLX
      have HLX := Lib.hid hLX
      have hE := fun W => eq64 (idC x).val t.val (idC x).property t.property W
      change ∀ W, (Op.equalIn 10000 64 (.agg (encID (idC x)).toArray) (.agg (encID t).toArray)).run Try.prog W = .ok (isC t x) W at hE
      rw [← HX.out] at hE
      have HKS : Hid (keepC (isC t) (L.take (j + 1)) = if isC t x = true then keepC (isC t) (L.take j) else keepC (isC t) (L.take j) ++ [x]) := Lib.hid (by
        have := keepC_snoc (isC t) L j hjL
        rw [hx] at this
        exact this)
      have HLE : Hid ((keepC (isC t) (L.take j)).length + [x].length ≤ 1000000) := Lib.hid (by have := keepC_le (isC t) (L.take j); rw [List.length_take] at this; simp; omega)
      clear hr hg hgx hLX hb hx hre hgr ho hjL
      generalize (encID (idC x)).toArray = y at hE HLY
      by_cases hxy : isC t x = true
      · rw [hxy] at hE
        have HS : Hid (∀ wk, Below wr.heap.size wr wk → RwRel W0 L t u5 (.int .i64 ((j : Int) + 1)) wk) := Lib.hid (fun wk hk => ⟨j + 1, by have := HN.out; omega, by go_num, by rw [HKS.out, if_pos hxy]; exact own_belC HO.out hk, HB.out.trans (hk.mono HB.out.size)⟩)
        clear hxy HKS
        go_upto_region 5 with fail
        refine wp_region_kept wr.heap.size wr (Below.refl _ _) (by kernel_rfl) (by kernel_rfl) ?_
        repeat (first
          | (go_big_quiet_want; (with_reducible refine quiet_loadV 64 (.tmp 3) rfl _ ?_ _ HLX.out ?_); rfl; simp only [Act.put, List.setIfInBounds_toArray, List.set_cons_zero, List.set_cons_succ]; go_big_quiet_on)
          | (go_big_quiet_want; (with_reducible refine quiet_loadV 64 (.tmp 16) rfl _ ?_ _ HLY.out ?_); rfl; simp only [Act.put, List.setIfInBounds_toArray, List.set_cons_zero, List.set_cons_succ]; go_big_quiet_on)
          | go_big_quiet_step (fail))
        refine wpQuiet_nil ?_
        rintro wk ⟨⟨_, hwk⟩, rfl⟩
        have HREL := Lib.hid (HS.out wk hwk)
        clear hwk HLX HLY HB HO HS
        go_wp2
        go_roundw
        case rel => exact HREL.out
        case measure => simp [RowKit.intOf]; omega
      · have hxy' : isC t x = false := by cases h : isC t x with | true => exact absurd h hxy | false => rfl
        rw [hxy'] at hE
        have HS : Hid (∀ (wk : World) (v : Value) (w' : World), Below wr.heap.size wr wk → w'.ownsRow W0.heap.size 73 22 v (keepC (isC t) (L.take j) ++ [x]).length (flatE encC (keepC (isC t) (L.take j) ++ [x])) → (wk.alloc (.cells (encC x).toArray 73)).grownBy w' u5.ownBlock → RwRel W0 L t v (.int .i64 ((j : Int) + 1)) w') := Lib.hid (fun wk v w' hk h1 h2 => by
          have hk2 : Below wr.heap.size wr (wk.alloc (.cells (encC x).toArray 73)) := hk.alloc hk.size _
          have hk3 := HB.out.trans (hk2.mono HB.out.size)
          exact ⟨j + 1, by have := HN.out; omega, by go_num, by rw [HKS.out, if_neg hxy]; exact h1, below_ownB hk3 hk3.size h2 (fun k hk => (HO.out.lt k hk).1)⟩)
        have HOW : Hid (∀ wk, Below wr.heap.size wr wk → (wk.alloc (.cells (encC x).toArray 73)).ownsRow W0.heap.size 73 22 u5 (keepC (isC t) (L.take j)).length (flatE encC (keepC (isC t) (L.take j))) ∧ W0.heap.size ≤ (wk.alloc (.cells (encC x).toArray 73)).heap.size) := Lib.hid (fun wk hk => by
          have hk2 : Below wr.heap.size wr (wk.alloc (.cells (encC x).toArray 73)) := hk.alloc hk.size _
          exact ⟨own_belC HO.out hk2, Nat.le_trans HB.out.size hk2.size⟩)
        clear hxy hxy' HKS
        go_upto_region 5 with fail
        refine wp_region_kept wr.heap.size wr (Below.refl _ _) (by kernel_rfl) (by kernel_rfl) ?_
        repeat (first
          | (go_big_quiet_want; (with_reducible refine quiet_loadV 64 (.tmp 3) rfl _ ?_ _ HLX.out ?_); rfl; simp only [Act.put, List.setIfInBounds_toArray, List.set_cons_zero, List.set_cons_succ]; go_big_quiet_on)
          | (go_big_quiet_want; (with_reducible refine quiet_loadV 64 (.tmp 16) rfl _ ?_ _ HLY.out ?_); rfl; simp only [Act.put, List.setIfInBounds_toArray, List.set_cons_zero, List.set_cons_succ]; go_big_quiet_on)
          | go_big_quiet_step (fail))
        refine wpQuiet_nil ?_
        rintro wk ⟨⟨_, hwk⟩, rfl⟩
        have HLZ2 := Lib.hid (HLZ.out wk hwk)
        have HOW2 := Lib.hid (HOW.out wk hwk)
        have HS2 := Lib.hid (fun v w' => HS.out wk v w' hwk)
        clear hwk HLX HLY HB HO HS HLZ HOW
        go_wp2_with (first
          | ((with_reducible refine wpList_loadV (op := ⟨some 24, _, _, _, _, _⟩) rfl 73 (.tmp 23) rfl _ ?_ _ HLZ2.out ?_); rfl)
          | ((with_reducible refine wpList_build_oneC conR x (o := ⟨some 25, _, _, _, _, _⟩) rfl (.tmp 24) rfl ?_ ?_); rfl)
          | (refine wpList_append_con conR rfl (.tmp 20) (.tmp 25) rfl W0.heap.size _ (keepC (isC t) (L.take j)) [x] rfl HOW2.out.1 _ rfl (src_newC conR x wk) HLE.out HOW2.out.2 ?_; intro v5 w5 ho5 hg5))
        go_roundw
        case rel => exact HS2.out _ _ ho5 hg5
        case measure => simp [RowKit.intOf]; omega
    · obtain rfl : j = n := by have := HN.out; omega
      have HF := Lib.hid (HEND.out _ _ ho hb)
      clear ho hb HO HB
      go_wp2
      go_ret
      exact ⟨_, rfl, HF.out⟩
end Go.Proofs.Ytbfhfnbhfeedbaa
