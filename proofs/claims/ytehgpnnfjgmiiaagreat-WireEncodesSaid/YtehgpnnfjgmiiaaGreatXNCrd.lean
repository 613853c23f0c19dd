/- Bytes, List and Without of the reference. Conditions: at most 10,000 contacts. Contract of Read of package contact. Conditions: at most 900,000 bytes. -/
import Derived.Test.YtehgpnnfjgmiiaaGreatXOja
import Derived.Test.YtehgpnnfjgmiiaaGreatXOgb
import Derived.Test.YtehgpnnfjgmiiaaGreatXIiv
import Derived.Test.YtehgpnnfjgmiiaaGreatXWab
import Derived.Test.YtehgpnnfjgmiiaaGreatXObc
import Derived.Test.YtehgpnnfjgmiiaaGreatXOaa
import Derived.Test.YtehgpnnfjgmiiaaGreatXROcc
import Derived.Test.YtehgpnnfjgmiiaaGreatXRERefc
import Derived.Test.YtehgpnnfjgmiiaaGreatXRIip
import Derived.Test.YtehgpnnfjgmiiaaGreatXREMathb
import Derived.Test.YtehgpnnfjgmiiaaGreatXWal
import Derived.Test.YtehgpnnfjgmiiaaGreatXNCdm
import Derived.Test.YtehgpnnfjgmiiaaGreatXWaa
section
namespace Go.Proofs.YtehgpnnfjgmiiaaGreat
open Go.Shelf Go.RowKit Go.Lib Go.Sort Go.Great
set_option maxRecDepth 100000
set_option maxHeartbeats 1000000
theorem step_noneB {ops : Array Oper} {o : Oper} {a : Act} {w : World} {K : Act → World → Prop} {Q : Exit → Act → World → Prop} {E : Prop} (hgd : o.guard = none) (d : Nat) (hd : o.dst = some d) (ho : o.op = .buildSlice 31 0 #[])
    (h : K (a.put (some d) (.slice (some ⟨w.heap.size, 0, none⟩) 0 0)) (w.alloc (.cells #[] 5))) : if Region.wanted o (yielded ops a.tmps) = true then Oper.wp Tryz.prog o a w K Q else E := by
  have hw : Region.wanted o (yielded ops a.tmps) = true := by simp [Region.wanted, hgd]
  rw [if_pos hw]
  unfold Oper.wp execOp
  simp only [ho, List.map_toArray, List.map_nil, Sem.run_bind, run_build_noneB, Result.andThen_ok, Sem.run_pure]
  show K (a.put o.dst _) _
  rw [hd]
  exact h
theorem rcbytes_any (c : Con) (w : World) : Calls Tryz.prog 55 #[.agg (encC c).toArray] w fun e w' => ∃ v, e = .returned v ∧ w'.ownsRow w.heap.size 5 1 v (ctB c.1).length (bcells (ctB c.1)) ∧ Below w.heap.size w w' := by
  obtain ⟨W0, hW0⟩ : ∃ W0, W0 = w.alloc (.cells (encC c).toArray 90) := ⟨_, rfl⟩
  have hb0 : Below w.heap.size w W0 := by rw [hW0]; exact (Below.refl _ w).alloc (Nat.le_refl _) _
  have h0 : W0.heap[w.heap.size]? = some (.cells (encC c).toArray 90 (0, 0)) := by rw [hW0]; exact heap_alloc_new w _
  have hl0 : w.heap.size < W0.heap.size := (Array.getElem?_eq_some_iff.1 h0).1
  have hid := c.2.id
  have HA : Hid (∀ W, Below W0.heap.size W0 W → Src Tryz.prog 1 31 (.slice (some ⟨w.heap.size, 0, none⟩) 20 20) c.1.1.length (bcells c.1.1) W) := Lib.hid (fun W hW => by
    have : BAt W W.heap.size (some ⟨w.heap.size, 0, none⟩) c.1.1 := .inr ⟨w.heap.size, 0, rfl, Nat.lt_of_lt_of_le hl0 hW.size, fun j hj => by
      have h1 : W.rangeAt w.heap.size 0 (encC c) := row_range ((hW.block _ hl0).trans h0)
      rw [encC_id] at h1
      have h2 := range_front h1
      exact h2 j _ (show (bcells c.1.1)[j]? = _ from bcells_get c.1.1 j hj)⟩
    have h := this.srcB 20
    rwa [show (Value.slice (some ⟨w.heap.size, 0, none⟩) c.1.1.length 20) = .slice (some ⟨w.heap.size, 0, none⟩) 20 20 by rw [hid]] at h)
  have HK : Hid (∀ W, Below W0.heap.size W0 W → (loadVar 88 ⟨w.heap.size, 20, none⟩).run Tryz.prog W = .ok (.agg (adr c.1.2.1 c.1.2.2)) W) := Lib.hid (fun W hW => by
    have := load71 (range_adr (row_range ((hW.block _ hl0).trans h0)))
    rwa [Nat.zero_add] at this)
  have H1 : Hid (∀ W v, Below W0.heap.size W0 W → W.ownsRow W0.heap.size 5 1 v ([] ++ c.1.1).length (bcells ([] ++ c.1.1)) → Calls Tryz.prog 81 #[.agg (adr c.1.2.1 c.1.2.2)] W fun e w' => ∃ u, e = .returned u ∧ Below W0.heap.size W0 w' ∧ w'.ownsRow W0.heap.size 5 1 v ([] ++ c.1.1).length (bcells ([] ++ c.1.1)) ∧ Src Tryz.prog 1 31 u (adB c.1.2.1 c.1.2.2).length (bcells (adB c.1.2.1 c.1.2.2)) w') := by
    refine Lib.hid (fun W v hW ho => (rbytes_any c.1.2.1 c.1.2.2 c.2.hh c.2.hp W).mono ?_)
    rintro e w' ⟨u, rfl, ⟨A, k, rfl, _, hA⟩, hb⟩
    exact ⟨_, rfl, hW.trans (hb.mono hW.size), own_belC ho hb, hA.srcB k⟩
  have HLE : Hid (([] : List UInt8).length + c.1.1.length ≤ 10000000 ∧ ([] ++ c.1.1).length + (adB c.1.2.1 c.1.2.2).length ≤ 10000000) := Lib.hid (by rw [adB_length, List.nil_append, hid]; simp)
  have HFIN : Hid (∀ v w', w'.ownsRow W0.heap.size 5 1 v ([] ++ c.1.1 ++ adB c.1.2.1 c.1.2.2).length (bcells ([] ++ c.1.1 ++ adB c.1.2.1 c.1.2.2)) → Below W0.heap.size W0 w' → w'.ownsRow w.heap.size 5 1 v (ctB c.1).length (bcells (ctB c.1)) ∧ Below w.heap.size w w') := Lib.hid (fun v w' h1 h2 => ⟨own_baseC h1 hb0.size, hb0.trans (h2.mono hb0.size)⟩)
  have HW := Lib.hid hW0
  generalize adr c.1.2.1 c.1.2.2 = AD at HK H1
  generalize (encC c).toArray = X at HW ⊢
  generalize adB c.1.2.1 c.1.2.2 = AB at *
  generalize hCI : c.1.1 = CI at *
  clear h0 hl0 hb0 hW0 hid hCI
  go_enter Tryz.func55, Tryz.ntmps55
  go_upto_region 1 with fail
  rw [← HW.out]
  clear HW
  have hS0 : Below W0.heap.size W0 W0.drew := (Below.refl _ W0).drew
  refine wp_region_noPanic ?_
  refine wp_region_held_drew (S := fun w' => Below W0.heap.size W0 w') (by kernel_rfl) hS0 (fun hHeld => ?_)
  refine takeH_at 1 4 (v := ?_) rfl rfl (by kernel_rfl) (by kernel_rfl) (by kernel_rfl) (fun _ _ _ h => h) (Or.inl ⟨by rfl, ?_⟩) (by assumption) ?_
  rotate_left
  · (intro wx hSw; clear hSw; go_simp) <;> with_reducible rfl
  simp only [Act.put, List.setIfInBounds_toArray, List.set_cons_zero, List.set_cons_succ]
  refine takeH_at 2 5 (v := ?_) rfl rfl (by kernel_rfl) (by kernel_rfl) (by kernel_rfl) (fun _ _ _ h => h) (Or.inl ⟨by rfl, ?_⟩) (by assumption) ?_
  rotate_left
  · (intro wx hSw; clear hSw; go_simp) <;> with_reducible rfl
  simp only [Act.put, List.setIfInBounds_toArray, List.set_cons_zero, List.set_cons_succ]
  refine takeH_at 4 7 (v := ?_) rfl rfl (by kernel_rfl) (by kernel_rfl) (by kernel_rfl) (fun _ _ _ h => h) (Or.inl ⟨by rfl, ?_⟩) (by assumption) ?_
  rotate_left
  · (intro wx hSw; clear hSw; go_simp) <;> with_reducible rfl
  simp only [Act.put, List.setIfInBounds_toArray, List.set_cons_zero, List.set_cons_succ]
  refine takeH_at 5 8 (v := .agg AD) rfl rfl (by kernel_rfl) (by kernel_rfl) (by kernel_rfl) (fun _ _ _ h => h) (yieldsIf_loadP (by rfl) 88 (.tmp 7) rfl ⟨w.heap.size, 20, none⟩ rfl _ (fun w hw => HK.out w hw)) (by assumption) ?_
  simp only [Act.put, List.setIfInBounds_toArray, List.set_cons_zero, List.set_cons_succ]
  refine wpAnyH_ready (rs := [0]) (by kernel_rfl) (by simp) (AllReadyH.cons rfl (fun K hK => ?_) AllReadyH.nil)
  refine step_noneB rfl 3 rfl rfl ?_
  have hb4 : Below W0.heap.size W0 (W0.drew.alloc (.cells #[] 5)) := hS0.alloc hS0.size _
  have HO4 : Hid ((W0.drew.alloc (.cells #[] 5)).ownsRow W0.heap.size 5 1 (.slice (some ⟨W0.drew.heap.size, 0, none⟩) 0 0) ([] : List UInt8).length (bcells [])) := Lib.hid (ownNone 5 1 hS0.size)
  refine hK.out _ _ hb4 (fun _ => ?_)
  clear hK K
  simp only [Act.put, List.setIfInBounds_toArray, List.set_cons_zero, List.set_cons_succ]
  refine wpAnyH_ready (rs := [3]) (by kernel_rfl) (by simp) (AllReadyH.cons rfl (fun K hK => ?_) AllReadyH.nil)
  refine step_appB rfl 6 rfl (.tmp 3) (.tmp 5) rfl W0.heap.size _ [] rfl HO4.out _ CI rfl (HA.out _ hb4) HLE.out.1 hb4.size ?_
  intro v5 w5 ho5 hg5
  have hb5 := below_ownB hb4 hb4.size hg5 (fun k hk => (HO4.out.lt k hk).1)
  refine hK.out _ _ hb5 (fun _ => ?_)
  clear hK K
  simp only [Act.put, List.setIfInBounds_toArray, List.set_cons_zero, List.set_cons_succ]
  refine wpAnyH_ready (rs := [6]) (by kernel_rfl) (by simp) (AllReadyH.cons rfl (fun K hK => ?_) AllReadyH.nil)
  go_simp
  go_wp2_with (go_at_call 81; (with_reducible refine (H1.out _ _ hb5 ho5).mono ?_); rintro e w6 ⟨u6, rfl, hb6, ho6, hs6⟩)
  refine hK.out _ _ hb6 (fun _ => ?_)
  clear hK K
  (try simp only [Act.put, List.setIfInBounds_toArray, List.set_cons_zero, List.set_cons_succ])
  refine wpAnyH_ready (rs := [7]) (by kernel_rfl) (by simp) (AllReadyH.cons rfl (fun K hK => ?_) AllReadyH.nil)
  refine step_appB rfl 10 rfl (.tmp 6) (.tmp 9) rfl W0.heap.size _ _ rfl ho6 _ AB rfl hs6 HLE.out.2 hb6.size ?_
  intro v7 w7 ho7 hg7
  have hb7 := below_ownB hb6 hb6.size hg7 (fun k hk => (ho6.lt k hk).1)
  refine hK.out _ _ hb7 (fun _ => ?_)
  clear hK K
  simp only [Act.put, List.setIfInBounds_toArray, List.set_cons_zero, List.set_cons_succ]
  refine takeH_at 8 2 (v := ?_) rfl rfl (by kernel_rfl) (by kernel_rfl) (by kernel_rfl) (fun _ _ _ h => h) (Or.inl ⟨by rfl, ?_⟩) (by assumption) ?_
  rotate_left
  · (intro wx hSw; clear hSw; go_simp) <;> with_reducible rfl
  simp only [Act.put, List.setIfInBounds_toArray, List.set_cons_zero, List.set_cons_succ]
  refine wpAnyH_done (by kernel_rfl) ?_ _
  refine NoPanic.normal ?_
  have HF := Lib.hid (HFIN.out v7 w7 ho7 hb7)
  clear hHeld hb4 hb5 hb6 hb7 ho5 ho6 ho7 hg5 hg7 hs6 HA HK H1 HO4 HFIN hS0
  go_wp2
  go_ret
  exact ⟨_, rfl, HF.out⟩
theorem rclist_any (A : Option Addr) (c : Nat) (L : List Con) (w : World) (hL : L.length ≤ 10000) (hA : CAt w w.heap.size A L) : Calls Tryz.prog 28 #[.slice A L.length c] w (LstC w L) := by
  have HG := Lib.hid (rgoodlist_any A c L w hL hA)
  by_cases hg : goodC (ctsC L) = true
  · have h64 : L.length ≤ 64 := by have := goodC_len hg; unfold ctsC at this; simpa using this
    rw [hg] at HG
    have HFIN : Hid (∀ (v : Value) (w' : World), w'.ownsRow w.heap.size 5 1 v ([UInt8.ofNat L.length] ++ flatC (ctsC (L.take L.length))).length (bcells ([UInt8.ofNat L.length] ++ flatC (ctsC (L.take L.length)))) → Below w.heap.size w w' → LstC w L (.returned (.tuple #[v, .int .i64 0])) w') := by
      refine Lib.hid (fun v w' ho hb => ⟨v, by rw [hg]; rfl, ?_, hb⟩)
      rw [hg]
      rw [List.take_length] at ho
      have e : listC (ctsC L) = [UInt8.ofNat L.length] ++ flatC (ctsC L) := by unfold listC; rw [show (ctsC L).length = L.length by unfold ctsC; simp]; rfl
      simp only [if_true]
      rw [e]
      exact ho
    have HST : Hid (∀ (W : World), Below w.heap.size w W → (W.alloc (.cells #[.int .u8 (L.length : Int)] 5)).ownsRow w.heap.size 5 1 (.slice (some ⟨W.heap.size, 0, none⟩) 1 1) ([UInt8.ofNat L.length] ++ flatC (ctsC (L.take 0))).length (bcells ([UInt8.ofNat L.length] ++ flatC (ctsC (L.take 0)))) ∧ Below w.heap.size w (W.alloc (.cells #[.int .u8 (L.length : Int)] 5))) := by
      refine Lib.hid (fun W hW => ⟨?_, hW.alloc hW.size _⟩)
      have e1 : bcells ([UInt8.ofNat L.length] ++ flatC (ctsC (L.take 0))) = [.int .u8 (L.length : Int)] := by
        have : (UInt8.ofNat L.length).toNat = L.length := by rw [UInt8.toNat_ofNat']; omega
        simp [flatC, ctsC, bcells, this]
      rw [e1]
      refine ⟨by simp [flatC, ctsC], .inr ⟨W.heap.size, 1, #[.int .u8 (L.length : Int)], by simp [flatC, ctsC], hW.size, heap_alloc_new W _, by simp [flatC, ctsC], by simp [maxLen], by simp, by simp [flatC, ctsC]⟩⟩
    have HRW : Hid (∀ j (hj : j < L.length) (v : Value) (wr : World), wr.ownsRow w.heap.size 5 1 v ([UInt8.ofNat L.length] ++ flatC (ctsC (L.take j))).length (bcells ([UInt8.ofNat L.length] ++ flatC (ctsC (L.take j)))) → Below w.heap.size w wr →
        (∃ g off, A = some ⟨g, off, none⟩ ∧ (loadVar 90 ⟨g, off + j * 22, none⟩).run Tryz.prog wr = .ok (.agg (encC L[j]).toArray) wr) ∧
        Calls Tryz.prog 55 #[.agg (encC L[j]).toArray] wr fun e w2 => ∃ A2 k2, e = .returned (.slice A2 26 k2) ∧ Below w.heap.size w w2 ∧ w2.ownsRow w.heap.size 5 1 v ([UInt8.ofNat L.length] ++ flatC (ctsC (L.take j))).length (bcells ([UInt8.ofNat L.length] ++ flatC (ctsC (L.take j)))) ∧ Src Tryz.prog 1 31 (.slice A2 26 k2) (ctB L[j].1).length (bcells (ctB L[j].1)) w2) := by
      refine Lib.hid (fun j hj v wr ho hb => ⟨?_, ?_⟩)
      · obtain ⟨g, off, rfl, hgl, hr⟩ := (hA.below hb).some_ (by omega)
        exact ⟨g, off, rfl, load73 (range_elem hr j hj)⟩
      · refine (rcbytes_any L[j] wr).mono ?_
        rintro e w2 ⟨v2, rfl, ho2, hb2⟩
        obtain ⟨A2, k2, rfl, hbat, _⟩ := own_bat ho2
        have hl : (ctB L[j].1).length = 26 := ctB_length L[j].2.id
        refine ⟨A2, k2, by rw [hl], hb.trans (hb2.mono hb.size), own_belC ho hb2, ?_⟩
        have := hbat.srcB k2
        rw [hl] at this ⊢
        exact this
    have HLEN : Hid (∀ j, j ≤ L.length → ([UInt8.ofNat L.length] ++ flatC (ctsC (L.take j))).length + 26 ≤ 10000000) := Lib.hid (fun j hj => by rw [List.length_append, flatC_len, List.length_singleton, List.length_take]; omega)
    have HNX : Hid (∀ j (hj : j < L.length), [UInt8.ofNat L.length] ++ flatC (ctsC (L.take (j + 1))) = [UInt8.ofNat L.length] ++ flatC (ctsC (L.take j)) ++ ctB L[j].1) := Lib.hid (fun j hj => by rw [flatC_take L j hj, List.append_assoc])
    obtain ⟨n, hn⟩ : ∃ n, n = L.length := ⟨_, rfl⟩
    have HN : Hid (n = L.length) := Lib.hid hn
    rw [← hn] at HG h64 HST ⊢
    have hwr : IntKind.u8.wrap (n : Int) = (n : Int) := by simp only [IntKind.wrap, IntKind.bits, IntKind.signed]; simp; omega
    clear hA hL hn
    go_enter Tryz.func28, Tryz.ntmps28
    go_upto_region 5 with (first
      | (go_at_call 34; (with_reducible refine HG.out.mono ?_); rintro e1 w1 ⟨rfl, hb1⟩))
    obtain ⟨ho2, hb2⟩ := HST.out w1 hb1
    generalize w1.alloc (.cells #[.int .u8 (n : Int)] 5) = w2 at ho2 hb2 ⊢
    have HO2 := Lib.hid ho2
    have HB2 := Lib.hid hb2
    clear ho2 hb2 hb1 HG HST hwr
    go_loopg [4, 5] n (fun kx s4 s5 wr => ∃ (j : Nat), j ≤ n ∧ n - j ≤ kx ∧ s5 = .int .i64 (j : Int) ∧ wr.ownsRow w.heap.size 5 1 s4 ([UInt8.ofNat n] ++ flatC (ctsC (L.take j))).length (bcells ([UInt8.ofNat n] ++ flatC (ctsC (L.take j)))) ∧ Below w.heap.size w wr)
    case atStart => exact ⟨0, by omega, by omega, rfl, HO2.out, HB2.out⟩
    case round =>
      obtain ⟨j, hj, hkx, rfl, ho, hb⟩ := hrel
      clear HO2 HB2
      by_cases hlt : j < n
      · have hlt' : (j : Int) < (n : Int) := by omega
        have hlL : j < L.length := by rw [← HN.out]; exact hlt
        rw [HN.out] at ho
        obtain ⟨A4, c4, hv4, _⟩ := own_bat ho
        obtain ⟨lb, hlb⟩ : ∃ lb, lb = ([UInt8.ofNat L.length] ++ flatC (ctsC (L.take j))).length := ⟨_, rfl⟩
        rw [← hlb] at hv4
        clear hlb
        subst hv4
        obtain ⟨⟨g, off, rfl, hld⟩, hcall⟩ := HRW.out j hlL _ wr ho hb
        have HLD := Lib.hid hld
        have HCA := Lib.hid hcall
        have hl : (ctB L[j].1).length = 26 := ctB_length L[j].2.id
        have HLE : Hid (([UInt8.ofNat L.length] ++ flatC (ctsC (L.take j))).length + (ctB L[j].1).length ≤ 10000000) := Lib.hid (by rw [hl]; exact HLEN.out j (by omega))
        have HNJ := Lib.hid (HNX.out j hlL)
        have HR : Hid (∀ v' w2 w', w2.ownsRow w.heap.size 5 1 (.slice A4 lb c4) ([UInt8.ofNat L.length] ++ flatC (ctsC (L.take j))).length (bcells ([UInt8.ofNat L.length] ++ flatC (ctsC (L.take j)))) → Below w.heap.size w w2 → w'.ownsRow w.heap.size 5 1 v' ([UInt8.ofNat L.length] ++ flatC (ctsC (L.take j)) ++ ctB L[j].1).length (bcells ([UInt8.ofNat L.length] ++ flatC (ctsC (L.take j)) ++ ctB L[j].1)) → w2.grownBy w' (Value.slice A4 lb c4).ownBlock → w'.ownsRow w.heap.size 5 1 v' ([UInt8.ofNat n] ++ flatC (ctsC (L.take (j + 1)))).length (bcells ([UInt8.ofNat n] ++ flatC (ctsC (L.take (j + 1))))) ∧ Below w.heap.size w w') := Lib.hid (fun v' w2 w' h0 hb2 h1 h2 => by
          rw [HN.out, HNJ.out]
          exact ⟨h1, below_own hb2 h2 (fun q hq => (h0.lt q hq).1)⟩)
        obtain ⟨cv, hcv⟩ : ∃ cv : Con, cv = L[j] := ⟨_, rfl⟩
        rw [← hcv] at HLD HCA HLE HR
        clear hld hcall ho hb hl hcv HNJ
        generalize [UInt8.ofNat L.length] ++ flatC (ctsC (L.take j)) = bs at HLD HCA HLE HR ⊢
        go_wp2_with (first
          | ((with_reducible refine wpList_loadV (op := ⟨some 23, _, _, _, _, _⟩) rfl 90 (.tmp 22) rfl _ ?_ _ HLD.out ?_); rfl)
          | (go_at_call 55; (with_reducible refine HCA.out.mono ?_); rintro e3 w3 ⟨A3, k3, rfl, hb3, ho3, hs3⟩)
          | (refine wpList_append_bytes rfl (.tmp 19) (.tmp 24) rfl w.heap.size _ bs rfl ho3 _ (ctB cv.1) rfl hs3 HLE.out hb3.size ?_; intro v5 w5 ho5 hg5))
        go_roundg (n - (j + 1))
        case measure => omega
        case rel => exact ⟨j + 1, by omega, Nat.le_refl _, by go_num, (HR.out _ _ _ ho3 hb3 ho5 hg5).1, (HR.out _ _ _ ho3 hb3 ho5 hg5).2⟩
      · obtain rfl : j = n := by omega
        have HF := Lib.hid (HFIN.out _ wr (by rw [← HN.out]; exact ho) hb)
        obtain ⟨A4, c4, rfl, _⟩ := own_bat ho
        clear ho hb HFIN
        generalize ([UInt8.ofNat j] ++ flatC (ctsC (L.take j))).length = lb at *
        go_wp2
        go_ret2
        exact HF.out
  · have hg' : goodC (ctsC L) = false := by cases h : goodC (ctsC L) with | true => exact absurd h hg | false => rfl
    rw [hg'] at HG
    have HFIN : Hid (∀ w', Below w.heap.size w w' → LstC w L (.returned (.tuple #[.slice none 0 0, .int .i64 2])) w') := Lib.hid (fun w' hb => ⟨_, by rw [hg']; rfl, by rw [hg']; exact ⟨by simp [bcells], .inl ⟨rfl, rfl⟩⟩, hb⟩)
    generalize L.length = n at *
    clear hA
    go_enter Tryz.func28, Tryz.ntmps28
    go_wp2_with (first | (go_at_call 34; (with_reducible refine HG.out.mono ?_); rintro e1 w1 ⟨rfl, hb1⟩))
    go_ret2
    exact HFIN.out _ hb1
end Go.Proofs.YtehgpnnfjgmiiaaGreat
end
section
namespace Go.Proofs.YtehgpnnfjgmiiaaGreat
open Go.Shelf Go.RowKit Go.Lib Go.Sort Go.Great
set_option maxRecDepth 100000
set_option maxHeartbeats 1000000
/-- Bytes that are a contact; the contact, or the zero one; the error. -/
def rdOk (xs : List UInt8) : Prop := xs.length = 26 ∧ getN ((xs.drop 20).take 4) ≠ 0 ∧ getN (((xs.drop 20).drop 4).take 2) ≠ 0
instance (xs : List UInt8) : Decidable (rdOk xs) := by unfold rdOk; exact inferInstance
def rdK (xs : List UInt8) : Con := if h : rdOk xs then ⟨(xs.take 20, getN ((xs.drop 20).take 4), getN (((xs.drop 20).drop 4).take 2)), ⟨by rw [List.length_take]; have := h.1; omega, getN_lt' _ 4 (by rw [List.length_take]; omega), getN_lt' _ 2 (by rw [List.length_take]; omega)⟩⟩ else default
def rdE (xs : List UInt8) : Int := if rdOk xs then 0 else 10
theorem nx_take (xs : List UInt8) (h : 20 ≤ xs.length) : takeV ⟨xs, false⟩ 20 = xs.take 20 ∧ takeS ⟨xs, false⟩ 20 = ⟨xs.drop 20, false⟩ := by
  have hk : takeOk ⟨xs, false⟩ 20 := ⟨rfl, by omega, by show (20 : Int) ≤ (xs.length : Int); omega⟩
  unfold takeV takeS
  rw [if_pos hk, if_pos hk]
  exact ⟨rfl, rfl⟩
theorem nx_take6 (xs : List UInt8) (h : 6 ≤ xs.length) : takeV ⟨xs, false⟩ 6 = xs.take 6 ∧ takeS ⟨xs, false⟩ 6 = ⟨xs.drop 6, false⟩ := by
  have hk : takeOk ⟨xs, false⟩ 6 := ⟨rfl, by omega, by show (6 : Int) ≤ (xs.length : Int); omega⟩
  unfold takeV takeS
  rw [if_pos hk, if_pos hk]
  exact ⟨rfl, rfl⟩
theorem take_no (xs : List UInt8) (k : Int) (h : (xs.length : Int) < k) : takeV ⟨xs, false⟩ k = [] ∧ takeS ⟨xs, false⟩ k = ⟨[], true⟩ := by
  have hk : ¬ takeOk ⟨xs, false⟩ k := fun hk => by
    have := hk.2.2
    change k ≤ (xs.length : Int) at this
    omega
  unfold takeV takeS
  rw [if_neg hk, if_neg hk]
  exact ⟨rfl, rfl⟩
theorem nx_long (xs : List UInt8) (h : 26 ≤ xs.length) : (takeV ⟨xs, false⟩ 20 = xs.take 20 ∧ takeV (takeS ⟨xs, false⟩ 20) 6 = (xs.drop 20).take 6) ∧ nxS ⟨xs, false⟩ = ⟨xs.drop 26, false⟩ := by
  obtain ⟨a, b⟩ := nx_take xs (by omega)
  obtain ⟨c, d⟩ := nx_take6 (xs.drop 20) (by rw [List.length_drop]; omega)
  unfold nxS
  rw [a, b, c, d, List.drop_drop]
  exact ⟨⟨rfl, rfl⟩, rfl⟩
theorem nx_short (xs : List UInt8) (h : xs.length < 26) : ¬ nxOk ⟨xs, false⟩ ∧ nxS ⟨xs, false⟩ = ⟨[], true⟩ := by
  by_cases h20 : 20 ≤ xs.length
  · obtain ⟨a, b⟩ := nx_take xs h20
    obtain ⟨c, d⟩ := take_no (xs.drop 20) 6 (by rw [List.length_drop]; omega)
    refine ⟨fun hk => ?_, ?_⟩
    · have := hk.2.1
      rw [b, c] at this
      cases this
    · unfold nxS
      rw [b, d]
  · obtain ⟨a, b⟩ := take_no xs 20 (by omega)
    refine ⟨fun hk => ?_, ?_⟩
    · have := hk.1
      rw [a] at this
      cases this
    · unfold nxS
      rw [b]
      unfold takeS
      rw [if_neg (fun hk => by cases hk.1)]
theorem take26 (xs : List UInt8) : (xs.take 26).drop 20 = (xs.drop 20).take 6 ∧ (xs.take 26).take 20 = xs.take 20 := by
  rw [List.drop_take, List.take_take]
  exact ⟨rfl, rfl⟩
theorem nx_ok (xs : List UInt8) (h : 26 ≤ xs.length) : nxOk ⟨xs, false⟩ ↔ rdOk (xs.take 26) := by
  obtain ⟨⟨a, b⟩, _⟩ := nx_long xs h
  have h1 : (xs.take 26).length = 26 := by rw [List.length_take]; omega
  have h2 : (xs.take 20).length = 20 := by rw [List.length_take]; omega
  have h3 : ((xs.drop 20).take 6).length = 6 := by rw [List.length_take, List.length_drop]; omega
  unfold nxOk rdOk
  rw [a, b, (take26 xs).1]
  constructor
  · rintro ⟨_, _, c, d⟩
    exact ⟨h1, c, d⟩
  · rintro ⟨_, c, d⟩
    exact ⟨h2, h3, c, d⟩
theorem nx_con (xs : List UInt8) (h : 26 ≤ xs.length) : nxC ⟨xs, false⟩ = rdK (xs.take 26) := by
  unfold nxC rdK
  by_cases hk : nxOk ⟨xs, false⟩
  · rw [dif_pos hk, dif_pos ((nx_ok xs h).1 hk)]
    obtain ⟨⟨a, b⟩, _⟩ := nx_long xs h
    refine Subtype.ext ?_
    simp only
    rw [a, b, (take26 xs).1, (take26 xs).2]
  · rw [dif_neg hk, dif_neg (fun h2 => hk ((nx_ok xs h).2 h2))]
section
variable {w W W' : World} {g : Nat} {s : St}
end
end Go.Proofs.YtehgpnnfjgmiiaaGreat
end
