/- next of package inst. Conditions: at most 900,000 bytes. ReadList of the reference. Conditions: at most 900,000 bytes. -/
import Derived.Test.YtehgpnnfjgmiiaaGreatVOja
import Derived.Test.YtehgpnnfjgmiiaaGreatVObd
import Derived.Test.YtehgpnnfjgmiiaaGreatVIiv
import Derived.Test.YtehgpnnfjgmiiaaGreatVObc
import Derived.Test.YtehgpnnfjgmiiaaGreatVRIio
import Derived.Test.YtehgpnnfjgmiiaaGreatVRERefb
import Derived.Test.YtehgpnnfjgmiiaaGreatProg
import Derived.RegionTactic
import Derived.RegionCalls
import Derived.WalkKit
import Derived.Deep.RegionHeld3
import Derived.Deep.QuietTactic
import Derived.BigQuiet
import Derived.LoopTactic
import Derived.Laws.BitsAllLaws
import Derived.Deep.MidRow
import Derived.Deep.DeepCutAuto
import Derived.Great.BuildSlice
import Derived.Lib.SlBytesConst
import Derived.Stop.BytesEq
import Derived.Test.YtehgpnnfjgmiiaaGreatVREOctc
import Derived.Deep.AppendSrc
import Derived.Laws.BytesString
import Derived.Laws.CopyOwn
import Derived.Deep.AppendLies
import Derived.Deep.Draws
import Derived.WalkSpells
import Derived.Test.YtehgpnnfjgmiiaaGreatRows
import Derived.WalkLawsBesides
import Derived.Lib.Hide
import Derived.Outline
import Derived.Laws.BitsLemmas
import Derived.Laws.Bits64
import Derived.Sort.Grow
import Derived.Lib.ConvBytes
import Derived.StillTailTactics
import Derived.Lib.OwnBridge
import Derived.Lib.SliceRun
import Derived.Below
import Derived.ProofKit
import Derived.OpenShut
import Derived.ChangeOld
import Derived.Laws.Tables
import Derived.Deep.LoopGhost
import Derived.Shelf.LaysM
import Derived.Test.YtehgpnnfjgmiiaaGreatVRKCdk
section
namespace Go.Proofs.YtehgpnnfjgmiiaaGreat
set_option maxRecDepth 100000
open Go.Shelf Go.RowKit Go.Lib Go.Great
set_option maxRecDepth 1000000
set_option maxHeartbeats 2000000
/-- What next answers. -/
def NxIs (w : World) (g B : Nat) (s : St) (e : Ending) (w' : World) : Prop := e = .returned (.agg (encI (nextI s)).toArray) ∧ RdrB w' g (nextS s) B ∧ w.grownBy w' (some g)
theorem flag_t (W : World) : Calls Tryz.prog 101 #[.bool true] W fun e w' => e = .returned (.int .u64 1) ∧ w' = W := flag_any true W
theorem flag_f (W : World) : Calls Tryz.prog 101 #[.bool false] W fun e w' => e = .returned (.int .u64 0) ∧ w' = W := flag_any false W
theorem inext_any {w : World} {g B : Nat} {s : St} (h : RdrB w g s B) (hB : B ≤ w.heap.size) : Calls Tryz.prog 109 #[.pointer (some ⟨g, 0, none⟩)] w (NxIs w g B s) := by
  obtain ⟨hr0, hq0, hb0⟩ := heap2 w (.cells (encI zeroI).toArray 79) (.cells (encI zeroI).toArray 79)
  have hs1 : (w.alloc (.cells (encI zeroI).toArray 79)).heap.size = w.heap.size + 1 := by simp
  obtain ⟨W0, hW0⟩ : ∃ W0, W0 = (w.alloc (.cells (encI zeroI).toArray 79)).alloc (.cells (encI zeroI).toArray 79) := ⟨_, rfl⟩
  rw [← hW0] at hr0 hq0 hb0
  have n0 : NXI w g B w.heap.size (w.heap.size + 1) s (encI zeroI) W0.drew := by
    have hbd : Below w.heap.size w W0.drew := hb0.drew
    exact ⟨h.below hbd, hr0, hq0, grown_of_bel hbd _, h.lt, hB, Nat.le_refl _, by omega, by omega⟩
  obtain ⟨q, hq⟩ : ∃ q, q = w.heap.size + 1 := ⟨_, rfl⟩
  rw [← hq] at n0
  have N0 := Lib.hid n0
  have hp := pubV_length s
  have hcp := copy_pub s
  obtain ⟨V1, hV1⟩ : ∃ V, V = takeV s 20 := ⟨_, rfl⟩
  have hv20 := takeV_20 s
  rw [← hV1] at hv20 hcp
  obtain ⟨P, hP⟩ : ∃ P, P = pubV s := ⟨_, rfl⟩
  rw [← hP] at hp hcp
  obtain ⟨a, ha⟩ : ∃ a, a = numV (s1 s) 8 := ⟨_, rfl⟩
  obtain ⟨b, hb⟩ : ∃ a, a = numV (s2 s) 8 := ⟨_, rfl⟩
  obtain ⟨l, hl⟩ : ∃ a, a = numV (s3 s) 4 := ⟨_, rfl⟩
  obtain ⟨f, hf⟩ : ∃ a, a = flagV s := ⟨_, rfl⟩
  have hl4 : l % 4294967296 = l := Nat.mod_eq_of_lt (by rw [hl]; exact numV_lt (s3 s) 4)
  have H1 : Hid (∀ W, NXI w g B w.heap.size q s (encI zeroI) W → Calls Tryz.prog 67 #[.pointer (some ⟨g, 0, none⟩), .int .i64 20] W fun e W' => ∃ A c, e = .returned (.slice A V1.length c) ∧ NXI w g B w.heap.size q (s1 s) (encI zeroI) W' ∧ BAt W' W'.heap.size A V1) := Lib.hid (fun W n => by rw [hV1]; exact n.take 20 (by omega))
  have HV1 : Hid ((bcells V1).length = Nat.min V1.length 20 ∧ ∀ (W' : World) (A : Option Addr), BAt W' W'.heap.size A V1 → 0 < (bcells V1).length → ∃ ad, A = some ad ∧ ∀ j v, (bcells V1)[j]? = some v → W'.cell? (ad.add j) = some v) := by
    refine Lib.hid ⟨?_, fun W' A hA hp => hA.cells hp⟩
    rw [bcells_length]
    rcases hv20 with h | h
    · rw [h]; rfl
    · rw [h]; rfl
  have HV1L : Hid (0 + (bcells V1).length ≤ (encI zeroI).length) := Lib.hid (by
    rw [bcells_length, encI_length]
    rcases hv20 with h | h
    · rw [h]; omega
    · rw [h]; simp)
  have HV1O : Hid (∀ v ∈ bcells V1, v.oneCell' = true) := Lib.hid (bcells_oneI V1)
  have H3 : Hid (∀ w2 w3, NXI w g B w.heap.size q (s1 s) (encI zeroI) w2 → w3.heap[q]? = some (.cells (splice (encI zeroI) 0 (bcells V1)).toArray 79 (0, 0)) → w2.grownBy w3 (some q) → NXI w g B w.heap.size q (s1 s) (encR P 0 0 0 false 0 0 0 []) w3) := Lib.hid (fun w2 w3 n hq hg => n.put (by rw [← hcp]; exact hq) hg)
  have tl : ∀ (s b l : Nat) (k : Bool) (pr we po : Nat) (t : List UInt8) (j : Nat) (v : Value), ([.int .u64 (s : Int), .int .u64 (b : Int), .int .u32 (l : Int), .bool k, .int .u16 (pr : Int), .int .u16 (we : Int), .int .u16 (po : Int), .string (bstr t)] : List Value)[j]? = some v → (encR P s b l k pr we po t)[20 + j]? = some v := fun s b l k pr we po t j v hv => by
    unfold encR
    rw [List.getElem?_append_right (by rw [bcells_length, hp]; omega), bcells_length, hp, Nat.add_sub_cancel_left]
    exact hv
  have N1 : Hid (∀ W, NXI w g B w.heap.size q (s1 s) (encR P 0 0 0 false 0 0 0 []) W → Calls Tryz.prog 40 #[.pointer (some ⟨g, 0, none⟩), .int .i64 8] W fun e W' => e = .returned (.int .u64 (a : Int)) ∧ NXI w g B w.heap.size q (s2 s) (encR P 0 0 0 false 0 0 0 []) W' ∧ W'.cell? ⟨q, 20, none⟩ = some (.int .u64 0) ∧ W'.frozen? ⟨q, 20, none⟩ = false) := Lib.hid (fun W n => by rw [ha]; exact n.num 8 (by omega) (tl 0 0 0 false 0 0 0 [] 0 _ rfl))
  have P1 : Hid (∀ W, NXI w g B w.heap.size q (s2 s) (encR P 0 0 0 false 0 0 0 []) W → NXI w g B w.heap.size q (s2 s) (encR P a 0 0 false 0 0 0 []) (W.setCell ⟨q, 20, none⟩ (.int .u64 (a : Int)))) := Lib.hid (fun W n => n.set (putS hp n.hq a))
  have N2 : Hid (∀ W, NXI w g B w.heap.size q (s2 s) (encR P a 0 0 false 0 0 0 []) W → Calls Tryz.prog 40 #[.pointer (some ⟨g, 0, none⟩), .int .i64 8] W fun e W' => e = .returned (.int .u64 (b : Int)) ∧ NXI w g B w.heap.size q (s3 s) (encR P a 0 0 false 0 0 0 []) W' ∧ W'.cell? ⟨q, 21, none⟩ = some (.int .u64 0) ∧ W'.frozen? ⟨q, 21, none⟩ = false) := Lib.hid (fun W n => by rw [hb]; exact n.num 8 (by omega) (tl a 0 0 false 0 0 0 [] 1 _ rfl))
  have P2 : Hid (∀ W, NXI w g B w.heap.size q (s3 s) (encR P a 0 0 false 0 0 0 []) W → NXI w g B w.heap.size q (s3 s) (encR P a b 0 false 0 0 0 []) (W.setCell ⟨q, 21, none⟩ (.int .u64 (b : Int)))) := Lib.hid (fun W n => n.set (putBo hp n.hq b))
  have N3 : Hid (∀ W, NXI w g B w.heap.size q (s3 s) (encR P a b 0 false 0 0 0 []) W → Calls Tryz.prog 40 #[.pointer (some ⟨g, 0, none⟩), .int .i64 4] W fun e W' => e = .returned (.int .u64 (l : Int)) ∧ NXI w g B w.heap.size q (s4 s) (encR P a b 0 false 0 0 0 []) W' ∧ W'.cell? ⟨q, 22, none⟩ = some (.int .u32 0) ∧ W'.frozen? ⟨q, 22, none⟩ = false) := Lib.hid (fun W n => by rw [hl]; exact n.num 4 (by omega) (tl a b 0 false 0 0 0 [] 2 _ rfl))
  have P3 : Hid (∀ W, NXI w g B w.heap.size q (s4 s) (encR P a b 0 false 0 0 0 []) W → NXI w g B w.heap.size q (s4 s) (encR P a b l false 0 0 0 []) (W.setCell ⟨q, 22, none⟩ (.int .u32 (l : Int)))) := Lib.hid (fun W n => n.set (putLi hp n.hq l))
  have N4 : Hid (∀ W, NXI w g B w.heap.size q (s4 s) (encR P a b l false 0 0 0 []) W → Calls Tryz.prog 40 #[.pointer (some ⟨g, 0, none⟩), .int .i64 1] W fun e W' => e = .returned (.int .u64 (f : Int)) ∧ NXI w g B w.heap.size q (s5 s) (encR P a b l false 0 0 0 []) W' ∧ W'.cell? ⟨q, 23, none⟩ = some (.bool false) ∧ W'.frozen? ⟨q, 23, none⟩ = false) := Lib.hid (fun W n => by rw [hf]; exact n.num 1 (by omega) (tl a b l false 0 0 0 [] 3 _ rfl))
  have FT := Lib.hid flag_t
  have FF := Lib.hid flag_f
  have HW := Lib.hid hW0
  have HQ := Lib.hid hq
  have HS1 := Lib.hid hs1
  by_cases h0 : f = 0
  · subst h0
    obtain ⟨pr, hpr⟩ : ∃ a, a = numV (s5 s) 2 := ⟨_, rfl⟩
    obtain ⟨we, hwe⟩ : ∃ a, a = numV (s6 s) 2 := ⟨_, rfl⟩
    obtain ⟨po, hpo⟩ : ∃ a, a = numV (s7 s) 2 := ⟨_, rfl⟩
    obtain ⟨t, ht⟩ : ∃ a, a = txtV (s8 s) 1024 := ⟨_, rfl⟩
    have m5 : pr % 65536 = pr := Nat.mod_eq_of_lt (by rw [hpr]; exact numV_lt (s5 s) 2)
    have m6 : we % 65536 = we := Nat.mod_eq_of_lt (by rw [hwe]; exact numV_lt (s6 s) 2)
    have m7 : po % 65536 = po := Nat.mod_eq_of_lt (by rw [hpo]; exact numV_lt (s7 s) 2)
    have N5 : Hid (∀ W, NXI w g B w.heap.size q (s5 s) (encR P a b l false 0 0 0 []) W → Calls Tryz.prog 40 #[.pointer (some ⟨g, 0, none⟩), .int .i64 2] W fun e W' => e = .returned (.int .u64 (pr : Int)) ∧ NXI w g B w.heap.size q (s6 s) (encR P a b l false 0 0 0 []) W' ∧ W'.cell? ⟨q, 24, none⟩ = some (.int .u16 0) ∧ W'.frozen? ⟨q, 24, none⟩ = false) := Lib.hid (fun W n => by rw [hpr]; exact n.num 2 (by omega) (tl a b l false 0 0 0 [] 4 _ rfl))
    have P5 : Hid (∀ W, NXI w g B w.heap.size q (s6 s) (encR P a b l false 0 0 0 []) W → NXI w g B w.heap.size q (s6 s) (encR P a b l false pr 0 0 []) (W.setCell ⟨q, 24, none⟩ (.int .u16 (pr : Int)))) := Lib.hid (fun W n => n.set (putPr hp n.hq pr))
    have N6 : Hid (∀ W, NXI w g B w.heap.size q (s6 s) (encR P a b l false pr 0 0 []) W → Calls Tryz.prog 40 #[.pointer (some ⟨g, 0, none⟩), .int .i64 2] W fun e W' => e = .returned (.int .u64 (we : Int)) ∧ NXI w g B w.heap.size q (s7 s) (encR P a b l false pr 0 0 []) W' ∧ W'.cell? ⟨q, 25, none⟩ = some (.int .u16 0) ∧ W'.frozen? ⟨q, 25, none⟩ = false) := Lib.hid (fun W n => by rw [hwe]; exact n.num 2 (by omega) (tl a b l false pr 0 0 [] 5 _ rfl))
    have P6 : Hid (∀ W, NXI w g B w.heap.size q (s7 s) (encR P a b l false pr 0 0 []) W → NXI w g B w.heap.size q (s7 s) (encR P a b l false pr we 0 []) (W.setCell ⟨q, 25, none⟩ (.int .u16 (we : Int)))) := Lib.hid (fun W n => n.set (putWe hp n.hq we))
    have N7 : Hid (∀ W, NXI w g B w.heap.size q (s7 s) (encR P a b l false pr we 0 []) W → Calls Tryz.prog 40 #[.pointer (some ⟨g, 0, none⟩), .int .i64 2] W fun e W' => e = .returned (.int .u64 (po : Int)) ∧ NXI w g B w.heap.size q (s8 s) (encR P a b l false pr we 0 []) W' ∧ W'.cell? ⟨q, 26, none⟩ = some (.int .u16 0) ∧ W'.frozen? ⟨q, 26, none⟩ = false) := Lib.hid (fun W n => by rw [hpo]; exact n.num 2 (by omega) (tl a b l false pr we 0 [] 6 _ rfl))
    have P7 : Hid (∀ W, NXI w g B w.heap.size q (s8 s) (encR P a b l false pr we 0 []) W → NXI w g B w.heap.size q (s8 s) (encR P a b l false pr we po []) (W.setCell ⟨q, 26, none⟩ (.int .u16 (po : Int)))) := Lib.hid (fun W n => n.set (putPo hp n.hq po))
    have N8 : Hid (∀ W, NXI w g B w.heap.size q (s8 s) (encR P a b l false pr we po []) W → Calls Tryz.prog 125 #[.pointer (some ⟨g, 0, none⟩), .int .i64 1024] W fun e W' => e = .returned (.string (bstr t)) ∧ NXI w g B w.heap.size q (s9 s) (encR P a b l false pr we po []) W' ∧ W'.cell? ⟨q, 27, none⟩ = some (.string (bstr [])) ∧ W'.frozen? ⟨q, 27, none⟩ = false) := Lib.hid (fun W n => by rw [ht]; exact n.txt 1024 (by omega) (tl a b l false pr we po [] 7 _ rfl))
    have P8 : Hid (∀ W, NXI w g B w.heap.size q (s9 s) (encR P a b l false pr we po []) W → NXI w g B w.heap.size q (s9 s) (encR P a b l false pr we po t) (W.setCell ⟨q, 27, none⟩ (.string (bstr t)))) := Lib.hid (fun W n => n.set (putTg hp n.hq t))
    have HE : Hid (encR P a b l false pr we po t = encI (nextI s) ∧ s9 s = nextS s) := Lib.hid (by
      unfold nextI nextS
      rw [if_pos hf.symm, if_pos hf.symm, encR_enc, ha, hb, hl, hP, hpr, hwe, hpo, ht]
      exact ⟨rfl, rfl⟩)
    generalize bstr t = T at *
    clear hr0 hq0 hb0 n0 hW0 hV1 hv20 hcp h hs1 hq tl hp ha hb hl hf hP hpr hwe hpo ht
    go_enter Tryz.func109, Tryz.ntmps109
    go_upto_region 2 with (first
      | (with_reducible refine wpList_alloc28 (o := ⟨some 2, _, _, _, _, _⟩) w.heap.size rfl rfl 2 rfl rfl ?_)
      | (with_reducible refine wpList_alloc28 (o := ⟨some 3, _, _, _, _, _⟩) (w.heap.size + 1) (by simp) rfl 3 rfl rfl ?_))
    (try rw [HS1.out])
    (try rw [← HQ.out])
    rw [← HW.out]
    clear HW
    refine wp_region_noPanic ?_
    refine wp_region_held_drew (S := fun _ => True) (by kernel_rfl) trivial (fun hHeld => ?_)
    refine takeH_at 0 4 (v := ?_) rfl rfl (by kernel_rfl) (by kernel_rfl) (by kernel_rfl) (fun _ _ _ h => h) (Or.inl ⟨by rfl, ?_⟩) (by trivial) ?_
    rotate_left
    · (intro wx hSw; (try dsimp only at hSw); go_simp) <;> with_reducible rfl
    simp only [Act.put, List.setIfInBounds_toArray, List.set_cons_zero, List.set_cons_succ]
    refine takeH_at 1 5 (v := ?_) rfl rfl (by kernel_rfl) (by kernel_rfl) (by kernel_rfl) (fun _ _ _ h => h) (Or.inl ⟨by rfl, ?_⟩) (by trivial) ?_
    rotate_left
    · (intro wx hSw; (try dsimp only at hSw); go_simp) <;> with_reducible rfl
    simp only [Act.put, List.setIfInBounds_toArray, List.set_cons_zero, List.set_cons_succ]
    refine takeH_at 2 6 (v := ?_) rfl rfl (by kernel_rfl) (by kernel_rfl) (by kernel_rfl) (fun _ _ _ h => h) (Or.inl ⟨by rfl, ?_⟩) (by trivial) ?_
    rotate_left
    · (intro wx hSw; (try dsimp only at hSw); go_simp) <;> with_reducible rfl
    simp only [Act.put, List.setIfInBounds_toArray, List.set_cons_zero, List.set_cons_succ]
    refine wpAnyH_ready (rs := [3]) (by kernel_rfl) (by simp) ?_
    refine AllReadyH.cons rfl (fun K hK => ?_) AllReadyH.nil
    go_simp
    go_wp2_with (go_at_call 67; (with_reducible refine (H1.out _ N0.out).mono ?_); rintro e2 w2 ⟨A2, c2, rfl, n2, hA2⟩)
    refine hK.out _ _ (by trivial) (fun hHeld => ?_)
    clear hK K
    refine wpAnyH_ready (rs := [4]) (by kernel_rfl) (by simp) ?_
    refine AllReadyH.cons rfl (fun K hK => ?_) AllReadyH.nil
    refine step_copy_row rfl 8 rfl (.tmp 5) (.tmp 7) 31 31 rfl 5 Tryz.underlying31 size5c (some ⟨q, 0, none⟩) _ 20 20 V1.length c2 rfl rfl q 0 (encI zeroI) 79 n2.hq (bcells V1) (HV1.out.1) (fun hp => ⟨rfl, HV1.out.2 _ _ hA2 hp⟩) HV1L.out HV1O.out ?_
    intro w3 hq3 hg3
    refine hK.out _ _ (by trivial) (fun hHeld => ?_)
    clear hK K
    refine wpAnyH_done (by kernel_rfl) ?_ _
    refine NoPanic.normal ?_
    simp only [Act.put, List.setIfInBounds_toArray, List.set_cons_zero, List.set_cons_succ]
    have n3 := H3.out _ _ n2 hq3 hg3
    clear n2 hq3 hg3 H1 H3 N0 HV1 HV1L HV1O hA2
    go_upto_region 14 with (first
      | (go_at_call 40; (with_reducible refine (N1.out _ n3).mono ?_); rintro e4 w4 ⟨rfl, n4, c4, f4⟩)
      | (go_at_call 40; (with_reducible refine (N2.out _ (P1.out _ n4)).mono ?_); rintro e5 w5 ⟨rfl, n5, c5, f5⟩)
      | (go_at_call 40; (with_reducible refine (N3.out _ (P2.out _ n5)).mono ?_); rintro e6 w6 ⟨rfl, n6, c6, f6⟩)
      | (go_at_call 40; (with_reducible refine (N4.out _ (P3.out _ n6)).mono ?_); rintro e7 w7 ⟨rfl, n7, c7, f7⟩)
      | (go_at_call 101; (with_reducible refine (FT.out _).mono ?_); rintro e8 w8 ⟨rfl, rfl⟩)
      | (go_at_call 101; (with_reducible refine (FF.out _).mono ?_); rintro e9 w9 ⟨rfl, rfl⟩)
      | (go_at_call 40; (with_reducible refine (N5.out _ n7).mono ?_); rintro e10 w10 ⟨rfl, n10, c10, f10⟩)
      | (go_at_call 40; (with_reducible refine (N6.out _ (P5.out _ n10)).mono ?_); rintro e11 w11 ⟨rfl, n11, c11, f11⟩)
      | (go_at_call 40; (with_reducible refine (N7.out _ (P6.out _ n11)).mono ?_); rintro e12 w12 ⟨rfl, n12, c12, f12⟩)
      | (go_at_call 125; (with_reducible refine (N8.out _ (P7.out _ n12)).mono ?_); rintro e13 w13 ⟨rfl, n13, c13, f13⟩))
    have nE := P8.out _ n13
    rw [HE.out.1, HE.out.2] at nE
    generalize w13.setCell ⟨q, 27, none⟩ (.string T) = wE at *
    obtain ⟨h91, h92, h93, h94⟩ := nE.fin (nextI s)
    have HLD := Lib.hid (load28 (row_range nE.hq))
    have H91 := Lib.hid h91
    have H92 := Lib.hid h92
    have H93 := Lib.hid (show NxIs w g B s (.returned (.agg (encI (nextI s)).toArray)) _ from ⟨rfl, h93, h94⟩)
    have HSZ : Hid ((Tryz.prog.info? 79).map (·.size) = some (encI (nextI s)).length) := Lib.hid (by rw [encI_length]; exact size28i)
    have HY : Hid ((encI (nextI s)).toArray = (encI (nextI s)).toArray) := Lib.hid rfl
    clear h91 h92 h93 h94 nE HE n13 n12 n11 n10 n7 n6 n5 n4 n3 N1 N2 N3 N4 N5 N6 N7 N8 P1 P2 P3 P5 P6 P7 P8 c4 c5 c6 c7 c10 c11 c12 c13 f4 f5 f6 f7 f10 f11 f12 f13
    generalize nextI s = NI at *
    generalize hX : (encI NI).toArray = X at HLD ⊢
    have HX := Lib.hid hX
    clear hX
    go_wp2_with (first
      | ((with_reducible refine wpList_loadV (op := ⟨some 43, _, _, _, _, _⟩) rfl 79 (.tmp 3) rfl ⟨q, 0, none⟩ ?_ _ HLD.out ?_); rfl)
      | ((with_reducible refine wpList_store28 (o := ⟨none, _, _, _, _, _⟩) rfl (.tmp 2) (.tmp 43) rfl w.heap.size NI ?_ ?_ H91.out ?_); rfl; (rw [HX.out]; rfl)))
    refine bodyPost_ret (v := .agg (encI NI).toArray) ?_ rfl ?_
    · exact results_cell1 (p := 2) (ty := 79) rfl _ _ w.heap.size 0 (encI NI) _ rfl H92.out Tryz.underlying79 rfl HSZ.out
    · exact H93.out
  · by_cases h1 : f = 1
    · subst h1
      have P4 : Hid (∀ W, NXI w g B w.heap.size q (s5 s) (encR P a b l false 0 0 0 []) W → NXI w g B w.heap.size q (s5 s) (encR P a b l true 0 0 0 []) (W.setCell ⟨q, 23, none⟩ (.bool true))) := Lib.hid (fun W n => n.set (putGo hp n.hq true))
      have HE : Hid (encR P a b l true 0 0 0 [] = encI (nextI s) ∧ s5 s = nextS s) := Lib.hid (by
        unfold nextI nextS
        rw [if_neg (by omega), if_neg (by omega), encR_enc, ha, hb, hl, hP, ← hf]
        exact ⟨rfl, rfl⟩)
      clear hr0 hq0 hb0 n0 hW0 hV1 hv20 hcp h hs1 hq tl hp ha hb hl hf hP h0
      go_enter Tryz.func109, Tryz.ntmps109
      go_upto_region 2 with (first
        | (with_reducible refine wpList_alloc28 (o := ⟨some 2, _, _, _, _, _⟩) w.heap.size rfl rfl 2 rfl rfl ?_)
        | (with_reducible refine wpList_alloc28 (o := ⟨some 3, _, _, _, _, _⟩) (w.heap.size + 1) (by simp) rfl 3 rfl rfl ?_))
      (try rw [HS1.out])
      (try rw [← HQ.out])
      rw [← HW.out]
      clear HW
      refine wp_region_noPanic ?_
      refine wp_region_held_drew (S := fun _ => True) (by kernel_rfl) trivial (fun hHeld => ?_)
      refine takeH_at 0 4 (v := ?_) rfl rfl (by kernel_rfl) (by kernel_rfl) (by kernel_rfl) (fun _ _ _ h => h) (Or.inl ⟨by rfl, ?_⟩) (by trivial) ?_
      rotate_left
      · (intro wx hSw; (try dsimp only at hSw); go_simp) <;> with_reducible rfl
      simp only [Act.put, List.setIfInBounds_toArray, List.set_cons_zero, List.set_cons_succ]
      refine takeH_at 1 5 (v := ?_) rfl rfl (by kernel_rfl) (by kernel_rfl) (by kernel_rfl) (fun _ _ _ h => h) (Or.inl ⟨by rfl, ?_⟩) (by trivial) ?_
      rotate_left
      · (intro wx hSw; (try dsimp only at hSw); go_simp) <;> with_reducible rfl
      simp only [Act.put, List.setIfInBounds_toArray, List.set_cons_zero, List.set_cons_succ]
      refine takeH_at 2 6 (v := ?_) rfl rfl (by kernel_rfl) (by kernel_rfl) (by kernel_rfl) (fun _ _ _ h => h) (Or.inl ⟨by rfl, ?_⟩) (by trivial) ?_
      rotate_left
      · (intro wx hSw; (try dsimp only at hSw); go_simp) <;> with_reducible rfl
      simp only [Act.put, List.setIfInBounds_toArray, List.set_cons_zero, List.set_cons_succ]
      refine wpAnyH_ready (rs := [3]) (by kernel_rfl) (by simp) ?_
      refine AllReadyH.cons rfl (fun K hK => ?_) AllReadyH.nil
      go_simp
      go_wp2_with (go_at_call 67; (with_reducible refine (H1.out _ N0.out).mono ?_); rintro e2 w2 ⟨A2, c2, rfl, n2, hA2⟩)
      refine hK.out _ _ (by trivial) (fun hHeld => ?_)
      clear hK K
      refine wpAnyH_ready (rs := [4]) (by kernel_rfl) (by simp) ?_
      refine AllReadyH.cons rfl (fun K hK => ?_) AllReadyH.nil
      refine step_copy_row rfl 8 rfl (.tmp 5) (.tmp 7) 31 31 rfl 5 Tryz.underlying31 size5c (some ⟨q, 0, none⟩) _ 20 20 V1.length c2 rfl rfl q 0 (encI zeroI) 79 n2.hq (bcells V1) (HV1.out.1) (fun hp => ⟨rfl, HV1.out.2 _ _ hA2 hp⟩) HV1L.out HV1O.out ?_
      intro w3 hq3 hg3
      refine hK.out _ _ (by trivial) (fun hHeld => ?_)
      clear hK K
      refine wpAnyH_done (by kernel_rfl) ?_ _
      refine NoPanic.normal ?_
      simp only [Act.put, List.setIfInBounds_toArray, List.set_cons_zero, List.set_cons_succ]
      have n3 := H3.out _ _ n2 hq3 hg3
      clear n2 hq3 hg3 H1 H3 N0 HV1 HV1L HV1O hA2
      go_upto_region 14 with (first
        | (go_at_call 40; (with_reducible refine (N1.out _ n3).mono ?_); rintro e4 w4 ⟨rfl, n4, c4, f4⟩)
        | (go_at_call 40; (with_reducible refine (N2.out _ (P1.out _ n4)).mono ?_); rintro e5 w5 ⟨rfl, n5, c5, f5⟩)
        | (go_at_call 40; (with_reducible refine (N3.out _ (P2.out _ n5)).mono ?_); rintro e6 w6 ⟨rfl, n6, c6, f6⟩)
        | (go_at_call 40; (with_reducible refine (N4.out _ (P3.out _ n6)).mono ?_); rintro e7 w7 ⟨rfl, n7, c7, f7⟩)
        | (go_at_call 101; (with_reducible refine (FT.out _).mono ?_); rintro e8 w8 ⟨rfl, rfl⟩)
        | (go_at_call 101; (with_reducible refine (FF.out _).mono ?_); rintro e9 w9 ⟨rfl, rfl⟩))
      have nE := P4.out _ n7
      rw [HE.out.1, HE.out.2] at nE
      generalize w8.setCell ⟨q, 23, none⟩ (.bool true) = wE at *
      obtain ⟨h91, h92, h93, h94⟩ := nE.fin (nextI s)
      have HLD := Lib.hid (load28 (row_range nE.hq))
      have H91 := Lib.hid h91
      have H92 := Lib.hid h92
      have H93 := Lib.hid (show NxIs w g B s (.returned (.agg (encI (nextI s)).toArray)) _ from ⟨rfl, h93, h94⟩)
      have HSZ : Hid ((Tryz.prog.info? 79).map (·.size) = some (encI (nextI s)).length) := Lib.hid (by rw [encI_length]; exact size28i)
      have HY : Hid ((encI (nextI s)).toArray = (encI (nextI s)).toArray) := Lib.hid rfl
      clear h91 h92 h93 h94 nE HE n7 n6 n5 n4 n3 N1 N2 N3 N4 P1 P2 P3 P4 c4 c5 c6 c7 f4 f5 f6 f7
      generalize nextI s = NI at *
      generalize hX : (encI NI).toArray = X at HLD ⊢
      have HX := Lib.hid hX
      clear hX
      go_wp2_with (first
        | ((with_reducible refine wpList_loadV (op := ⟨some 43, _, _, _, _, _⟩) rfl 79 (.tmp 3) rfl ⟨q, 0, none⟩ ?_ _ HLD.out ?_); rfl)
        | ((with_reducible refine wpList_store28 (o := ⟨none, _, _, _, _, _⟩) rfl (.tmp 2) (.tmp 43) rfl w.heap.size NI ?_ ?_ H91.out ?_); rfl; (rw [HX.out]; rfl)))
      refine bodyPost_ret (v := .agg (encI NI).toArray) ?_ rfl ?_
      · exact results_cell1 (p := 2) (ty := 79) rfl _ _ w.heap.size 0 (encI NI) _ rfl H92.out Tryz.underlying79 rfl HSZ.out
      · exact H93.out
    · have h1' : ((f : Int) == 1) = false := by rw [beq_eq_false_iff_ne]; omega
      have h0' : ((f : Int) == 0) = false := by rw [beq_eq_false_iff_ne]; omega
      have HE : Hid (encR P a b l false 0 0 0 [] = encI (nextI s) ∧ s5 s = nextS s) := Lib.hid (by
        unfold nextI nextS
        rw [if_neg (by omega), if_neg (by omega), encR_enc, ha, hb, hl, hP, ← hf, decide_eq_false h1]
        exact ⟨rfl, rfl⟩)
      clear hr0 hq0 hb0 n0 hW0 hV1 hv20 hcp h hs1 hq tl hp ha hb hl hf hP h0 h1
      go_enter Tryz.func109, Tryz.ntmps109
      go_upto_region 2 with (first
        | (with_reducible refine wpList_alloc28 (o := ⟨some 2, _, _, _, _, _⟩) w.heap.size rfl rfl 2 rfl rfl ?_)
        | (with_reducible refine wpList_alloc28 (o := ⟨some 3, _, _, _, _, _⟩) (w.heap.size + 1) (by simp) rfl 3 rfl rfl ?_))
      (try rw [HS1.out])
      (try rw [← HQ.out])
      rw [← HW.out]
      clear HW
      refine wp_region_noPanic ?_
      refine wp_region_held_drew (S := fun _ => True) (by kernel_rfl) trivial (fun hHeld => ?_)
      refine takeH_at 0 4 (v := ?_) rfl rfl (by kernel_rfl) (by kernel_rfl) (by kernel_rfl) (fun _ _ _ h => h) (Or.inl ⟨by rfl, ?_⟩) (by trivial) ?_
      rotate_left
      · (intro wx hSw; (try dsimp only at hSw); go_simp) <;> with_reducible rfl
      simp only [Act.put, List.setIfInBounds_toArray, List.set_cons_zero, List.set_cons_succ]
      refine takeH_at 1 5 (v := ?_) rfl rfl (by kernel_rfl) (by kernel_rfl) (by kernel_rfl) (fun _ _ _ h => h) (Or.inl ⟨by rfl, ?_⟩) (by trivial) ?_
      rotate_left
      · (intro wx hSw; (try dsimp only at hSw); go_simp) <;> with_reducible rfl
      simp only [Act.put, List.setIfInBounds_toArray, List.set_cons_zero, List.set_cons_succ]
      refine takeH_at 2 6 (v := ?_) rfl rfl (by kernel_rfl) (by kernel_rfl) (by kernel_rfl) (fun _ _ _ h => h) (Or.inl ⟨by rfl, ?_⟩) (by trivial) ?_
      rotate_left
      · (intro wx hSw; (try dsimp only at hSw); go_simp) <;> with_reducible rfl
      simp only [Act.put, List.setIfInBounds_toArray, List.set_cons_zero, List.set_cons_succ]
      refine wpAnyH_ready (rs := [3]) (by kernel_rfl) (by simp) ?_
      refine AllReadyH.cons rfl (fun K hK => ?_) AllReadyH.nil
      go_simp
      go_wp2_with (go_at_call 67; (with_reducible refine (H1.out _ N0.out).mono ?_); rintro e2 w2 ⟨A2, c2, rfl, n2, hA2⟩)
      refine hK.out _ _ (by trivial) (fun hHeld => ?_)
      clear hK K
      refine wpAnyH_ready (rs := [4]) (by kernel_rfl) (by simp) ?_
      refine AllReadyH.cons rfl (fun K hK => ?_) AllReadyH.nil
      refine step_copy_row rfl 8 rfl (.tmp 5) (.tmp 7) 31 31 rfl 5 Tryz.underlying31 size5c (some ⟨q, 0, none⟩) _ 20 20 V1.length c2 rfl rfl q 0 (encI zeroI) 79 n2.hq (bcells V1) (HV1.out.1) (fun hp => ⟨rfl, HV1.out.2 _ _ hA2 hp⟩) HV1L.out HV1O.out ?_
      intro w3 hq3 hg3
      refine hK.out _ _ (by trivial) (fun hHeld => ?_)
      clear hK K
      refine wpAnyH_done (by kernel_rfl) ?_ _
      refine NoPanic.normal ?_
      simp only [Act.put, List.setIfInBounds_toArray, List.set_cons_zero, List.set_cons_succ]
      have n3 := H3.out _ _ n2 hq3 hg3
      clear n2 hq3 hg3 H1 H3 N0 HV1 HV1L HV1O hA2
      go_upto_region 14 with (first
        | (go_at_call 40; (with_reducible refine (N1.out _ n3).mono ?_); rintro e4 w4 ⟨rfl, n4, c4, f4⟩)
        | (go_at_call 40; (with_reducible refine (N2.out _ (P1.out _ n4)).mono ?_); rintro e5 w5 ⟨rfl, n5, c5, f5⟩)
        | (go_at_call 40; (with_reducible refine (N3.out _ (P2.out _ n5)).mono ?_); rintro e6 w6 ⟨rfl, n6, c6, f6⟩)
        | (go_at_call 40; (with_reducible refine (N4.out _ (P3.out _ n6)).mono ?_); rintro e7 w7 ⟨rfl, n7, c7, f7⟩)
        | (go_at_call 101; (with_reducible refine (FT.out _).mono ?_); rintro e8 w8 ⟨rfl, rfl⟩)
        | (go_at_call 101; (with_reducible refine (FF.out _).mono ?_); rintro e9 w9 ⟨rfl, rfl⟩))
      have nE := n7
      rw [HE.out.1, HE.out.2] at nE
      generalize w9 = wE at *
      obtain ⟨h91, h92, h93, h94⟩ := nE.fin (nextI s)
      have HLD := Lib.hid (load28 (row_range nE.hq))
      have H91 := Lib.hid h91
      have H92 := Lib.hid h92
      have H93 := Lib.hid (show NxIs w g B s (.returned (.agg (encI (nextI s)).toArray)) _ from ⟨rfl, h93, h94⟩)
      have HSZ : Hid ((Tryz.prog.info? 79).map (·.size) = some (encI (nextI s)).length) := Lib.hid (by rw [encI_length]; exact size28i)
      have HY : Hid ((encI (nextI s)).toArray = (encI (nextI s)).toArray) := Lib.hid rfl
      clear h91 h92 h93 h94 nE HE n7 n6 n5 n4 n3 N1 N2 N3 N4 P1 P2 P3 c4 c5 c6 c7 f4 f5 f6 f7
      generalize nextI s = NI at *
      generalize hX : (encI NI).toArray = X at HLD ⊢
      have HX := Lib.hid hX
      clear hX
      go_wp2_with (first
        | ((with_reducible refine wpList_loadV (op := ⟨some 43, _, _, _, _, _⟩) rfl 79 (.tmp 3) rfl ⟨q, 0, none⟩ ?_ _ HLD.out ?_); rfl)
        | ((with_reducible refine wpList_store28 (o := ⟨none, _, _, _, _, _⟩) rfl (.tmp 2) (.tmp 43) rfl w.heap.size NI ?_ ?_ H91.out ?_); rfl; (rw [HX.out]; rfl)))
      refine bodyPost_ret (v := .agg (encI NI).toArray) ?_ rfl ?_
      · exact results_cell1 (p := 2) (ty := 79) rfl _ _ w.heap.size 0 (encI NI) _ rfl H92.out Tryz.underlying79 rfl HSZ.out
      · exact H93.out
end Go.Proofs.YtehgpnnfjgmiiaaGreat
end
section
namespace Go.Proofs.YtehgpnnfjgmiiaaGreat
open Go.Shelf Go.RowKit Go.Lib Go.Sort Go.Great
set_option maxRecDepth 100000
set_option maxHeartbeats 1000000
/-- The reference's reader, its bytes below a bound. -/
def RRB (w : World) (h : Nat) (A : Option Addr) (c : Nat) (xs : List UInt8) (s : St) (B : Nat) : Prop :=
  ∃ k : Nat, w.heap[h]? = some (.cells #[.slice A xs.length c, .int .i64 (k : Int), .bool s.bad] 72 (0, 0)) ∧ BAt w B A xs ∧ k ≤ xs.length ∧ xs.length ≤ c ∧ xs.length ≤ 900000 ∧ (s.bad = true → k = xs.length) ∧ s.ys = xs.drop k ∧ B ≤ w.heap.size
section
variable {w w' : World} {h c B : Nat} {A : Option Addr} {xs : List UInt8} {s s' : St}
theorem RRB.rs (r : RRB w h A c xs s B) : RRS w h A c xs s := by
  obtain ⟨k, h1, h2, h3, h4, h5, h6, h7, h8⟩ := r
  exact ⟨k, ⟨h1, h2.more h8, h3, h4, h5, h6⟩, h7⟩
theorem RRS.rb (r : RRS w h A c xs s) : RRB w h A c xs s w.heap.size := by
  obtain ⟨k, ⟨h1, h2, h3, h4, h5, h6⟩, h7⟩ := r
  exact ⟨k, h1, h2, h3, h4, h5, h6, h7, Nat.le_refl _⟩
theorem RRB.lt (r : RRB w h A c xs s B) : h < w.heap.size := by
  obtain ⟨k, h1, _⟩ := r
  exact (Array.getElem?_eq_some_iff.1 h1).1
theorem RRB.keep (r : RRB w h A c xs s B) (hg : w'.heap[h]? = w.heap[h]?) (hs : w.heap.size ≤ w'.heap.size) (hk : ∀ i, i < B → w'.heap[i]? = w.heap[i]?) : RRB w' h A c xs s B := by
  obtain ⟨k, h1, h2, h3, h4, h5, h6, h7, h8⟩ := r
  refine ⟨k, hg.trans h1, ?_, h3, h4, h5, h6, h7, by omega⟩
  rcases h2 with h2 | ⟨g', off, rfl, hlt, hcell⟩
  · exact .inl h2
  · refine .inr ⟨g', off, rfl, hlt, fun j hj => ?_⟩
    rw [← hcell j hj]
    simp only [World.cell?, hk g' hlt]
theorem RRB.bel (r : RRB w h A c xs s B) (hb : Below w.heap.size w w') : RRB w' h A c xs s B := by
  obtain ⟨k, _, _, _, _, _, _, _, h8⟩ := id r
  exact r.keep (hb.block h r.lt) hb.size (fun i hi => hb.block i (by omega))
theorem RRB.read (r : RRB w h A c xs s B) (n : RRS w' h A c xs s') (hg : w.grownBy w' (some h)) : RRB w' h A c xs s' B := by
  obtain ⟨k, h1, h2, h3, h4, h5, h6, h7, h8⟩ := r
  obtain ⟨k', ⟨g1, g2, g3, g4, g5, g6⟩, g7⟩ := n
  exact ⟨k', g1, h2.grown h8 hg (h2.ne h1 (by simp) (by simp) (by simp)), g3, g4, g5, g6, g7, by have := hg.size; omega⟩
end
/-- Num, Take of a reader that s says. -/
theorem rrnum_s {w : World} {h c : Nat} {A : Option Addr} {xs : List UInt8} {s : St} (r : RRS w h A c xs s) (n : Int) (hn : n ≤ 9223372036854775807) : Calls Tryz.prog 43 #[.pointer (some ⟨h, 0, none⟩), .int .i64 n] w (RNumP w h A c xs s n) := by
  obtain ⟨k, hr, hy⟩ := r
  have e1 := St.eta s hy rfl
  have := rrnum_any hr n hn
  rwa [← e1] at this
theorem rrtake_s {w : World} {h c : Nat} {A : Option Addr} {xs : List UInt8} {s : St} (r : RRS w h A c xs s) (n : Int) (hn : n ≤ 9223372036854775807) : Calls Tryz.prog 44 #[.pointer (some ⟨h, 0, none⟩), .int .i64 n] w (RTakeP w h A c xs s n) := by
  obtain ⟨k, hr, hy⟩ := r
  have e1 := St.eta s hy rfl
  have := rrtake_any hr n hn
  rwa [← e1] at this
theorem takeS_neg (s : St) : takeS s (-1) = ⟨[], true⟩ := by
  unfold takeS
  rw [if_neg (by intro hk; have := hk.2.1; omega)]
section
end
end Go.Proofs.YtehgpnnfjgmiiaaGreat
end
