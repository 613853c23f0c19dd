/- Read of the reference of layer inst. Conditions: at most 900,000 bytes. -/
import Derived.Test.YtehgpnnfjgmiiaaGreatVOja
import Derived.Test.YtehgpnnfjgmiiaaGreatVObd
import Derived.Test.YtehgpnnfjgmiiaaGreatVIiv
import Derived.Test.YtehgpnnfjgmiiaaGreatVObc
import Derived.Test.YtehgpnnfjgmiiaaGreatVRIis
namespace Go.Proofs.YtehgpnnfjgmiiaaGreat
set_option maxRecDepth 100000
open Go.Shelf Go.RowKit Go.Lib Go.Great
set_option maxRecDepth 1000000
set_option maxHeartbeats 4000000
def RRdIs (w : World) (h : Nat) (A : Option Addr) (c : Nat) (xs : List UInt8) (B : Nat) (s : St) (e : Ending) (w' : World) : Prop := e = .returned (.tuple #[.agg (encI (readI s)).toArray, .bool (goodI (nextI s))]) ∧ RRB w' h A c xs (readS s) B ∧ w.grownBy w' (some h)
theorem irread_any {w : World} {h c B : Nat} {A : Option Addr} {xs : List UInt8} {s : St} (hrd : RRB w h A c xs s B) (hB : B ≤ w.heap.size) : Calls Tryz.prog 76 #[.pointer (some ⟨h, 0, none⟩)] w (RRdIs w h A c xs B s) := by
  obtain ⟨hr0, hq0, hb0⟩ := heap2 w (.cells (encI zeroI).toArray 79) (.cells (encI zeroI).toArray 79)
  have hs1 : (w.alloc (.cells (encI zeroI).toArray 79)).heap.size = w.heap.size + 1 := by simp
  obtain ⟨W0, hW0⟩ : ∃ W0, W0 = (w.alloc (.cells (encI zeroI).toArray 79)).alloc (.cells (encI zeroI).toArray 79) := ⟨_, rfl⟩
  rw [← hW0] at hr0 hq0 hb0
  have n0 : RXI w h A c xs B w.heap.size (w.heap.size + 1) s (encI zeroI) W0.drew := by
    have hbd : Below w.heap.size w W0.drew := hb0.drew
    exact ⟨hrd.bel hbd, hr0, hq0, grown_of_bel hbd _, hrd.lt, hB, Nat.le_refl _, by omega, by omega⟩
  obtain ⟨q, hq⟩ : ∃ q, q = w.heap.size + 1 := ⟨_, rfl⟩
  rw [← hq] at n0
  have N0 := Lib.hid n0
  have hp := pubV_length s
  have hcp := copy_pub s
  obtain ⟨V1, hV1⟩ : ∃ V, V = takeV s 20 := ⟨_, rfl⟩
  have hv20 := takeV_20 s
  rw [← hV1] at hv20 hcp
  obtain ⟨P, hP⟩ : ∃ P, P = pubV s := ⟨_, rfl⟩
  rw [← hP] at hp hcp
  obtain ⟨a, ha⟩ : ∃ a, a = numV (s1 s) 8 := ⟨_, rfl⟩
  obtain ⟨b, hb⟩ : ∃ a, a = numV (s2 s) 8 := ⟨_, rfl⟩
  obtain ⟨l, hl⟩ : ∃ a, a = numV (s3 s) 4 := ⟨_, rfl⟩
  obtain ⟨f, hf⟩ : ∃ a, a = flagV s := ⟨_, rfl⟩
  have hl4 : l % 4294967296 = l := Nat.mod_eq_of_lt (by rw [hl]; exact numV_lt (s3 s) 4)
  have H1 : Hid (∀ W, RXI w h A c xs B w.heap.size q s (encI zeroI) W → Calls Tryz.prog 44 #[.pointer (some ⟨h, 0, none⟩), .int .i64 20] W fun e W' => ∃ A' c', e = .returned (.slice A' V1.length c') ∧ RXI w h A c xs B w.heap.size q (s1 s) (encI zeroI) W' ∧ BAt W' W'.heap.size A' V1) := Lib.hid (fun W n => by rw [hV1]; exact n.take 20 (by omega))
  have HV1 : Hid ((bcells V1).length = Nat.min V1.length 20 ∧ ∀ (W' : World) (A : Option Addr), BAt W' W'.heap.size A V1 → 0 < (bcells V1).length → ∃ ad, A = some ad ∧ ∀ j v, (bcells V1)[j]? = some v → W'.cell? (ad.add j) = some v) := by
    refine Lib.hid ⟨?_, fun W' A hA hp => hA.cells hp⟩
    rw [bcells_length]
    rcases hv20 with hv | hv
    · rw [hv]; rfl
    · rw [hv]; rfl
  have HV1L : Hid (0 + (bcells V1).length ≤ (encI zeroI).length) := Lib.hid (by
    rw [bcells_length, encI_length]
    rcases hv20 with hv | hv
    · rw [hv]; omega
    · rw [hv]; simp)
  have HV1O : Hid (∀ v ∈ bcells V1, v.oneCell' = true) := Lib.hid (bcells_oneI V1)
  have H3 : Hid (∀ w2 w3, RXI w h A c xs B w.heap.size q (s1 s) (encI zeroI) w2 → w3.heap[q]? = some (.cells (splice (encI zeroI) 0 (bcells V1)).toArray 79 (0, 0)) → w2.grownBy w3 (some q) → RXI w h A c xs B w.heap.size q (s1 s) (encR P 0 0 0 false 0 0 0 []) w3) := Lib.hid (fun w2 w3 n hq hg => n.put (by rw [← hcp]; exact hq) hg)
  have tl : ∀ (s b l : Nat) (k : Bool) (pr we po : Nat) (t : List UInt8) (j : Nat) (v : Value), ([.int .u64 (s : Int), .int .u64 (b : Int), .int .u32 (l : Int), .bool k, .int .u16 (pr : Int), .int .u16 (we : Int), .int .u16 (po : Int), .string (bstr t)] : List Value)[j]? = some v → (encR P s b l k pr we po t)[20 + j]? = some v := fun s b l k pr we po t j v hv => by
    unfold encR
    rw [List.getElem?_append_right (by rw [bcells_length, hp]; omega), bcells_length, hp, Nat.add_sub_cancel_left]
    exact hv
  have N1 : Hid (∀ W, RXI w h A c xs B w.heap.size q (s1 s) (encR P 0 0 0 false 0 0 0 []) W → Calls Tryz.prog 43 #[.pointer (some ⟨h, 0, none⟩), .int .i64 8] W fun e W' => e = .returned (.int .u64 (a : Int)) ∧ RXI w h A c xs B w.heap.size q (s2 s) (encR P 0 0 0 false 0 0 0 []) W' ∧ W'.cell? ⟨q, 20, none⟩ = some (.int .u64 0) ∧ W'.frozen? ⟨q, 20, none⟩ = false) := Lib.hid (fun W n => by rw [ha]; exact n.num 8 (by omega) (tl 0 0 0 false 0 0 0 [] 0 _ rfl))
  have P1 : Hid (∀ W, RXI w h A c xs B w.heap.size q (s2 s) (encR P 0 0 0 false 0 0 0 []) W → RXI w h A c xs B w.heap.size q (s2 s) (encR P a 0 0 false 0 0 0 []) (W.setCell ⟨q, 20, none⟩ (.int .u64 (a : Int)))) := Lib.hid (fun W n => n.set (putS hp n.hq a))
  have N2 : Hid (∀ W, RXI w h A c xs B w.heap.size q (s2 s) (encR P a 0 0 false 0 0 0 []) W → Calls Tryz.prog 43 #[.pointer (some ⟨h, 0, none⟩), .int .i64 8] W fun e W' => e = .returned (.int .u64 (b : Int)) ∧ RXI w h A c xs B w.heap.size q (s3 s) (encR P a 0 0 false 0 0 0 []) W' ∧ W'.cell? ⟨q, 21, none⟩ = some (.int .u64 0) ∧ W'.frozen? ⟨q, 21, none⟩ = false) := Lib.hid (fun W n => by rw [hb]; exact n.num 8 (by omega) (tl a 0 0 false 0 0 0 [] 1 _ rfl))
  have P2 : Hid (∀ W, RXI w h A c xs B w.heap.size q (s3 s) (encR P a 0 0 false 0 0 0 []) W → RXI w h A c xs B w.heap.size q (s3 s) (encR P a b 0 false 0 0 0 []) (W.setCell ⟨q, 21, none⟩ (.int .u64 (b : Int)))) := Lib.hid (fun W n => n.set (putBo hp n.hq b))
  have N3 : Hid (∀ W, RXI w h A c xs B w.heap.size q (s3 s) (encR P a b 0 false 0 0 0 []) W → Calls Tryz.prog 43 #[.pointer (some ⟨h, 0, none⟩), .int .i64 4] W fun e W' => e = .returned (.int .u64 (l : Int)) ∧ RXI w h A c xs B w.heap.size q (s4 s) (encR P a b 0 false 0 0 0 []) W' ∧ W'.cell? ⟨q, 22, none⟩ = some (.int .u32 0) ∧ W'.frozen? ⟨q, 22, none⟩ = false) := Lib.hid (fun W n => by rw [hl]; exact n.num 4 (by omega) (tl a b 0 false 0 0 0 [] 2 _ rfl))
  have P3 : Hid (∀ W, RXI w h A c xs B w.heap.size q (s4 s) (encR P a b 0 false 0 0 0 []) W → RXI w h A c xs B w.heap.size q (s4 s) (encR P a b l false 0 0 0 []) (W.setCell ⟨q, 22, none⟩ (.int .u32 (l : Int)))) := Lib.hid (fun W n => n.set (putLi hp n.hq l))
  have N4 : Hid (∀ W, RXI w h A c xs B w.heap.size q (s4 s) (encR P a b l false 0 0 0 []) W → Calls Tryz.prog 43 #[.pointer (some ⟨h, 0, none⟩), .int .i64 1] W fun e W' => e = .returned (.int .u64 (f : Int)) ∧ RXI w h A c xs B w.heap.size q (s5 s) (encR P a b l false 0 0 0 []) W' ∧ W'.cell? ⟨q, 23, none⟩ = some (.bool false) ∧ W'.frozen? ⟨q, 23, none⟩ = false) := Lib.hid (fun W n => by rw [hf]; exact n.num 1 (by omega) (tl a b l false 0 0 0 [] 3 _ rfl))
  have HW := Lib.hid hW0
  have HQ := Lib.hid hq
  have HS1 := Lib.hid hs1
  have HTK : Hid (∀ W q cq, RXI w h A c xs B w.heap.size q (nextS s) cq W → Calls Tryz.prog 44 #[.pointer (some ⟨h, 0, none⟩), .int .i64 (-1)] W fun e W' => ∃ v, e = .returned v ∧ RXI w h A c xs B w.heap.size q ⟨[], true⟩ cq W') := Lib.hid (fun W q cq n => by
    have := n.take (-1) (by omega)
    rw [takeS_neg] at this
    exact this.mono (by rintro e W' ⟨A', c', rfl, n', _⟩; exact ⟨_, rfl, n'⟩))
  have HG : Hid (∀ (W : World) (q : Nat), RXI w h A c xs B w.heap.size q (nextS s) (encI (nextI s)) W → Calls Tryz.prog 61 #[.agg (encI (nextI s)).toArray] W fun e W' => e = .returned (.bool (goodI (nextI s))) ∧ RXI w h A c xs B w.heap.size q (nextS s) (encI (nextI s)) W' ∧ (loadVar 79 ⟨q, 0, none⟩).run Tryz.prog W' = .ok (.agg (encI (nextI s)).toArray) W') := Lib.hid (fun W q n => (rgoodI_any (nextI s) (by have := nextI_tgt s; omega) W).mono (by
    rintro e W' ⟨rfl, hb⟩
    have n2 := n.bel hb
    exact ⟨rfl, n2, load28 (row_range n2.hq)⟩))
  have HL : Hid (∀ (W : World) (q : Nat), RXI w h A c xs B w.heap.size q (nextS s) (encI (nextI s)) W → (loadVar 79 ⟨q, 0, none⟩).run Tryz.prog W = .ok (.agg (encI (nextI s)).toArray) W) := Lib.hid (fun W q n => load28 (row_range n.hq))
  have HBU := Lib.hid (fun W => build28z W)
  have HSZ : Hid (∀ i : Ins, (Tryz.prog.info? 79).map (·.size) = some (encI i).length) := Lib.hid (fun i => by rw [encI_length]; exact size28i)
  have HNO : Hid (goodI (nextI s) = false → ∀ W', RRB W' h A c xs ⟨[], true⟩ B → w.grownBy W' (some h) → RRdIs w h A c xs B s (.returned (.tuple #[.agg (encI zeroI).toArray, .bool false])) W') := Lib.hid (fun hgd W' a b => by
      unfold RRdIs readI readS
      rw [if_neg (by rw [hgd]; simp), if_neg (by rw [hgd]; simp), hgd]
      exact ⟨rfl, a, b⟩)
  have HYES : Hid (goodI (nextI s) = true → ∀ W', RRB W' h A c xs (nextS s) B → w.grownBy W' (some h) → RRdIs w h A c xs B s (.returned (.tuple #[.agg (encI (nextI s)).toArray, .bool true])) W') := Lib.hid (fun hgd W' a b => by
      unfold RRdIs readI readS
      rw [if_pos hgd, if_pos hgd, hgd]
      exact ⟨rfl, a, b⟩)
  have HBD : Hid ((nextS s).bad = true → goodI (nextI s) = false) := Lib.hid nextS_bad
  have HF2 : Hid (1 < f → goodI (nextI s) = false) := Lib.hid (fun h => flag_two (by rw [← hf]; exact h))
  have P4 : Hid (∀ k W, RXI w h A c xs B w.heap.size q (s5 s) (encR P a b l false 0 0 0 []) W → RXI w h A c xs B w.heap.size q (s5 s) (encR P a b l k 0 0 0 []) (W.setCell ⟨q, 23, none⟩ (.bool k))) := Lib.hid (fun k W n => n.set (putGo hp n.hq k))
  by_cases h0 : f = 0
  · subst h0
    obtain ⟨pr, hpr⟩ : ∃ a, a = numV (s5 s) 2 := ⟨_, rfl⟩
    obtain ⟨we, hwe⟩ : ∃ a, a = numV (s6 s) 2 := ⟨_, rfl⟩
    obtain ⟨po, hpo⟩ : ∃ a, a = numV (s7 s) 2 := ⟨_, rfl⟩
    obtain ⟨t, ht⟩ : ∃ a, a = txtV (s8 s) 1024 := ⟨_, rfl⟩
    have m5 : pr % 65536 = pr := Nat.mod_eq_of_lt (by rw [hpr]; exact numV_lt (s5 s) 2)
    have m6 : we % 65536 = we := Nat.mod_eq_of_lt (by rw [hwe]; exact numV_lt (s6 s) 2)
    have m7 : po % 65536 = po := Nat.mod_eq_of_lt (by rw [hpo]; exact numV_lt (s7 s) 2)
    have N5 : Hid (∀ W, RXI w h A c xs B w.heap.size q (s5 s) (encR P a b l false 0 0 0 []) W → Calls Tryz.prog 43 #[.pointer (some ⟨h, 0, none⟩), .int .i64 2] W fun e W' => e = .returned (.int .u64 (pr : Int)) ∧ RXI w h A c xs B w.heap.size q (s6 s) (encR P a b l false 0 0 0 []) W' ∧ W'.cell? ⟨q, 24, none⟩ = some (.int .u16 0) ∧ W'.frozen? ⟨q, 24, none⟩ = false) := Lib.hid (fun W n => by rw [hpr]; exact n.num 2 (by omega) (tl a b l false 0 0 0 [] 4 _ rfl))
    have P5 : Hid (∀ W, RXI w h A c xs B w.heap.size q (s6 s) (encR P a b l false 0 0 0 []) W → RXI w h A c xs B w.heap.size q (s6 s) (encR P a b l false pr 0 0 []) (W.setCell ⟨q, 24, none⟩ (.int .u16 (pr : Int)))) := Lib.hid (fun W n => n.set (putPr hp n.hq pr))
    have N6 : Hid (∀ W, RXI w h A c xs B w.heap.size q (s6 s) (encR P a b l false pr 0 0 []) W → Calls Tryz.prog 43 #[.pointer (some ⟨h, 0, none⟩), .int .i64 2] W fun e W' => e = .returned (.int .u64 (we : Int)) ∧ RXI w h A c xs B w.heap.size q (s7 s) (encR P a b l false pr 0 0 []) W' ∧ W'.cell? ⟨q, 25, none⟩ = some (.int .u16 0) ∧ W'.frozen? ⟨q, 25, none⟩ = false) := Lib.hid (fun W n => by rw [hwe]; exact n.num 2 (by omega) (tl a b l false pr 0 0 [] 5 _ rfl))
    have P6 : Hid (∀ W, RXI w h A c xs B w.heap.size q (s7 s) (encR P a b l false pr 0 0 []) W → RXI w h A c xs B w.heap.size q (s7 s) (encR P a b l false pr we 0 []) (W.setCell ⟨q, 25, none⟩ (.int .u16 (we : Int)))) := Lib.hid (fun W n => n.set (putWe hp n.hq we))
    have N7 : Hid (∀ W, RXI w h A c xs B w.heap.size q (s7 s) (encR P a b l false pr we 0 []) W → Calls Tryz.prog 43 #[.pointer (some ⟨h, 0, none⟩), .int .i64 2] W fun e W' => e = .returned (.int .u64 (po : Int)) ∧ RXI w h A c xs B w.heap.size q (s8 s) (encR P a b l false pr we 0 []) W' ∧ W'.cell? ⟨q, 26, none⟩ = some (.int .u16 0) ∧ W'.frozen? ⟨q, 26, none⟩ = false) := Lib.hid (fun W n => by rw [hpo]; exact n.num 2 (by omega) (tl a b l false pr we 0 [] 6 _ rfl))
    have P7 : Hid (∀ W, RXI w h A c xs B w.heap.size q (s8 s) (encR P a b l false pr we 0 []) W → RXI w h A c xs B w.heap.size q (s8 s) (encR P a b l false pr we po []) (W.setCell ⟨q, 26, none⟩ (.int .u16 (po : Int)))) := Lib.hid (fun W n => n.set (putPo hp n.hq po))
    have N8 : Hid (∀ W, RXI w h A c xs B w.heap.size q (s8 s) (encR P a b l false pr we po []) W → Calls Tryz.prog 96 #[.pointer (some ⟨h, 0, none⟩), .int .i64 1024] W fun e W' => e = .returned (.string (bstr t)) ∧ RXI w h A c xs B w.heap.size q (s9 s) (encR P a b l false pr we po []) W' ∧ W'.cell? ⟨q, 27, none⟩ = some (.string (bstr [])) ∧ W'.frozen? ⟨q, 27, none⟩ = false) := Lib.hid (fun W n => by rw [ht]; exact n.txt 1024 (by omega) (tl a b l false pr we po [] 7 _ rfl))
    have P8 : Hid (∀ W, RXI w h A c xs B w.heap.size q (s9 s) (encR P a b l false pr we po []) W → RXI w h A c xs B w.heap.size q (s9 s) (encR P a b l false pr we po t) (W.setCell ⟨q, 27, none⟩ (.string (bstr t)))) := Lib.hid (fun W n => n.set (putTg hp n.hq t))
    have HE : Hid (encR P a b l false pr we po t = encI (nextI s) ∧ s9 s = nextS s) := Lib.hid (by
      unfold nextI nextS
      rw [if_pos hf.symm, if_pos hf.symm, encR_enc, ha, hb, hl, hP, hpr, hwe, hpo, ht]
      exact ⟨rfl, rfl⟩)
    generalize bstr t = T at *
    clear hr0 hq0 hb0 n0 hW0 hV1 hv20 hcp hrd hs1 hq tl hp ha hb hl hf hP hpr hwe hpo ht
    go_enter Tryz.func76, Tryz.ntmps76
    go_upto_region 2 with (first
      | (with_reducible refine wpList_alloc28 (o := ⟨some 2, _, _, _, _, _⟩) w.heap.size rfl rfl 2 rfl rfl ?_)
      | (with_reducible refine wpList_alloc28 (o := ⟨some 4, _, _, _, _, _⟩) (w.heap.size + 1) (by simp) rfl 4 rfl rfl ?_))
    (try rw [HS1.out])
    (try rw [← HQ.out])
    rw [← HW.out]
    clear HW
    refine wp_region_noPanic ?_
    refine wp_region_held_drew (S := fun _ => True) (by kernel_rfl) trivial (fun hHeld => ?_)
    refine takeH_at 0 6 (v := ?_) rfl rfl (by kernel_rfl) (by kernel_rfl) (by kernel_rfl) (fun _ _ _ h => h) (Or.inl ⟨by rfl, ?_⟩) (by trivial) ?_
    rotate_left
    · (intro wx hSw; (try dsimp only at hSw); go_simp) <;> with_reducible rfl
    simp only [Act.put, List.setIfInBounds_toArray, List.set_cons_zero, List.set_cons_succ]
    refine takeH_at 1 7 (v := ?_) rfl rfl (by kernel_rfl) (by kernel_rfl) (by kernel_rfl) (fun _ _ _ h => h) (Or.inl ⟨by rfl, ?_⟩) (by trivial) ?_
    rotate_left
    · (intro wx hSw; (try dsimp only at hSw); go_simp) <;> with_reducible rfl
    simp only [Act.put, List.setIfInBounds_toArray, List.set_cons_zero, List.set_cons_succ]
    refine takeH_at 2 8 (v := ?_) rfl rfl (by kernel_rfl) (by kernel_rfl) (by kernel_rfl) (fun _ _ _ h => h) (Or.inl ⟨by rfl, ?_⟩) (by trivial) ?_
    rotate_left
    · (intro wx hSw; (try dsimp only at hSw); go_simp) <;> with_reducible rfl
    simp only [Act.put, List.setIfInBounds_toArray, List.set_cons_zero, List.set_cons_succ]
    refine wpAnyH_ready (rs := [3]) (by kernel_rfl) (by simp) ?_
    refine AllReadyH.cons rfl (fun K hK => ?_) AllReadyH.nil
    go_simp
    go_wp2_with (go_at_call 44; (with_reducible refine (H1.out _ N0.out).mono ?_); rintro e2 w2 ⟨A2, c2, rfl, n2, hA2⟩)
    refine hK.out _ _ (by trivial) (fun hHeld => ?_)
    clear hK K
    refine wpAnyH_ready (rs := [4]) (by kernel_rfl) (by simp) ?_
    refine AllReadyH.cons rfl (fun K hK => ?_) AllReadyH.nil
    refine step_copy_row rfl 10 rfl (.tmp 7) (.tmp 9) 31 31 rfl 5 Tryz.underlying31 size5c (some ⟨q, 0, none⟩) _ 20 20 V1.length c2 rfl rfl q 0 (encI zeroI) 79 n2.hq (bcells V1) (HV1.out.1) (fun hp => ⟨rfl, HV1.out.2 _ _ hA2 hp⟩) HV1L.out HV1O.out ?_
    intro w3 hq3 hg3
    refine hK.out _ _ (by trivial) (fun hHeld => ?_)
    clear hK K
    refine wpAnyH_done (by kernel_rfl) ?_ _
    refine NoPanic.normal ?_
    simp only [Act.put, List.setIfInBounds_toArray, List.set_cons_zero, List.set_cons_succ]
    have n3 := H3.out _ _ n2 hq3 hg3
    clear n2 hq3 hg3 H1 H3 N0 HV1 HV1L HV1O hA2
    have hP4 := P4.out false
    go_upto_region 13 with (first
      | (go_at_call 43; (with_reducible refine (N1.out _ n3).mono ?_); rintro e4 w4 ⟨rfl, n4, c4, f4⟩)
      | (go_at_call 43; (with_reducible refine (N2.out _ (P1.out _ n4)).mono ?_); rintro e5 w5 ⟨rfl, n5, c5, f5⟩)
      | (go_at_call 43; (with_reducible refine (N3.out _ (P2.out _ n5)).mono ?_); rintro e6 w6 ⟨rfl, n6, c6, f6⟩)
      | (go_at_call 43; (with_reducible refine (N4.out _ (P3.out _ n6)).mono ?_); rintro e7 w7 ⟨rfl, n7, c7, f7⟩)
      | (go_at_call 43; (with_reducible refine (N5.out _ (hP4 _ n7)).mono ?_); rintro e10 w10 ⟨rfl, n10, c10, f10⟩)
      | (go_at_call 43; (with_reducible refine (N6.out _ (P5.out _ n10)).mono ?_); rintro e11 w11 ⟨rfl, n11, c11, f11⟩)
      | (go_at_call 43; (with_reducible refine (N7.out _ (P6.out _ n11)).mono ?_); rintro e12 w12 ⟨rfl, n12, c12, f12⟩)
      | (go_at_call 96; (with_reducible refine (N8.out _ (P7.out _ n12)).mono ?_); rintro e13 w13 ⟨rfl, n13, c13, f13⟩))
    have nE := P8.out _ n13
    rw [HE.out.1, HE.out.2] at nE
    generalize w13.setCell ⟨q, 27, none⟩ (.string T) = wE at *
    have cb := nE.bad
    clear HE hP4 n13 n12 n11 n10 n7 n6 n5 n4 n3 N1 N2 N3 N4 N5 N6 N7 N8 P1 P2 P3 P4 P5 P6 P7 P8 c4 c5 c6 c7 c10 c11 c12 c13 f4 f5 f6 f7 f10 f11 f12 f13
    cases hbd : (nextS s).bad
    · rw [hbd] at cb
      have HLD := Lib.hid (HL.out _ _ nE)
      cases hgd : goodI (nextI s)
      · rw [hgd] at HG
        generalize hNI : nextI s = NI at *
        generalize hY : (encI NI).toArray = Y at *
        go_wp2_with (first
          | ((with_reducible refine wpList_loadG (o := ⟨some 52, _, _, _, _, _⟩) rfl 79 (.tmp 4) rfl ⟨q, 0, none⟩ ?_ _ HLD.out ?_); rfl)
          | (go_at_call 61; (with_reducible refine (HG.out _ _ nE).mono ?_); rintro e19 w19 ⟨rfl, n19, hl19⟩)
          | (go_at_call 44; (with_reducible refine (HTK.out _ _ _ n19).mono ?_); rintro e20 w20 ⟨v20, rfl, n20⟩)
          | ((with_reducible refine wpList_buildV (o := ⟨some 58, _, _, _, _, _⟩) rfl 79 #[] rfl #[] ?_ _ (HBU.out _) ?_); rfl)
          | ((with_reducible refine wpList_store28 (o := ⟨none, _, _, _, _, _⟩) rfl (.tmp 2) (.tmp 58) rfl w.heap.size zeroI ?_ ?_ (n20.fin zeroI).1 ?_); rfl; rfl))
        refine bodyPost_ret (v := .tuple #[.agg (encI zeroI).toArray, .bool false]) ?_ rfl ?_
        · exact results_cs (p := 2) (t := 3) (ty := 79) rfl _ _ w.heap.size 0 (encI zeroI) _ _ rfl rfl (n20.fin zeroI).2.1 Tryz.underlying79 rfl (HSZ.out _)
        · exact HNO.out hgd _ (n20.fin zeroI).2.2.1 (n20.fin zeroI).2.2.2
      · rw [hgd] at HG
        generalize hNI : nextI s = NI at *
        obtain ⟨Y, hY⟩ : ∃ Y, Y = (encI NI).toArray := ⟨_, rfl⟩
        have HY := Lib.hid hY
        rw [← hY] at HG HL HLD
        clear hY
        go_wp2_with (first
          | ((with_reducible refine wpList_loadG (o := ⟨some 52, _, _, _, _, _⟩) rfl 79 (.tmp 4) rfl ⟨q, 0, none⟩ ?_ _ HLD.out ?_); rfl)
          | (go_at_call 61; (with_reducible refine (HG.out _ _ nE).mono ?_); rintro e19 w19 ⟨rfl, n19, hl19⟩)
          | ((with_reducible refine wpList_loadV (op := ⟨some 59, _, _, _, _, _⟩) rfl 79 (.tmp 4) rfl ⟨q, 0, none⟩ ?_ _ hl19 ?_); rfl)
          | ((with_reducible refine wpList_store28 (o := ⟨none, _, _, _, _, _⟩) rfl (.tmp 2) (.tmp 59) rfl w.heap.size NI ?_ ?_ (n19.fin NI).1 ?_); rfl; (rw [← HY.out]; rfl)))
        refine bodyPost_ret (v := .tuple #[.agg (encI NI).toArray, .bool true]) ?_ rfl ?_
        · exact results_cs (p := 2) (t := 3) (ty := 79) rfl _ _ w.heap.size 0 (encI NI) _ _ rfl rfl (n19.fin NI).2.1 Tryz.underlying79 rfl (HSZ.out _)
        · exact HYES.out hgd _ (n19.fin NI).2.2.1 (n19.fin NI).2.2.2
    · rw [hbd] at cb
      go_wp2_with (first
        | (go_at_call 44; (with_reducible refine (HTK.out _ _ _ nE).mono ?_); rintro e20 w20 ⟨v20, rfl, n20⟩)
        | ((with_reducible refine wpList_buildV (o := ⟨some 58, _, _, _, _, _⟩) rfl 79 #[] rfl #[] ?_ _ (HBU.out _) ?_); rfl)
        | ((with_reducible refine wpList_store28 (o := ⟨none, _, _, _, _, _⟩) rfl (.tmp 2) (.tmp 58) rfl w.heap.size zeroI ?_ ?_ (n20.fin zeroI).1 ?_); rfl; rfl))
      refine bodyPost_ret (v := .tuple #[.agg (encI zeroI).toArray, .bool false]) ?_ rfl ?_
      · exact results_cs (p := 2) (t := 3) (ty := 79) rfl _ _ w.heap.size 0 (encI zeroI) _ _ rfl rfl (n20.fin zeroI).2.1 Tryz.underlying79 rfl (HSZ.out _)
      · exact HNO.out (HBD.out hbd) _ (n20.fin zeroI).2.2.1 (n20.fin zeroI).2.2.2
  · by_cases h1 : f = 1
    · subst h1
      have HE : Hid (encR P a b l true 0 0 0 [] = encI (nextI s) ∧ s5 s = nextS s) := Lib.hid (by
        unfold nextI nextS
        rw [if_neg (by omega), if_neg (by omega), encR_enc, ha, hb, hl, hP, ← hf]
        exact ⟨rfl, rfl⟩)
      clear hr0 hq0 hb0 n0 hW0 hV1 hv20 hcp hrd hs1 hq tl hp ha hb hl hf hP h0
      go_enter Tryz.func76, Tryz.ntmps76
      go_upto_region 2 with (first
        | (with_reducible refine wpList_alloc28 (o := ⟨some 2, _, _, _, _, _⟩) w.heap.size rfl rfl 2 rfl rfl ?_)
        | (with_reducible refine wpList_alloc28 (o := ⟨some 4, _, _, _, _, _⟩) (w.heap.size + 1) (by simp) rfl 4 rfl rfl ?_))
      (try rw [HS1.out])
      (try rw [← HQ.out])
      rw [← HW.out]
      clear HW
      refine wp_region_noPanic ?_
      refine wp_region_held_drew (S := fun _ => True) (by kernel_rfl) trivial (fun hHeld => ?_)
      refine takeH_at 0 6 (v := ?_) rfl rfl (by kernel_rfl) (by kernel_rfl) (by kernel_rfl) (fun _ _ _ h => h) (Or.inl ⟨by rfl, ?_⟩) (by trivial) ?_
      rotate_left
      · (intro wx hSw; (try dsimp only at hSw); go_simp) <;> with_reducible rfl
      simp only [Act.put, List.setIfInBounds_toArray, List.set_cons_zero, List.set_cons_succ]
      refine takeH_at 1 7 (v := ?_) rfl rfl (by kernel_rfl) (by kernel_rfl) (by kernel_rfl) (fun _ _ _ h => h) (Or.inl ⟨by rfl, ?_⟩) (by trivial) ?_
      rotate_left
      · (intro wx hSw; (try dsimp only at hSw); go_simp) <;> with_reducible rfl
      simp only [Act.put, List.setIfInBounds_toArray, List.set_cons_zero, List.set_cons_succ]
      refine takeH_at 2 8 (v := ?_) rfl rfl (by kernel_rfl) (by kernel_rfl) (by kernel_rfl) (fun _ _ _ h => h) (Or.inl ⟨by rfl, ?_⟩) (by trivial) ?_
      rotate_left
      · (intro wx hSw; (try dsimp only at hSw); go_simp) <;> with_reducible rfl
      simp only [Act.put, List.setIfInBounds_toArray, List.set_cons_zero, List.set_cons_succ]
      refine wpAnyH_ready (rs := [3]) (by kernel_rfl) (by simp) ?_
      refine AllReadyH.cons rfl (fun K hK => ?_) AllReadyH.nil
      go_simp
      go_wp2_with (go_at_call 44; (with_reducible refine (H1.out _ N0.out).mono ?_); rintro e2 w2 ⟨A2, c2, rfl, n2, hA2⟩)
      refine hK.out _ _ (by trivial) (fun hHeld => ?_)
      clear hK K
      refine wpAnyH_ready (rs := [4]) (by kernel_rfl) (by simp) ?_
      refine AllReadyH.cons rfl (fun K hK => ?_) AllReadyH.nil
      refine step_copy_row rfl 10 rfl (.tmp 7) (.tmp 9) 31 31 rfl 5 Tryz.underlying31 size5c (some ⟨q, 0, none⟩) _ 20 20 V1.length c2 rfl rfl q 0 (encI zeroI) 79 n2.hq (bcells V1) (HV1.out.1) (fun hp => ⟨rfl, HV1.out.2 _ _ hA2 hp⟩) HV1L.out HV1O.out ?_
      intro w3 hq3 hg3
      refine hK.out _ _ (by trivial) (fun hHeld => ?_)
      clear hK K
      refine wpAnyH_done (by kernel_rfl) ?_ _
      refine NoPanic.normal ?_
      simp only [Act.put, List.setIfInBounds_toArray, List.set_cons_zero, List.set_cons_succ]
      have n3 := H3.out _ _ n2 hq3 hg3
      clear n2 hq3 hg3 H1 H3 N0 HV1 HV1L HV1O hA2
      go_upto_region 13 with (first
        | (go_at_call 43; (with_reducible refine (N1.out _ n3).mono ?_); rintro e4 w4 ⟨rfl, n4, c4, f4⟩)
        | (go_at_call 43; (with_reducible refine (N2.out _ (P1.out _ n4)).mono ?_); rintro e5 w5 ⟨rfl, n5, c5, f5⟩)
        | (go_at_call 43; (with_reducible refine (N3.out _ (P2.out _ n5)).mono ?_); rintro e6 w6 ⟨rfl, n6, c6, f6⟩)
        | (go_at_call 43; (with_reducible refine (N4.out _ (P3.out _ n6)).mono ?_); rintro e7 w7 ⟨rfl, n7, c7, f7⟩))
      have nE := P4.out true _ n7
      rw [HE.out.1, HE.out.2] at nE
      generalize w7.setCell ⟨q, 23, none⟩ (.bool true) = wE at *
      have cb := nE.bad
      clear HE n7 n6 n5 n4 n3 N1 N2 N3 N4 P1 P2 P3 P4 c4 c5 c6 c7 f4 f5 f6 f7
      cases hbd : (nextS s).bad
      · rw [hbd] at cb
        have HLD := Lib.hid (HL.out _ _ nE)
        cases hgd : goodI (nextI s)
        · rw [hgd] at HG
          generalize hNI : nextI s = NI at *
          generalize hY : (encI NI).toArray = Y at *
          go_wp2_with (first
            | ((with_reducible refine wpList_loadG (o := ⟨some 52, _, _, _, _, _⟩) rfl 79 (.tmp 4) rfl ⟨q, 0, none⟩ ?_ _ HLD.out ?_); rfl)
            | (go_at_call 61; (with_reducible refine (HG.out _ _ nE).mono ?_); rintro e19 w19 ⟨rfl, n19, hl19⟩)
            | (go_at_call 44; (with_reducible refine (HTK.out _ _ _ n19).mono ?_); rintro e20 w20 ⟨v20, rfl, n20⟩)
            | ((with_reducible refine wpList_buildV (o := ⟨some 58, _, _, _, _, _⟩) rfl 79 #[] rfl #[] ?_ _ (HBU.out _) ?_); rfl)
            | ((with_reducible refine wpList_store28 (o := ⟨none, _, _, _, _, _⟩) rfl (.tmp 2) (.tmp 58) rfl w.heap.size zeroI ?_ ?_ (n20.fin zeroI).1 ?_); rfl; rfl))
          refine bodyPost_ret (v := .tuple #[.agg (encI zeroI).toArray, .bool false]) ?_ rfl ?_
          · exact results_cs (p := 2) (t := 3) (ty := 79) rfl _ _ w.heap.size 0 (encI zeroI) _ _ rfl rfl (n20.fin zeroI).2.1 Tryz.underlying79 rfl (HSZ.out _)
          · exact HNO.out hgd _ (n20.fin zeroI).2.2.1 (n20.fin zeroI).2.2.2
        · rw [hgd] at HG
          generalize hNI : nextI s = NI at *
          obtain ⟨Y, hY⟩ : ∃ Y, Y = (encI NI).toArray := ⟨_, rfl⟩
          have HY := Lib.hid hY
          rw [← hY] at HG HL HLD
          clear hY
          go_wp2_with (first
            | ((with_reducible refine wpList_loadG (o := ⟨some 52, _, _, _, _, _⟩) rfl 79 (.tmp 4) rfl ⟨q, 0, none⟩ ?_ _ HLD.out ?_); rfl)
            | (go_at_call 61; (with_reducible refine (HG.out _ _ nE).mono ?_); rintro e19 w19 ⟨rfl, n19, hl19⟩)
            | ((with_reducible refine wpList_loadV (op := ⟨some 59, _, _, _, _, _⟩) rfl 79 (.tmp 4) rfl ⟨q, 0, none⟩ ?_ _ hl19 ?_); rfl)
            | ((with_reducible refine wpList_store28 (o := ⟨none, _, _, _, _, _⟩) rfl (.tmp 2) (.tmp 59) rfl w.heap.size NI ?_ ?_ (n19.fin NI).1 ?_); rfl; (rw [← HY.out]; rfl)))
          refine bodyPost_ret (v := .tuple #[.agg (encI NI).toArray, .bool true]) ?_ rfl ?_
          · exact results_cs (p := 2) (t := 3) (ty := 79) rfl _ _ w.heap.size 0 (encI NI) _ _ rfl rfl (n19.fin NI).2.1 Tryz.underlying79 rfl (HSZ.out _)
          · exact HYES.out hgd _ (n19.fin NI).2.2.1 (n19.fin NI).2.2.2
      · rw [hbd] at cb
        go_wp2_with (first
          | (go_at_call 44; (with_reducible refine (HTK.out _ _ _ nE).mono ?_); rintro e20 w20 ⟨v20, rfl, n20⟩)
          | ((with_reducible refine wpList_buildV (o := ⟨some 58, _, _, _, _, _⟩) rfl 79 #[] rfl #[] ?_ _ (HBU.out _) ?_); rfl)
          | ((with_reducible refine wpList_store28 (o := ⟨none, _, _, _, _, _⟩) rfl (.tmp 2) (.tmp 58) rfl w.heap.size zeroI ?_ ?_ (n20.fin zeroI).1 ?_); rfl; rfl))
        refine bodyPost_ret (v := .tuple #[.agg (encI zeroI).toArray, .bool false]) ?_ rfl ?_
        · exact results_cs (p := 2) (t := 3) (ty := 79) rfl _ _ w.heap.size 0 (encI zeroI) _ _ rfl rfl (n20.fin zeroI).2.1 Tryz.underlying79 rfl (HSZ.out _)
        · exact HNO.out (HBD.out hbd) _ (n20.fin zeroI).2.2.1 (n20.fin zeroI).2.2.2
    · have h1' : ((f : Int) == 1) = false := by rw [beq_eq_false_iff_ne]; omega
      have h0' : ((f : Int) == 0) = false := by rw [beq_eq_false_iff_ne]; omega
      have h2' : (1 : Int) < (f : Int) := by omega
      have HT : Hid (1 < f) := Lib.hid (by omega)
      have HE : Hid (encR P a b l false 0 0 0 [] = encI (nextI s) ∧ s5 s = nextS s) := Lib.hid (by
        unfold nextI nextS
        rw [if_neg (by omega), if_neg (by omega), encR_enc, ha, hb, hl, hP, ← hf, decide_eq_false h1]
        exact ⟨rfl, rfl⟩)
      clear hr0 hq0 hb0 n0 hW0 hV1 hv20 hcp hrd hs1 hq tl hp ha hb hl hf hP h0 h1
      go_enter Tryz.func76, Tryz.ntmps76
      go_upto_region 2 with (first
        | (with_reducible refine wpList_alloc28 (o := ⟨some 2, _, _, _, _, _⟩) w.heap.size rfl rfl 2 rfl rfl ?_)
        | (with_reducible refine wpList_alloc28 (o := ⟨some 4, _, _, _, _, _⟩) (w.heap.size + 1) (by simp) rfl 4 rfl rfl ?_))
      (try rw [HS1.out])
      (try rw [← HQ.out])
      rw [← HW.out]
      clear HW
      refine wp_region_noPanic ?_
      refine wp_region_held_drew (S := fun _ => True) (by kernel_rfl) trivial (fun hHeld => ?_)
      refine takeH_at 0 6 (v := ?_) rfl rfl (by kernel_rfl) (by kernel_rfl) (by kernel_rfl) (fun _ _ _ h => h) (Or.inl ⟨by rfl, ?_⟩) (by trivial) ?_
      rotate_left
      · (intro wx hSw; (try dsimp only at hSw); go_simp) <;> with_reducible rfl
      simp only [Act.put, List.setIfInBounds_toArray, List.set_cons_zero, List.set_cons_succ]
      refine takeH_at 1 7 (v := ?_) rfl rfl (by kernel_rfl) (by kernel_rfl) (by kernel_rfl) (fun _ _ _ h => h) (Or.inl ⟨by rfl, ?_⟩) (by trivial) ?_
      rotate_left
      · (intro wx hSw; (try dsimp only at hSw); go_simp) <;> with_reducible rfl
      simp only [Act.put, List.setIfInBounds_toArray, List.set_cons_zero, List.set_cons_succ]
      refine takeH_at 2 8 (v := ?_) rfl rfl (by kernel_rfl) (by kernel_rfl) (by kernel_rfl) (fun _ _ _ h => h) (Or.inl ⟨by rfl, ?_⟩) (by trivial) ?_
      rotate_left
      · (intro wx hSw; (try dsimp only at hSw); go_simp) <;> with_reducible rfl
      simp only [Act.put, List.setIfInBounds_toArray, List.set_cons_zero, List.set_cons_succ]
      refine wpAnyH_ready (rs := [3]) (by kernel_rfl) (by simp) ?_
      refine AllReadyH.cons rfl (fun K hK => ?_) AllReadyH.nil
      go_simp
      go_wp2_with (go_at_call 44; (with_reducible refine (H1.out _ N0.out).mono ?_); rintro e2 w2 ⟨A2, c2, rfl, n2, hA2⟩)
      refine hK.out _ _ (by trivial) (fun hHeld => ?_)
      clear hK K
      refine wpAnyH_ready (rs := [4]) (by kernel_rfl) (by simp) ?_
      refine AllReadyH.cons rfl (fun K hK => ?_) AllReadyH.nil
      refine step_copy_row rfl 10 rfl (.tmp 7) (.tmp 9) 31 31 rfl 5 Tryz.underlying31 size5c (some ⟨q, 0, none⟩) _ 20 20 V1.length c2 rfl rfl q 0 (encI zeroI) 79 n2.hq (bcells V1) (HV1.out.1) (fun hp => ⟨rfl, HV1.out.2 _ _ hA2 hp⟩) HV1L.out HV1O.out ?_
      intro w3 hq3 hg3
      refine hK.out _ _ (by trivial) (fun hHeld => ?_)
      clear hK K
      refine wpAnyH_done (by kernel_rfl) ?_ _
      refine NoPanic.normal ?_
      simp only [Act.put, List.setIfInBounds_toArray, List.set_cons_zero, List.set_cons_succ]
      have n3 := H3.out _ _ n2 hq3 hg3
      clear n2 hq3 hg3 H1 H3 N0 HV1 HV1L HV1O hA2
      go_upto_region 13 with (first
        | (go_at_call 43; (with_reducible refine (N1.out _ n3).mono ?_); rintro e4 w4 ⟨rfl, n4, c4, f4⟩)
        | (go_at_call 43; (with_reducible refine (N2.out _ (P1.out _ n4)).mono ?_); rintro e5 w5 ⟨rfl, n5, c5, f5⟩)
        | (go_at_call 43; (with_reducible refine (N3.out _ (P2.out _ n5)).mono ?_); rintro e6 w6 ⟨rfl, n6, c6, f6⟩)
        | (go_at_call 43; (with_reducible refine (N4.out _ (P3.out _ n6)).mono ?_); rintro e7 w7 ⟨rfl, n7, c7, f7⟩))
      have nE := P4.out false _ n7
      rw [HE.out.1, HE.out.2] at nE
      generalize w7.setCell ⟨q, 23, none⟩ (.bool false) = wE at *
      have cb := nE.bad
      clear HE n7 n6 n5 n4 n3 N1 N2 N3 N4 P1 P2 P3 P4 c4 c5 c6 c7 f4 f5 f6 f7
      cases hbd : (nextS s).bad
      · rw [hbd] at cb
        go_wp2_with (first
          | (go_at_call 44; (with_reducible refine (HTK.out _ _ _ nE).mono ?_); rintro e20 w20 ⟨v20, rfl, n20⟩)
          | ((with_reducible refine wpList_buildV (o := ⟨some 58, _, _, _, _, _⟩) rfl 79 #[] rfl #[] ?_ _ (HBU.out _) ?_); rfl)
          | ((with_reducible refine wpList_store28 (o := ⟨none, _, _, _, _, _⟩) rfl (.tmp 2) (.tmp 58) rfl w.heap.size zeroI ?_ ?_ (n20.fin zeroI).1 ?_); rfl; rfl))
        refine bodyPost_ret (v := .tuple #[.agg (encI zeroI).toArray, .bool false]) ?_ rfl ?_
        · exact results_cs (p := 2) (t := 3) (ty := 79) rfl _ _ w.heap.size 0 (encI zeroI) _ _ rfl rfl (n20.fin zeroI).2.1 Tryz.underlying79 rfl (HSZ.out _)
        · exact HNO.out (HF2.out HT.out) _ (n20.fin zeroI).2.2.1 (n20.fin zeroI).2.2.2
      · rw [hbd] at cb
        go_wp2_with (first
          | (go_at_call 44; (with_reducible refine (HTK.out _ _ _ nE).mono ?_); rintro e20 w20 ⟨v20, rfl, n20⟩)
          | ((with_reducible refine wpList_buildV (o := ⟨some 58, _, _, _, _, _⟩) rfl 79 #[] rfl #[] ?_ _ (HBU.out _) ?_); rfl)
          | ((with_reducible refine wpList_store28 (o := ⟨none, _, _, _, _, _⟩) rfl (.tmp 2) (.tmp 58) rfl w.heap.size zeroI ?_ ?_ (n20.fin zeroI).1 ?_); rfl; rfl))
        refine bodyPost_ret (v := .tuple #[.agg (encI zeroI).toArray, .bool false]) ?_ rfl ?_
        · exact results_cs (p := 2) (t := 3) (ty := 79) rfl _ _ w.heap.size 0 (encI zeroI) _ _ rfl rfl (n20.fin zeroI).2.1 Tryz.underlying79 rfl (HSZ.out _)
        · exact HNO.out (HBD.out hbd) _ (n20.fin zeroI).2.2.1 (n20.fin zeroI).2.2.2
end Go.Proofs.YtehgpnnfjgmiiaaGreat
