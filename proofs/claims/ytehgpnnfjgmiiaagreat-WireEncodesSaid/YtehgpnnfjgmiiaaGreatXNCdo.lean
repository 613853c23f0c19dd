/- Contract of ReadList of package contact. Conditions: at most 900,000 bytes. Contract of lives of the statements on contact. No condition. Plain facts on reading lists of contacts. No condition. The walk of the statement ContactBack: it answers true. Conditions: the bytes ahead and behind are fewer than 2^47 each. -/
import Derived.Test.YtehgpnnfjgmiiaaGreatXOja
import Derived.Test.YtehgpnnfjgmiiaaGreatXOgb
import Derived.Test.YtehgpnnfjgmiiaaGreatXIiv
import Derived.Test.YtehgpnnfjgmiiaaGreatXWab
import Derived.Test.YtehgpnnfjgmiiaaGreatXObc
import Derived.Test.YtehgpnnfjgmiiaaGreatXOaa
import Derived.Test.YtehgpnnfjgmiiaaGreatXROcc
import Derived.Test.YtehgpnnfjgmiiaaGreatXRERefc
import Derived.Test.YtehgpnnfjgmiiaaGreatXRIip
import Derived.Test.YtehgpnnfjgmiiaaGreatXREMathb
import Derived.Test.YtehgpnnfjgmiiaaGreatXNCdm
import Derived.Test.YtehgpnnfjgmiiaaGreatXNCrd
import Derived.Test.YtehgpnnfjgmiiaaGreatXNCsa
import Derived.Lib.ConvBytes
section
namespace Go.Proofs.YtehgpnnfjgmiiaaGreat
open Go.Shelf Go.RowKit Go.Lib Go.Sort Go.Great
set_option maxRecDepth 100000
set_option maxHeartbeats 1000000
/-- n contacts, read one behind the other. -/
def nxI : Nat → St → List Con × St
  | 0, s => ([], s)
  | n + 1, s => ((nxI n s).1 ++ [nxC (nxI n s).2], nxS (nxI n s).2)
theorem nxI_len (n : Nat) (s : St) : (nxI n s).1.length = n := by
  induction n with
  | zero => rfl
  | succ n ih => rw [nxI, List.length_append, ih]; rfl
/-- What ReadList tells, and leaves. -/
def rlG (s : St) : Bool := goodC (ctsC (nxI (numV s 1) (numS s 1)).1)
def rlL (s : St) : List Con := if rlG s then (nxI (numV s 1) (numS s 1)).1 else []
def rlS (s : St) : St := if rlG s then (nxI (numV s 1) (numS s 1)).2 else ⟨[], true⟩
def RlIs (w : World) (g : Nat) (s : St) (e : Ending) (w' : World) : Prop :=
  ∃ A c, e = .returned (.slice A (rlL s).length c) ∧ CAt w' w'.heap.size A (rlL s) ∧ (A = none ∨ ∃ g off, A = some ⟨g, off, none⟩) ∧ RdrS w' g (rlS s) ∧ w.grownBy w' (some g)
theorem spoil_anyN {w : World} {g : Nat} {s : St} (h : RdrS w g s) : Calls Tryz.prog 92 #[.pointer (some ⟨g, 0, none⟩)] w fun e w' => e = .returned (.tuple #[]) ∧ RdrS w' g ⟨[], true⟩ ∧ w.grownBy w' (some g) := by
  have HT : Hid (Calls Tryz.prog 67 #[.pointer (some ⟨g, 0, none⟩), .int .i64 (-1)] w fun e w' => ∃ v, e = .returned v ∧ RdrS w' g ⟨[], true⟩ ∧ w.grownBy w' (some g)) := by
    refine Lib.hid ((take_any h (-1) (by omega)).mono ?_)
    rintro e w' ⟨v, rfl, _, hr, hg⟩
    have e1 : takeS s (-1) = ⟨[], true⟩ := by
      unfold takeS
      rw [if_neg (by intro hk; have := hk.2.1; omega)]
    rw [e1] at hr
    exact ⟨v, rfl, hr, hg⟩
  clear h
  go_enter Tryz.func92, Tryz.ntmps92
  go_wp2_with (first | (go_at_call 67; (with_reducible refine HT.out.mono ?_); rintro e w1 ⟨v, rfl, hr, hg⟩))
  go_end0
  exact ⟨rfl, hr, hg⟩
theorem readlist_any {w : World} {g : Nat} {s : St} (h : RdrS w g s) : Calls Tryz.prog 69 #[.pointer (some ⟨g, 0, none⟩)] w (RlIs w g s) := by
  have HN := Lib.hid (num_any h 1 (by omega))
  unfold NumP at HN
  obtain ⟨N, hN⟩ : ∃ N, N = numV s 1 := ⟨_, rfl⟩
  have hN1 : N < 256 := by rw [hN]; exact numV1_lt s
  obtain ⟨s1, hs1⟩ : ∃ s1, s1 = numS s 1 := ⟨_, rfl⟩
  rw [← hN, ← hs1] at HN
  have HE : Hid (N = numV s 1 ∧ s1 = numS s 1) := Lib.hid ⟨hN, hs1⟩
  clear h hN hs1
  go_enter Tryz.func69, Tryz.ntmps69
  go_upto_region 3 with (first | (go_at_call 40; (with_reducible refine HN.out.mono ?_); rintro e1 w1 ⟨rfl, hr1, hg1⟩))
  have HR1 := Lib.hid hr1
  have HG1 := Lib.hid hg1
  have hgl := hr1.lt
  clear HN hr1 hg1
  go_loopg [3, 6] N (fun kx s3 s6 wr => ∃ (j : Nat), j ≤ N ∧ N - j ≤ kx ∧ s6 = .int .u64 (j : Int) ∧ wr.ownsRow w1.heap.size 63 22 s3 (nxI j s1).1.length (flatE encC (nxI j s1).1) ∧ RdrB wr g (nxI j s1).2 w1.heap.size ∧ w1.grownBy wr (some g))
  case atStart => exact ⟨0, by omega, by omega, rfl, World.ownsRow_nil w1 _ 63 22, HR1.out.rb, World.grownBy.refl _ _⟩
  case round =>
    obtain ⟨j, hj, hkx, rfl, ho, hrd, hgr⟩ := hrel
    clear HR1
    by_cases hlt : j < N
    · have hlt' : (j : Int) < (N : Int) := by omega
      obtain ⟨L, hL⟩ : ∃ L, L = (nxI j s1).1 := ⟨_, rfl⟩
      obtain ⟨sj, hsj⟩ : ∃ sj, sj = (nxI j s1).2 := ⟨_, rfl⟩
      rw [← hL] at ho
      rw [← hsj] at hrd
      have hLl : L.length = j := by rw [hL]; exact nxI_len j s1
      have H1 : Hid (Calls Tryz.prog 91 #[.pointer (some ⟨g, 0, none⟩)] wr fun e w2 => e = .returned (.agg (encC (nxC sj)).toArray) ∧ RdrB w2 g (nxS sj) w1.heap.size ∧ w1.grownBy w2 (some g) ∧ wr.grownBy w2 (some g)) := by
        refine Lib.hid ((next_any hrd (by have := hgr.size; omega)).mono ?_)
        rintro e w2 ⟨rfl, a, b⟩
        exact ⟨rfl, a, grownBy_trans hgr b, b⟩
      obtain ⟨A3, c3, hv3, hn3, _⟩ := own_formC ho
      obtain ⟨nl, hnl⟩ : ∃ nl, nl = L.length := ⟨_, rfl⟩
      rw [← hnl] at hv3
      subst hv3
      have HO : Hid (∀ w2, wr.grownBy w2 (some g) → (w2.alloc (.cells (encC (nxC sj)).toArray 63)).ownsRow w1.heap.size 63 22 (.slice A3 nl c3) L.length (flatE encC L)) := by
        refine Lib.hid (fun w2 hg2 => ?_)
        have h1 := ho.kept hg2 (by
          cases hk : (Value.slice A3 nl c3).ownBlock with
          | none => exact .inl rfl
          | some k =>
            right
            have := (ho.lt k hk).1
            intro e
            injection e with e
            omega)
        exact h1.kept (grown_of_bel ((Below.refl _ w2).alloc (Nat.le_refl _) _) none) (by cases (Value.slice A3 nl c3).ownBlock <;> simp)
      have HFIN : Hid (∀ w2 v' w', RdrB w2 g (nxS sj) w1.heap.size → w1.grownBy w2 (some g) → wr.grownBy w2 (some g) → w'.ownsRow w1.heap.size 63 22 v' (L ++ [nxC sj]).length (flatE encC (L ++ [nxC sj])) → (w2.alloc (.cells (encC (nxC sj)).toArray 63)).grownBy w' (Value.slice A3 nl c3).ownBlock → w'.ownsRow w1.heap.size 63 22 v' (nxI (j + 1) s1).1.length (flatE encC (nxI (j + 1) s1).1) ∧ RdrB w' g (nxI (j + 1) s1).2 w1.heap.size ∧ w1.grownBy w' (some g)) := by
        refine Lib.hid (fun w2 v' w' hr2 hg2 hgw ho' hg' => ?_)
        have e1 : nxI (j + 1) s1 = (L ++ [nxC sj], nxS sj) := by rw [nxI, ← hL, ← hsj]
        rw [e1]
        have hba : Below w2.heap.size w2 (w2.alloc (.cells (encC (nxC sj)).toArray 63)) := (Below.refl _ w2).alloc (Nat.le_refl _) _
        have hob : ∀ k, (Value.slice A3 nl c3).ownBlock = some k → w1.heap.size ≤ k := fun k hk => (ho.lt k hk).1
        have hs12 := hg2.size
        refine ⟨ho', (hr2.below hba).keep (hg'.block g (Nat.lt_of_lt_of_le hr2.lt hba.size) (by intro e; have := hob g (by first | exact e | exact e.symm); omega)) hg'.size (fun i hi _ => hg'.block i (by have := hba.size; omega) (by intro e; have := hob i (by first | exact e | exact e.symm); omega)), ?_⟩
        have hg3 := grownBy_trans hg2 (grown_of_bel hba (some g))
        exact ⟨hg'.os.trans hg3.os, hg'.tape.trans hg3.tape, hg'.output.trans hg3.output, Nat.le_trans hg3.size hg'.size, fun i hi hne => (hg'.block i (Nat.lt_of_lt_of_le hi hg3.size) (by intro e; have := hob i (by first | exact e | exact e.symm); omega)).trans (hg3.block i hi hne)⟩
      have HLE : Hid (L.length + [nxC sj].length ≤ 1000000) := Lib.hid (by rw [hLl]; simp; omega)
      have HSZ : Hid (∀ w2, w1.grownBy w2 (some g) → w1.heap.size ≤ (w2.alloc (.cells (encC (nxC sj)).toArray 63)).heap.size) := Lib.hid (fun w2 hg2 => by have := hg2.size; simp; omega)
      clear ho hrd hgr hL hsj hLl hnl hn3
      go_wp2_with (first
        | (go_at_call 91; (with_reducible refine H1.out.mono ?_); rintro e2 w2 ⟨rfl, hr2, hg2, hgw2⟩)
        | ((with_reducible refine wpList_build_oneC conP (nxC sj) (o := ⟨some 11, _, _, _, _, _⟩) rfl (.tmp 10) rfl ?_ ?_); rfl)
        | (refine wpList_append_con conP rfl (.tmp 8) (.tmp 11) rfl w1.heap.size _ L [nxC sj] rfl (HO.out _ hgw2) _ rfl (src_newC conP (nxC sj) w2) HLE.out (HSZ.out _ hg2) ?_; intro v5 w5 ho5 hg5))
      go_roundg (N - (j + 1))
      case measure => omega
      case rel =>
        obtain ⟨f1, f2, f3⟩ := HFIN.out _ _ _ hr2 hg2 hgw2 ho5 hg5
        exact ⟨j + 1, by omega, Nat.le_refl _, by go_num, f1, f2, f3⟩
    · obtain rfl : j = N := by omega
      have hlt' : ¬ (j : Int) < (j : Int) := by omega
      obtain ⟨L, hL⟩ : ∃ L, L = (nxI j s1).1 := ⟨_, rfl⟩
      obtain ⟨sj, hsj⟩ : ∃ sj, sj = (nxI j s1).2 := ⟨_, rfl⟩
      rw [← hL] at ho
      rw [← hsj] at hrd
      have hLl : L.length = j := by rw [hL]; exact nxI_len j s1
      have hgood : rlG s = goodC (ctsC L) := by unfold rlG; rw [← HE.out.1, ← HE.out.2, ← hL]
      have hlS : rlG s = true → rlL s = L ∧ rlS s = sj := fun hg => by
        unfold rlL rlS
        rw [hg, ← HE.out.1, ← HE.out.2, ← hL, ← hsj]
        exact ⟨rfl, rfl⟩
      have hlN : rlG s = false → rlL s = [] ∧ rlS s = ⟨[], true⟩ := fun hg => by
        unfold rlL rlS
        rw [hg]
        exact ⟨rfl, rfl⟩
      have hgw := grownBy_trans HG1.out hgr
      obtain ⟨A3, c3, hv3, hn3, _, _, hform⟩ := own_formC ho
      have hA2 : A3 = none ∨ ∃ g off, A3 = some ⟨g, off, none⟩ := by
        rcases hform with ⟨rfl, _⟩ | ⟨g', rfl, _⟩
        · exact .inl rfl
        · exact .inr ⟨g', 0, rfl⟩
      have hA : CAt wr wr.heap.size A3 L := by
        rcases hform with ⟨_, e, _⟩ | ⟨g', rfl, _, hg', hr'⟩
        · exact .inl e
        · exact .inr ⟨g', 0, rfl, hg', hr'⟩
      have HI := Lib.hid (isgood_any A3 c3 L wr (by omega) hA hA2)
      subst hv3
      by_cases hgd : goodC (ctsC L) = true
      · rw [hgd] at HI
        have HF : Hid (∀ w2, Below wr.heap.size wr w2 → RlIs w g s (.returned (.slice A3 L.length c3)) w2) := by
          refine Lib.hid (fun w2 hb2 => ?_)
          obtain ⟨q1, q2⟩ := hlS (hgood.trans hgd)
          refine ⟨A3, c3, by rw [q1], by rw [q1]; exact (hA.below hb2).more hb2.size, hA2, by rw [q2]; exact (hrd.below hb2).rs, grownBy_trans hgw (grown_of_bel hb2 _)⟩
        clear hA hA2 hform ho hrd hgr hL hsj hgood hlS hlN hgw hgd hLl HE hn3
        generalize L.length = nl at *
        go_wp2_with (first | (go_at_call 78; (with_reducible refine HI.out.mono ?_); rintro e2 w2 ⟨rfl, hb2⟩))
        go_ret
        exact HF.out _ hb2
      · have hgd' : goodC (ctsC L) = false := by cases h : goodC (ctsC L) with | true => exact absurd h hgd | false => rfl
        rw [hgd'] at HI
        have HSP : Hid (∀ w2, Below wr.heap.size wr w2 → Calls Tryz.prog 92 #[.pointer (some ⟨g, 0, none⟩)] w2 fun e w3 => e = .returned (.tuple #[]) ∧ RlIs w g s (.returned (.slice none 0 0)) w3) := by
          refine Lib.hid (fun w2 hb2 => (spoil_anyN (hrd.below hb2).rs).mono ?_)
          rintro e w3 ⟨rfl, hr3, hg3⟩
          obtain ⟨q1, q2⟩ := hlN (hgood.trans hgd')
          exact ⟨rfl, none, 0, by rw [q1]; rfl, by rw [q1]; exact .inl rfl, .inl rfl, by rw [q2]; exact hr3, grownBy_trans (grownBy_trans hgw (grown_of_bel hb2 _)) hg3⟩
        clear hA hA2 hform ho hrd hgr hL hsj hgood hlS hlN hgw hgd hgd' hLl HE hn3
        generalize L.length = nl at *
        go_wp2_with (first
          | (go_at_call 78; (with_reducible refine HI.out.mono ?_); rintro e2 w2 ⟨rfl, hb2⟩)
          | (go_at_call 92; (with_reducible refine (HSP.out _ hb2).mono ?_); rintro e3 w3 ⟨rfl, hf3⟩))
        go_ret
        exact hf3
end Go.Proofs.YtehgpnnfjgmiiaaGreat
end
section
namespace Go.Proofs.YtehgpnnfjgmiiaaGreat
open Go.Shelf Go.RowKit Go.Lib Go.Sort Go.Great
set_option maxRecDepth 100000
set_option maxHeartbeats 1000000
theorem rdK_ctB {c : Con} (h : rdOk (ctB c.1)) : rdK (ctB c.1) = c := by
  have hid := c.2.id
  have e1 : (ctB c.1).take 20 = c.1.1 := by unfold ctB; rw [List.take_append_of_le_length (by omega), List.take_of_length_le (by omega)]
  have e2 : (ctB c.1).drop 20 = adB c.1.2.1 c.1.2.2 := by unfold ctB; rw [List.drop_append_of_le_length (by omega), List.drop_of_length_le (by omega), List.nil_append]
  unfold rdK
  rw [dif_pos h]
  refine Subtype.ext ?_
  simp only
  rw [e1, e2, adB_take _ _ c.2.hh, adB_drop _ _ c.2.hp]
end Go.Proofs.YtehgpnnfjgmiiaaGreat
end
section
namespace Go.Proofs.YtehgpnnfjgmiiaaGreat
set_option maxRecDepth 100000
theorem rdK_bytes {xs : List UInt8} (h : rdOk xs) : ctB (rdK xs).1 = xs ∧ ctGood (rdK xs).1 = true := by
  have hc : rdC xs = some (rdK xs).1 := by
    unfold rdC rdK
    rw [if_pos (show xs.length = 26 ∧ getN ((xs.drop 20).take 4) ≠ 0 ∧ getN (((xs.drop 20).drop 4).take 2) ≠ 0 from h), dif_pos h]
  obtain ⟨_, h2, h3⟩ := rdC_some hc
  exact ⟨h3, h2⟩
theorem rdOk_ctB {c : Con} (hg : ctGood c.1 = true) : rdOk (ctB c.1) := by
  have h := rdC_ctB c.2 hg
  unfold rdC at h
  split at h
  · rename_i hk; exact hk
  · cases h
theorem good_default : ctGood (default : Con).1 = false := by decide +kernel
theorem flatC_cons (c : Con) (L : List Con) : flatC (ctsC (c :: L)) = ctB c.1 ++ flatC (ctsC L) := by
  unfold ctsC flatC
  rw [List.map_cons, List.flatMap_cons]
theorem flatC_app (L M : List Con) : flatC (ctsC (L ++ M)) = flatC (ctsC L) ++ flatC (ctsC M) := by
  unfold ctsC flatC
  rw [List.map_append, List.flatMap_append]
/-- Contacts that are all good were read. -/
theorem nxI_good (ys : List UInt8) : ∀ n : Nat, (∀ c ∈ (nxI n ⟨ys, false⟩).1, ctGood c.1 = true) → 26 * n ≤ ys.length ∧ (nxI n ⟨ys, false⟩).2 = ⟨ys.drop (26 * n), false⟩ ∧ flatC (ctsC (nxI n ⟨ys, false⟩).1) = ys.take (26 * n)
  | 0, _ => ⟨by omega, rfl, rfl⟩
  | n + 1, h => by
    rw [nxI] at h ⊢
    obtain ⟨h1, h2, h3⟩ := nxI_good ys n (fun c hc => h c (List.mem_append_left _ hc))
    have hc := h _ (List.mem_append_right _ (List.mem_singleton.2 rfl))
    rw [h2] at hc ⊢
    have hl : 26 ≤ (ys.drop (26 * n)).length := by
      by_cases hl : 26 ≤ (ys.drop (26 * n)).length
      · exact hl
      · exfalso
        have := (nx_short (ys.drop (26 * n)) (by omega)).1
        unfold nxC at hc
        rw [dif_neg this, good_default] at hc
        cases hc
    have hl' := hl
    rw [List.length_drop] at hl'
    have hcon := nx_con _ hl
    have hok : rdOk ((ys.drop (26 * n)).take 26) := by
      by_cases hk : rdOk ((ys.drop (26 * n)).take 26)
      · exact hk
      · exfalso
        rw [hcon] at hc
        unfold rdK at hc
        rw [dif_neg hk, good_default] at hc
        cases hc
    refine ⟨by omega, ?_, ?_⟩
    · simp only
      rw [(nx_long _ hl).2, List.drop_drop, show 26 * n + 26 = 26 * (n + 1) by omega]
    · simp only
      rw [flatC_app, h3, flatC_cons, hcon, (rdK_bytes hok).1]
      show _ ++ (_ ++ []) = _
      rw [List.append_nil, show 26 * (n + 1) = 26 * n + 26 by omega, List.take_add]
/-- What is put is read. -/
theorem nxI_flat (rest : List UInt8) : ∀ (n : Nat) (L : List Con), (∀ c ∈ L, ctGood c.1 = true) → n ≤ L.length → nxI n ⟨flatC (ctsC L) ++ rest, false⟩ = (L.take n, ⟨flatC (ctsC (L.drop n)) ++ rest, false⟩)
  | 0, L, _, _ => rfl
  | n + 1, L, hg, hn => by
    rw [nxI, nxI_flat rest n L hg (by omega)]
    have hd : L.drop n = L[n] :: L.drop (n + 1) := List.drop_eq_getElem_cons (by omega)
    have hgn := hg L[n] (List.getElem_mem _)
    have hl26 : (ctB L[n].1).length = 26 := ctB_length L[n].2.id
    have e1 : flatC (ctsC (L.drop n)) ++ rest = ctB L[n].1 ++ (flatC (ctsC (L.drop (n + 1))) ++ rest) := by rw [hd, flatC_cons, List.append_assoc]
    have hl : 26 ≤ (flatC (ctsC (L.drop n)) ++ rest).length := by rw [e1, List.length_append]; omega
    simp only
    rw [nx_con _ hl]
    have e2 : nxS ⟨flatC (ctsC (L.drop n)) ++ rest, false⟩ = ⟨flatC (ctsC (L.drop (n + 1))) ++ rest, false⟩ := by
      rw [(nx_long _ hl).2, e1, List.drop_append_of_le_length (by omega), List.drop_of_length_le (by omega), List.nil_append]
    have e3 : (ctB L[n].1 ++ (flatC (ctsC (L.drop (n + 1))) ++ rest)).take 26 = ctB L[n].1 := by rw [List.take_append_of_le_length (by omega), List.take_of_length_le (by omega)]
    rw [e2, e1, e3, rdK_ctB (rdOk_ctB hgn)]
    rw [List.take_succ_eq_append_getElem (by omega)]
theorem num1_cons (b : UInt8) (ys : List UInt8) : numV ⟨b :: ys, false⟩ 1 = b.toNat ∧ numS ⟨b :: ys, false⟩ 1 = ⟨ys, false⟩ := by
  have hk : numOk ⟨b :: ys, false⟩ 1 := ⟨rfl, by omega, by omega, by show (1 : Int) ≤ ((b :: ys).length : Int); simp only [List.length_cons]; omega⟩
  unfold numV numS
  rw [if_pos hk, if_pos hk]
  refine ⟨?_, rfl⟩
  show getN ([b]) = _
  rw [getN_cons]
  simp [getN]
theorem num1_nil : numV ⟨[], false⟩ 1 = 0 ∧ numS ⟨[], false⟩ 1 = ⟨[], true⟩ := by
  have hk : ¬ numOk ⟨[], false⟩ 1 := fun h => by have := h.2.2.2; simp at this
  unfold numV numS
  rw [if_neg hk, if_neg hk]
  exact ⟨rfl, rfl⟩
/-- A good list is read from its bytes. -/
theorem rl_list {L : List Con} (hg : goodC (ctsC L) = true) (rest : List UInt8) : rlL ⟨listC (ctsC L) ++ rest, false⟩ = L ∧ rlS ⟨listC (ctsC L) ++ rest, false⟩ = ⟨rest, false⟩ := by
  have hl := goodC_len hg
  have hl' : L.length ≤ 64 := by unfold ctsC at hl; simpa using hl
  have hall : ∀ c ∈ L, ctGood c.1 = true := fun c hc => goodC_all hg _ (List.mem_map.2 ⟨c, hc, rfl⟩)
  have e : listC (ctsC L) ++ rest = UInt8.ofNat L.length :: (flatC (ctsC L) ++ rest) := by
    unfold listC
    rw [show (ctsC L).length = L.length by unfold ctsC; simp]
    rfl
  obtain ⟨n1, n2⟩ := num1_cons (UInt8.ofNat L.length) (flatC (ctsC L) ++ rest)
  have hn : (UInt8.ofNat L.length).toNat = L.length := by rw [UInt8.toNat_ofNat']; omega
  have hI := nxI_flat rest L.length L hall (Nat.le_refl _)
  rw [List.take_length, List.drop_length] at hI
  have hr : rlG ⟨listC (ctsC L) ++ rest, false⟩ = true := by
    unfold rlG
    rw [e, n1, n2, hn, hI]
    exact hg
  unfold rlL rlS
  rw [hr, if_pos rfl, if_pos rfl, e, n1, n2, hn, hI]
  exact ⟨rfl, rfl⟩
/-- What is read is good, and has just those bytes; or the reader is bad. -/
theorem rl_cases (ys : List UInt8) : (rlL ⟨ys, false⟩ = [] ∧ rlS ⟨ys, false⟩ = ⟨[], true⟩) ∨ (goodC (ctsC (rlL ⟨ys, false⟩)) = true ∧ (rlS ⟨ys, false⟩).bad = false ∧ ys = listC (ctsC (rlL ⟨ys, false⟩)) ++ (rlS ⟨ys, false⟩).ys) := by
  by_cases hr : rlG ⟨ys, false⟩ = true
  · cases ys with
    | nil =>
      left
      unfold rlL rlS
      rw [hr, if_pos rfl, if_pos rfl, num1_nil.1, num1_nil.2]
      exact ⟨rfl, rfl⟩
    | cons b ys =>
      right
      have hr' := hr
      unfold rlG at hr'
      obtain ⟨n1, n2⟩ := num1_cons b ys
      unfold rlL rlS
      rw [hr, if_pos rfl, if_pos rfl]
      rw [n1, n2] at hr' ⊢
      obtain ⟨a1, a2, a3⟩ := nxI_good ys b.toNat (fun c hc => goodC_all hr' _ (List.mem_map.2 ⟨c, hc, rfl⟩))
      refine ⟨hr', by rw [a2], ?_⟩
      unfold listC
      rw [a2, a3, show (ctsC (nxI b.toNat ⟨ys, false⟩).1).length = b.toNat by unfold ctsC; rw [List.length_map, nxI_len], UInt8.ofNat_toNat]
      show b :: ys = b :: (ys.take _ ++ ys.drop _)
      rw [List.take_append_drop]
  · have hr' : rlG ⟨ys, false⟩ = false := by cases h : rlG ⟨ys, false⟩ with | true => exact absurd h hr | false => rfl
    left
    unfold rlL rlS
    rw [hr']
    exact ⟨rfl, rfl⟩
end Go.Proofs.YtehgpnnfjgmiiaaGreat
end
section
namespace Go.Proofs.YtehgpnnfjgmiiaaGreat
open Go.Shelf Go.RowKit Go.Lib Go.Sort Go.Great
set_option maxRecDepth 100000
set_option maxHeartbeats 2000000
theorem own_formE {e : TypeId} {w : World} {base n : Nat} {v : Value} {L : List Con} (h : w.ownsRow base e 22 v n (flatE encC L)) : ∃ A c, v = .slice A n c ∧ n = L.length ∧ CAt w w.heap.size A L ∧ (A = none ∨ ∃ g off, A = some ⟨g, off, none⟩) := by
  have hl := h.1
  rw [flatE_length encC_length] at hl
  have hn : n = L.length := by omega
  rcases h.2 with ⟨rfl, h0⟩ | ⟨g, cap, cur, rfl, hb, hg, hc, hm, hs, ht⟩
  · exact ⟨none, 0, by rw [h0], hn, .inl (List.eq_nil_of_length_eq_zero (by omega)), .inl rfl⟩
  · refine ⟨some ⟨g, 0, none⟩, cap, rfl, hn, .inr ⟨g, 0, rfl, (Array.getElem?_eq_some_iff.1 hg).1, fun j u hu => ?_⟩, .inr ⟨g, 0, rfl⟩⟩
    rw [Nat.zero_add, cell_of_row w g j _ e (0, 0) hg]
    rw [← ht, List.getElem?_take] at hu
    split at hu
    · simpa using hu
    · cases hu
section
variable {w W W' : World} {g : Nat} {s s' : St}
end
end Go.Proofs.YtehgpnnfjgmiiaaGreat
end
