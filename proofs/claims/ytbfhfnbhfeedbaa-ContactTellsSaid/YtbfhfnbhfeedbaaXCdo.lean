/- Contract of ReadList of package contact. Conditions: at most 900,000 bytes. -/
import Derived.Test.YtbfhfnbhfeedbaaXCdn
namespace Go.Proofs.Ytbfhfnbhfeedbaa
open Go.Shelf Go.RowKit Go.Lib Go.Sort Go.Great
set_option maxRecDepth 100000
set_option maxHeartbeats 1000000
/-- n contacts, read one behind the other. -/
def nxI : Nat → St → List Con × St
  | 0, s => ([], s)
  | n + 1, s => ((nxI n s).1 ++ [nxC (nxI n s).2], nxS (nxI n s).2)
theorem nxI_len (n : Nat) (s : St) : (nxI n s).1.length = n := by
  induction n with
  | zero => rfl
  | succ n ih => rw [nxI, List.length_append, ih]; rfl
/-- What ReadList tells, and leaves. -/
def rlG (s : St) : Bool := goodC (ctsC (nxI (numV s 1) (numS s 1)).1)
def rlL (s : St) : List Con := if rlG s then (nxI (numV s 1) (numS s 1)).1 else []
def rlS (s : St) : St := if rlG s then (nxI (numV s 1) (numS s 1)).2 else ⟨[], true⟩
def RlIs (w : World) (g : Nat) (s : St) (e : Ending) (w' : World) : Prop :=
  ∃ A c, e = .returned (.slice A (rlL s).length c) ∧ CAt w' w'.heap.size A (rlL s) ∧ (A = none ∨ ∃ g off, A = some ⟨g, off, none⟩) ∧ RdrS w' g (rlS s) ∧ w.grownBy w' (some g)
theorem spoil_any {w : World} {g : Nat} {s : St} (h : RdrS w g s) : Calls Try.prog 85 #[.pointer (some ⟨g, 0, none⟩)] w fun e w' => e = .returned (.tuple #[]) ∧ RdrS w' g ⟨[], true⟩ ∧ w.grownBy w' (some g) := by
  have HT : Hid (Calls Try.prog 47 #[.pointer (some ⟨g, 0, none⟩), .int .i64 (-1)] w fun e w' => ∃ v, e = .returned v ∧ RdrS w' g ⟨[], true⟩ ∧ w.grownBy w' (some g)) := by
    refine Lib.hid ((take_any h (-1) (by omega)).mono ?_)
    rintro e w' ⟨v, rfl, _, hr, hg⟩
    have e1 : takeS s (-1) = ⟨[], true⟩ := by
      unfold takeS
      rw [if_neg (by intro hk; have := hk.2.1; omega)]
    rw [e1] at hr
    exact ⟨v, rfl, hr, hg⟩
  clear h
  go_enter Try.func85, Try.ntmps85
  go_wp2_with (first | (go_at_call 47; (with_reducible refine HT.out.mono ?_); rintro e w1 ⟨v, rfl, hr, hg⟩))
  go_end0
  exact ⟨rfl, hr, hg⟩
theorem numV1_lt (s : St) : numV s 1 < 256 := by
  unfold numV
  split
  · exact getN_lt' _ 1 (by rw [List.length_take]; exact Nat.min_le_left _ _)
  · omega
theorem readlist_any {w : World} {g : Nat} {s : St} (h : RdrS w g s) : Calls Try.prog 49 #[.pointer (some ⟨g, 0, none⟩)] w (RlIs w g s) := by
  have HN := Lib.hid (num_any h 1 (by omega))
  unfold NumP at HN
  obtain ⟨N, hN⟩ : ∃ N, N = numV s 1 := ⟨_, rfl⟩
  have hN1 : N < 256 := by rw [hN]; exact numV1_lt s
  obtain ⟨s1, hs1⟩ : ∃ s1, s1 = numS s 1 := ⟨_, rfl⟩
  rw [← hN, ← hs1] at HN
  have HE : Hid (N = numV s 1 ∧ s1 = numS s 1) := Lib.hid ⟨hN, hs1⟩
  clear h hN hs1
  go_enter Try.func49, Try.ntmps49
  go_upto_region 3 with (first | (go_at_call 84; (with_reducible refine HN.out.mono ?_); rintro e1 w1 ⟨rfl, hr1, hg1⟩))
  have HR1 := Lib.hid hr1
  have HG1 := Lib.hid hg1
  have hgl := hr1.lt
  clear HN hr1 hg1
  go_loopg [3, 6] N (fun kx s3 s6 wr => ∃ (j : Nat), j ≤ N ∧ N - j ≤ kx ∧ s6 = .int .u64 (j : Int) ∧ wr.ownsRow w1.heap.size 60 22 s3 (nxI j s1).1.length (flatE encC (nxI j s1).1) ∧ RdrB wr g (nxI j s1).2 w1.heap.size ∧ w1.grownBy wr (some g))
  case atStart => exact ⟨0, by omega, by omega, rfl, World.ownsRow_nil w1 _ 60 22, HR1.out.rb, World.grownBy.refl _ _⟩
  case round =>
    obtain ⟨j, hj, hkx, rfl, ho, hrd, hgr⟩ := hrel
    clear HR1
    by_cases hlt : j < N
    · have hlt' : (j : Int) < (N : Int) := by omega
      obtain ⟨L, hL⟩ : ∃ L, L = (nxI j s1).1 := ⟨_, rfl⟩
      obtain ⟨sj, hsj⟩ : ∃ sj, sj = (nxI j s1).2 := ⟨_, rfl⟩
      rw [← hL] at ho
      rw [← hsj] at hrd
      have hLl : L.length = j := by rw [hL]; exact nxI_len j s1
      have H1 : Hid (Calls Try.prog 77 #[.pointer (some ⟨g, 0, none⟩)] wr fun e w2 => e = .returned (.agg (encC (nxC sj)).toArray) ∧ RdrB w2 g (nxS sj) w1.heap.size ∧ w1.grownBy w2 (some g) ∧ wr.grownBy w2 (some g)) := by
        refine Lib.hid ((next_any hrd (by have := hgr.size; omega)).mono ?_)
        rintro e w2 ⟨rfl, a, b⟩
        exact ⟨rfl, a, grownBy_trans hgr b, b⟩
      obtain ⟨A3, c3, hv3, hn3, _⟩ := own_formC ho
      obtain ⟨nl, hnl⟩ : ∃ nl, nl = L.length := ⟨_, rfl⟩
      rw [← hnl] at hv3
      subst hv3
      have HO : Hid (∀ w2, wr.grownBy w2 (some g) → (w2.alloc (.cells (encC (nxC sj)).toArray 60)).ownsRow w1.heap.size 60 22 (.slice A3 nl c3) L.length (flatE encC L)) := by
        refine Lib.hid (fun w2 hg2 => ?_)
        have h1 := ho.kept hg2 (by
          cases hk : (Value.slice A3 nl c3).ownBlock with
          | none => exact .inl rfl
          | some k =>
            right
            have := (ho.lt k hk).1
            intro e
            injection e with e
            omega)
        exact h1.kept (grown_of_bel ((Below.refl _ w2).alloc (Nat.le_refl _) _) none) (by cases (Value.slice A3 nl c3).ownBlock <;> simp)
      have HFIN : Hid (∀ w2 v' w', RdrB w2 g (nxS sj) w1.heap.size → w1.grownBy w2 (some g) → wr.grownBy w2 (some g) → w'.ownsRow w1.heap.size 60 22 v' (L ++ [nxC sj]).length (flatE encC (L ++ [nxC sj])) → (w2.alloc (.cells (encC (nxC sj)).toArray 60)).grownBy w' (Value.slice A3 nl c3).ownBlock → w'.ownsRow w1.heap.size 60 22 v' (nxI (j + 1) s1).1.length (flatE encC (nxI (j + 1) s1).1) ∧ RdrB w' g (nxI (j + 1) s1).2 w1.heap.size ∧ w1.grownBy w' (some g)) := by
        refine Lib.hid (fun w2 v' w' hr2 hg2 hgw ho' hg' => ?_)
        have e1 : nxI (j + 1) s1 = (L ++ [nxC sj], nxS sj) := by rw [nxI, ← hL, ← hsj]
        rw [e1]
        have hba : Below w2.heap.size w2 (w2.alloc (.cells (encC (nxC sj)).toArray 60)) := (Below.refl _ w2).alloc (Nat.le_refl _) _
        have hob : ∀ k, (Value.slice A3 nl c3).ownBlock = some k → w1.heap.size ≤ k := fun k hk => (ho.lt k hk).1
        have hs12 := hg2.size
        refine ⟨ho', (hr2.below hba).keep (hg'.block g (Nat.lt_of_lt_of_le hr2.lt hba.size) (by intro e; have := hob g (by first | exact e | exact e.symm); omega)) hg'.size (fun i hi _ => hg'.block i (by have := hba.size; omega) (by intro e; have := hob i (by first | exact e | exact e.symm); omega)), ?_⟩
        have hg3 := grownBy_trans hg2 (grown_of_bel hba (some g))
        exact ⟨hg'.os.trans hg3.os, hg'.tape.trans hg3.tape, hg'.output.trans hg3.output, Nat.le_trans hg3.size hg'.size, fun i hi hne => (hg'.block i (Nat.lt_of_lt_of_le hi hg3.size) (by intro e; have := hob i (by first | exact e | exact e.symm); omega)).trans (hg3.block i hi hne)⟩
      have HLE : Hid (L.length + [nxC sj].length ≤ 1000000) := Lib.hid (by rw [hLl]; simp; omega)
      have HSZ : Hid (∀ w2, w1.grownBy w2 (some g) → w1.heap.size ≤ (w2.alloc (.cells (encC (nxC sj)).toArray 60)).heap.size) := Lib.hid (fun w2 hg2 => by have := hg2.size; simp; omega)
      clear ho hrd hgr hL hsj hLl hnl hn3
      go_wp2_with (first
        | (go_at_call 77; (with_reducible refine H1.out.mono ?_); rintro e2 w2 ⟨rfl, hr2, hg2, hgw2⟩)
        | ((with_reducible refine wpList_build_oneC conP (nxC sj) (o := ⟨some 11, _, _, _, _, _⟩) rfl (.tmp 10) rfl ?_ ?_); rfl)
        | (refine wpList_append_con conP rfl (.tmp 8) (.tmp 11) rfl w1.heap.size _ L [nxC sj] rfl (HO.out _ hgw2) _ rfl (src_newC conP (nxC sj) w2) HLE.out (HSZ.out _ hg2) ?_; intro v5 w5 ho5 hg5))
      go_roundg (N - (j + 1))
      case measure => omega
      case rel =>
        obtain ⟨f1, f2, f3⟩ := HFIN.out _ _ _ hr2 hg2 hgw2 ho5 hg5
        exact ⟨j + 1, by omega, Nat.le_refl _, by go_num, f1, f2, f3⟩
    · obtain rfl : j = N := by omega
      have hlt' : ¬ (j : Int) < (j : Int) := by omega
      obtain ⟨L, hL⟩ : ∃ L, L = (nxI j s1).1 := ⟨_, rfl⟩
      obtain ⟨sj, hsj⟩ : ∃ sj, sj = (nxI j s1).2 := ⟨_, rfl⟩
      rw [← hL] at ho
      rw [← hsj] at hrd
      have hLl : L.length = j := by rw [hL]; exact nxI_len j s1
      have hgood : rlG s = goodC (ctsC L) := by unfold rlG; rw [← HE.out.1, ← HE.out.2, ← hL]
      have hlS : rlG s = true → rlL s = L ∧ rlS s = sj := fun hg => by
        unfold rlL rlS
        rw [hg, ← HE.out.1, ← HE.out.2, ← hL, ← hsj]
        exact ⟨rfl, rfl⟩
      have hlN : rlG s = false → rlL s = [] ∧ rlS s = ⟨[], true⟩ := fun hg => by
        unfold rlL rlS
        rw [hg]
        exact ⟨rfl, rfl⟩
      have hgw := grownBy_trans HG1.out hgr
      obtain ⟨A3, c3, hv3, hn3, _, _, hform⟩ := own_formC ho
      have hA2 : A3 = none ∨ ∃ g off, A3 = some ⟨g, off, none⟩ := by
        rcases hform with ⟨rfl, _⟩ | ⟨g', rfl, _⟩
        · exact .inl rfl
        · exact .inr ⟨g', 0, rfl⟩
      have hA : CAt wr wr.heap.size A3 L := by
        rcases hform with ⟨_, e, _⟩ | ⟨g', rfl, _, hg', hr'⟩
        · exact .inl e
        · exact .inr ⟨g', 0, rfl, hg', hr'⟩
      have HI := Lib.hid (isgood_any A3 c3 L wr (by omega) hA hA2)
      subst hv3
      by_cases hgd : goodC (ctsC L) = true
      · rw [hgd] at HI
        have HF : Hid (∀ w2, Below wr.heap.size wr w2 → RlIs w g s (.returned (.slice A3 L.length c3)) w2) := by
          refine Lib.hid (fun w2 hb2 => ?_)
          obtain ⟨q1, q2⟩ := hlS (hgood.trans hgd)
          refine ⟨A3, c3, by rw [q1], by rw [q1]; exact (hA.below hb2).more hb2.size, hA2, by rw [q2]; exact (hrd.below hb2).rs, grownBy_trans hgw (grown_of_bel hb2 _)⟩
        clear hA hA2 hform ho hrd hgr hL hsj hgood hlS hlN hgw hgd hLl HE hn3
        generalize L.length = nl at *
        go_wp2_with (first | (go_at_call 60; (with_reducible refine HI.out.mono ?_); rintro e2 w2 ⟨rfl, hb2⟩))
        go_ret
        exact HF.out _ hb2
      · have hgd' : goodC (ctsC L) = false := by cases h : goodC (ctsC L) with | true => exact absurd h hgd | false => rfl
        rw [hgd'] at HI
        have HSP : Hid (∀ w2, Below wr.heap.size wr w2 → Calls Try.prog 85 #[.pointer (some ⟨g, 0, none⟩)] w2 fun e w3 => e = .returned (.tuple #[]) ∧ RlIs w g s (.returned (.slice none 0 0)) w3) := by
          refine Lib.hid (fun w2 hb2 => (spoil_any (hrd.below hb2).rs).mono ?_)
          rintro e w3 ⟨rfl, hr3, hg3⟩
          obtain ⟨q1, q2⟩ := hlN (hgood.trans hgd')
          exact ⟨rfl, none, 0, by rw [q1]; rfl, by rw [q1]; exact .inl rfl, .inl rfl, by rw [q2]; exact hr3, grownBy_trans (grownBy_trans hgw (grown_of_bel hb2 _)) hg3⟩
        clear hA hA2 hform ho hrd hgr hL hsj hgood hlS hlN hgw hgd hgd' hLl HE hn3
        generalize L.length = nl at *
        go_wp2_with (first
          | (go_at_call 60; (with_reducible refine HI.out.mono ?_); rintro e2 w2 ⟨rfl, hb2⟩)
          | (go_at_call 85; (with_reducible refine (HSP.out _ hb2).mono ?_); rintro e3 w3 ⟨rfl, hf3⟩))
        go_ret
        exact hf3
end Go.Proofs.Ytbfhfnbhfeedbaa
