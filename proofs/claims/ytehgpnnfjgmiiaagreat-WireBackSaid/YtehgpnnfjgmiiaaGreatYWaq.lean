/- contact.ReadList of the program over a reader whose bytes lie below B. No condition. The questions that ask for a kind alone: Request, Answers, hasKey; of the reference keyed, listed, Request, Answers. No condition. next of the program: what follows the version of a message. No condition. -/
import Derived.Test.YtehgpnnfjgmiiaaGreatYNCdm
import Derived.Test.YtehgpnnfjgmiiaaGreatYRIin
import Derived.Test.YtehgpnnfjgmiiaaGreatYRERefc
import Derived.Test.YtehgpnnfjgmiiaaGreatYOja
import Derived.Test.YtehgpnnfjgmiiaaGreatYOcb
import Derived.Test.YtehgpnnfjgmiiaaGreatYWam
import Derived.Test.YtehgpnnfjgmiiaaGreatYRIiq
section
namespace Go.Proofs.YtehgpnnfjgmiiaaGreat
open Go.Shelf Go.RowKit Go.Lib Go.Sort Go.Great
set_option maxRecDepth 100000
set_option maxHeartbeats 1000000
def RlIsB (w : World) (g B : Nat) (s : St) (e : Ending) (w' : World) : Prop :=
  ∃ A c, e = .returned (.slice A (rlL s).length c) ∧ CAt w' w'.heap.size A (rlL s) ∧ (A = none ∨ ∃ g off, A = some ⟨g, off, none⟩ ∧ w.heap.size ≤ g) ∧ RdrB w' g (rlS s) B ∧ w.grownBy w' (some g)
theorem spoil_anyNB {w : World} {g B : Nat} {s : St} (h : RdrB w g s B) : Calls Tryz.prog 92 #[.pointer (some ⟨g, 0, none⟩)] w fun e w' => e = .returned (.tuple #[]) ∧ RdrB w' g ⟨[], true⟩ B ∧ w.grownBy w' (some g) := by
  have HT : Hid (Calls Tryz.prog 67 #[.pointer (some ⟨g, 0, none⟩), .int .i64 (-1)] w fun e w' => ∃ v, e = .returned v ∧ RdrB w' g ⟨[], true⟩ B ∧ w.grownBy w' (some g)) := by
    refine Lib.hid ((take_anyB h (-1) (by omega)).mono ?_)
    rintro e w' ⟨v, rfl, _, hr, hg⟩
    have e1 : takeS s (-1) = ⟨[], true⟩ := by
      unfold takeS
      rw [if_neg (by intro hk; have := hk.2.1; omega)]
    rw [e1] at hr
    exact ⟨v, rfl, hr, hg⟩
  clear h
  go_enter Tryz.func92, Tryz.ntmps92
  go_wp2_with (first | (go_at_call 67; (with_reducible refine HT.out.mono ?_); rintro e w1 ⟨v, rfl, hr, hg⟩))
  go_end0
  exact ⟨rfl, hr, hg⟩
theorem readlist_anyB {w : World} {g B : Nat} {s : St} (h : RdrB w g s B) (hB : B ≤ w.heap.size) : Calls Tryz.prog 69 #[.pointer (some ⟨g, 0, none⟩)] w (RlIsB w g B s) := by
  have HN := Lib.hid (num_anyB h 1 (by omega))
  unfold NumPB at HN
  obtain ⟨N, hN⟩ : ∃ N, N = numV s 1 := ⟨_, rfl⟩
  have hN1 : N < 256 := by rw [hN]; exact numV1_lt s
  obtain ⟨s1, hs1⟩ : ∃ s1, s1 = numS s 1 := ⟨_, rfl⟩
  rw [← hN, ← hs1] at HN
  have HE : Hid (N = numV s 1 ∧ s1 = numS s 1) := Lib.hid ⟨hN, hs1⟩
  clear h hN hs1
  go_enter Tryz.func69, Tryz.ntmps69
  go_upto_region 3 with (first | (go_at_call 40; (with_reducible refine HN.out.mono ?_); rintro e1 w1 ⟨rfl, hr1, hg1⟩))
  have HR1 := Lib.hid hr1
  have HG1 := Lib.hid hg1
  have hgl := hr1.lt
  have hBw : B ≤ w1.heap.size := Nat.le_trans hB hg1.size
  clear HN hr1 hg1
  go_loopg [3, 6] N (fun kx s3 s6 wr => ∃ (j : Nat), j ≤ N ∧ N - j ≤ kx ∧ s6 = .int .u64 (j : Int) ∧ wr.ownsRow w1.heap.size 63 22 s3 (nxI j s1).1.length (flatE encC (nxI j s1).1) ∧ RdrB wr g (nxI j s1).2 B ∧ w1.grownBy wr (some g))
  case atStart => exact ⟨0, by omega, by omega, rfl, World.ownsRow_nil w1 _ 63 22, HR1.out, World.grownBy.refl _ _⟩
  case round =>
    obtain ⟨j, hj, hkx, rfl, ho, hrd, hgr⟩ := hrel
    clear HR1
    by_cases hlt : j < N
    · have hlt' : (j : Int) < (N : Int) := by omega
      obtain ⟨L, hL⟩ : ∃ L, L = (nxI j s1).1 := ⟨_, rfl⟩
      obtain ⟨sj, hsj⟩ : ∃ sj, sj = (nxI j s1).2 := ⟨_, rfl⟩
      rw [← hL] at ho
      rw [← hsj] at hrd
      have hLl : L.length = j := by rw [hL]; exact nxI_len j s1
      have H1 : Hid (Calls Tryz.prog 91 #[.pointer (some ⟨g, 0, none⟩)] wr fun e w2 => e = .returned (.agg (encC (nxC sj)).toArray) ∧ RdrB w2 g (nxS sj) B ∧ w1.grownBy w2 (some g) ∧ wr.grownBy w2 (some g)) := by
        refine Lib.hid ((next_any hrd (by have := hgr.size; omega)).mono ?_)
        rintro e w2 ⟨rfl, a, b⟩
        exact ⟨rfl, a, grownBy_trans hgr b, b⟩
      obtain ⟨A3, c3, hv3, hn3, _⟩ := own_formC ho
      obtain ⟨nl, hnl⟩ : ∃ nl, nl = L.length := ⟨_, rfl⟩
      rw [← hnl] at hv3
      subst hv3
      have HO : Hid (∀ w2, wr.grownBy w2 (some g) → (w2.alloc (.cells (encC (nxC sj)).toArray 63)).ownsRow w1.heap.size 63 22 (.slice A3 nl c3) L.length (flatE encC L)) := by
        refine Lib.hid (fun w2 hg2 => ?_)
        have h1 := ho.kept hg2 (by
          cases hk : (Value.slice A3 nl c3).ownBlock with
          | none => exact .inl rfl
          | some k =>
            right
            have := (ho.lt k hk).1
            intro e
            injection e with e
            omega)
        exact h1.kept (grown_of_bel ((Below.refl _ w2).alloc (Nat.le_refl _) _) none) (by cases (Value.slice A3 nl c3).ownBlock <;> simp)
      have HFIN : Hid (∀ w2 v' w', RdrB w2 g (nxS sj) B → w1.grownBy w2 (some g) → wr.grownBy w2 (some g) → w'.ownsRow w1.heap.size 63 22 v' (L ++ [nxC sj]).length (flatE encC (L ++ [nxC sj])) → (w2.alloc (.cells (encC (nxC sj)).toArray 63)).grownBy w' (Value.slice A3 nl c3).ownBlock → w'.ownsRow w1.heap.size 63 22 v' (nxI (j + 1) s1).1.length (flatE encC (nxI (j + 1) s1).1) ∧ RdrB w' g (nxI (j + 1) s1).2 B ∧ w1.grownBy w' (some g)) := by
        refine Lib.hid (fun w2 v' w' hr2 hg2 hgw ho' hg' => ?_)
        have e1 : nxI (j + 1) s1 = (L ++ [nxC sj], nxS sj) := by rw [nxI, ← hL, ← hsj]
        rw [e1]
        have hba : Below w2.heap.size w2 (w2.alloc (.cells (encC (nxC sj)).toArray 63)) := (Below.refl _ w2).alloc (Nat.le_refl _) _
        have hob : ∀ k, (Value.slice A3 nl c3).ownBlock = some k → w1.heap.size ≤ k := fun k hk => (ho.lt k hk).1
        have hs12 := hg2.size
        refine ⟨ho', (hr2.below hba).keep (hg'.block g (Nat.lt_of_lt_of_le hr2.lt hba.size) (by intro e; have := hob g (by first | exact e | exact e.symm); omega)) hg'.size (fun i hi _ => hg'.block i (by have := hba.size; omega) (by intro e; have := hob i (by first | exact e | exact e.symm); omega)), ?_⟩
        have hg3 := grownBy_trans hg2 (grown_of_bel hba (some g))
        exact ⟨hg'.os.trans hg3.os, hg'.tape.trans hg3.tape, hg'.output.trans hg3.output, Nat.le_trans hg3.size hg'.size, fun i hi hne => (hg'.block i (Nat.lt_of_lt_of_le hi hg3.size) (by intro e; have := hob i (by first | exact e | exact e.symm); omega)).trans (hg3.block i hi hne)⟩
      have HLE : Hid (L.length + [nxC sj].length ≤ 1000000) := Lib.hid (by rw [hLl]; simp; omega)
      have HSZ : Hid (∀ w2, w1.grownBy w2 (some g) → w1.heap.size ≤ (w2.alloc (.cells (encC (nxC sj)).toArray 63)).heap.size) := Lib.hid (fun w2 hg2 => by have := hg2.size; simp; omega)
      clear ho hrd hgr hL hsj hLl hnl hn3
      go_wp2_with (first
        | (go_at_call 91; (with_reducible refine H1.out.mono ?_); rintro e2 w2 ⟨rfl, hr2, hg2, hgw2⟩)
        | ((with_reducible refine wpList_build_oneC conP (nxC sj) (o := ⟨some 11, _, _, _, _, _⟩) rfl (.tmp 10) rfl ?_ ?_); rfl)
        | (refine wpList_append_con conP rfl (.tmp 8) (.tmp 11) rfl w1.heap.size _ L [nxC sj] rfl (HO.out _ hgw2) _ rfl (src_newC conP (nxC sj) w2) HLE.out (HSZ.out _ hg2) ?_; intro v5 w5 ho5 hg5))
      go_roundg (N - (j + 1))
      case measure => omega
      case rel =>
        obtain ⟨f1, f2, f3⟩ := HFIN.out _ _ _ hr2 hg2 hgw2 ho5 hg5
        exact ⟨j + 1, by omega, Nat.le_refl _, by go_num, f1, f2, f3⟩
    · obtain rfl : j = N := by omega
      have hlt' : ¬ (j : Int) < (j : Int) := by omega
      obtain ⟨L, hL⟩ : ∃ L, L = (nxI j s1).1 := ⟨_, rfl⟩
      obtain ⟨sj, hsj⟩ : ∃ sj, sj = (nxI j s1).2 := ⟨_, rfl⟩
      rw [← hL] at ho
      rw [← hsj] at hrd
      have hLl : L.length = j := by rw [hL]; exact nxI_len j s1
      have hgood : rlG s = goodC (ctsC L) := by unfold rlG; rw [← HE.out.1, ← HE.out.2, ← hL]
      have hlS : rlG s = true → rlL s = L ∧ rlS s = sj := fun hg => by
        unfold rlL rlS
        rw [hg, ← HE.out.1, ← HE.out.2, ← hL, ← hsj]
        exact ⟨rfl, rfl⟩
      have hlN : rlG s = false → rlL s = [] ∧ rlS s = ⟨[], true⟩ := fun hg => by
        unfold rlL rlS
        rw [hg]
        exact ⟨rfl, rfl⟩
      have hgw := grownBy_trans HG1.out hgr
      obtain ⟨A3, c3, hv3, hn3, _, _, hform⟩ := own_formC ho
      have hA4 : A3 = none ∨ ∃ g off, A3 = some ⟨g, off, none⟩ ∧ w.heap.size ≤ g := by
        rcases hform with ⟨rfl, _⟩ | ⟨g', rfl, hge, _⟩
        · exact .inl rfl
        · exact .inr ⟨g', 0, rfl, by have := HG1.out.size; omega⟩
      have hA2 : A3 = none ∨ ∃ g off, A3 = some ⟨g, off, none⟩ := by
        rcases hA4 with h | ⟨g', o', h, _⟩
        · exact .inl h
        · exact .inr ⟨g', o', h⟩
      have hA : CAt wr wr.heap.size A3 L := by
        rcases hform with ⟨_, e, _⟩ | ⟨g', rfl, _, hg', hr'⟩
        · exact .inl e
        · exact .inr ⟨g', 0, rfl, hg', hr'⟩
      have HI := Lib.hid (isgood_any A3 c3 L wr (by omega) hA hA2)
      subst hv3
      by_cases hgd : goodC (ctsC L) = true
      · rw [hgd] at HI
        have HF : Hid (∀ w2, Below wr.heap.size wr w2 → RlIsB w g B s (.returned (.slice A3 L.length c3)) w2) := by
          refine Lib.hid (fun w2 hb2 => ?_)
          obtain ⟨q1, q2⟩ := hlS (hgood.trans hgd)
          refine ⟨A3, c3, by rw [q1], by rw [q1]; exact (hA.below hb2).more hb2.size, hA4, by rw [q2]; exact (hrd.below hb2), grownBy_trans hgw (grown_of_bel hb2 _)⟩
        clear hA hA2 hA4 hform ho hrd hgr hL hsj hgood hlS hlN hgw hgd hLl HE hn3
        generalize L.length = nl at *
        go_wp2_with (first | (go_at_call 78; (with_reducible refine HI.out.mono ?_); rintro e2 w2 ⟨rfl, hb2⟩))
        go_ret
        exact HF.out _ hb2
      · have hgd' : goodC (ctsC L) = false := by cases h : goodC (ctsC L) with | true => exact absurd h hgd | false => rfl
        rw [hgd'] at HI
        have HSP : Hid (∀ w2, Below wr.heap.size wr w2 → Calls Tryz.prog 92 #[.pointer (some ⟨g, 0, none⟩)] w2 fun e w3 => e = .returned (.tuple #[]) ∧ RlIsB w g B s (.returned (.slice none 0 0)) w3) := by
          refine Lib.hid (fun w2 hb2 => (spoil_anyNB (hrd.below hb2)).mono ?_)
          rintro e w3 ⟨rfl, hr3, hg3⟩
          obtain ⟨q1, q2⟩ := hlN (hgood.trans hgd')
          exact ⟨rfl, none, 0, by rw [q1]; rfl, by rw [q1]; exact .inl rfl, .inl rfl, by rw [q2]; exact hr3, grownBy_trans (grownBy_trans hgw (grown_of_bel hb2 _)) hg3⟩
        clear hA hA2 hA4 hform ho hrd hgr hL hsj hgood hlS hlN hgw hgd hgd' hLl HE hn3
        generalize L.length = nl at *
        go_wp2_with (first
          | (go_at_call 78; (with_reducible refine HI.out.mono ?_); rintro e2 w2 ⟨rfl, hb2⟩)
          | (go_at_call 92; (with_reducible refine (HSP.out _ hb2).mono ?_); rintro e3 w3 ⟨rfl, hf3⟩))
        go_ret
        exact hf3
end Go.Proofs.YtehgpnnfjgmiiaaGreat
end
section
namespace Go.Proofs.YtehgpnnfjgmiiaaGreat
open Go.Shelf Go.RowKit Go.Lib Go.Great
set_option maxRecDepth 100000
set_option maxHeartbeats 1000000
def reqM (k : Int) : Bool := decide (k = 1 ∨ k = 2 ∨ k = 3 ∨ k = 4)
def keyM (k : Int) : Bool := decide (¬ k = 1 ∧ ¬ k = 5)
def rkeyM (k : Int) : Bool := decide (2 ≤ k ∧ k ≤ 9 ∧ ¬ k = 5)
def lstM (k : Int) : Bool := decide (k = 4 ∨ k = 7)
def ansM (r k : Int) : Bool := decide ((r = 1 ∧ k = 5) ∨ (r = 2 ∧ k = 6) ∨ (r = 3 ∧ (k = 6 ∨ k = 7)) ∨ (r = 4 ∧ (k = 8 ∨ k = 9)))
theorem beqF {a b : Int} (h : ¬ a = b) : (a == b) = false := by simpa using h
theorem bneT {a b : Int} (h : ¬ a = b) : (a != b) = true := by simpa using h
theorem haskey_any (k : Int) (w : World) : Calls Tryz.prog 23 #[.int .i64 k] w fun e w' => e = .returned (.bool (keyM k)) ∧ w' = w := by
  by_cases hin : k = 1 ∨ k = 5
  · rcases hin with rfl | rfl
    · rw [show keyM 1 = false by decide]
      go_enter Tryz.func23, Tryz.ntmps23
      go_wp2
      go_ret
      exact ⟨rfl, rfl⟩
    · rw [show keyM 5 = false by decide]
      go_enter Tryz.func23, Tryz.ntmps23
      go_wp2
      go_ret
      exact ⟨rfl, rfl⟩
  · have n1 : ¬ k = 1 := by omega
    have n5 : ¬ k = 5 := by omega
    have b1 := beqF n1
    have b5 := beqF n5
    have c1 := bneT n1
    have c5 := bneT n5
    rw [show keyM k = true by unfold keyM; simp; omega]
    go_enter Tryz.func23, Tryz.ntmps23
    go_wp2
    go_ret
    exact ⟨rfl, rfl⟩
theorem answers_any (r k : Int) (w : World) : Calls Tryz.prog 15 #[.int .i64 r, .int .i64 k] w fun e w' => e = .returned (.bool (ansM r k)) ∧ w' = w := by
  by_cases hin : r = 1 ∨ r = 2 ∨ r = 3 ∨ r = 4
  · rcases hin with rfl | rfl | rfl | rfl
    · by_cases hk : k = 5
      · subst hk
        rw [show ansM 1 5 = true by decide]
        go_enter Tryz.func15, Tryz.ntmps15
        go_wp2
        go_ret
        exact ⟨rfl, rfl⟩
      · have n5 : ¬ k = 5 := by omega
        have b5 := beqF n5
        rw [show ansM 1 k = false by unfold ansM; simp; omega]
        go_enter Tryz.func15, Tryz.ntmps15
        go_wp2
        go_ret
        exact ⟨rfl, rfl⟩
    · by_cases hk : k = 6
      · subst hk
        rw [show ansM 2 6 = true by decide]
        go_enter Tryz.func15, Tryz.ntmps15
        go_wp2
        go_ret
        exact ⟨rfl, rfl⟩
      · have n6 : ¬ k = 6 := by omega
        have b6 := beqF n6
        rw [show ansM 2 k = false by unfold ansM; simp; omega]
        go_enter Tryz.func15, Tryz.ntmps15
        go_wp2
        go_ret
        exact ⟨rfl, rfl⟩
    · by_cases hk : k = 6 ∨ k = 7
      · rcases hk with rfl | rfl
        · rw [show ansM 3 6 = true by decide]
          go_enter Tryz.func15, Tryz.ntmps15
          go_wp2
          go_ret
          exact ⟨rfl, rfl⟩
        · rw [show ansM 3 7 = true by decide]
          go_enter Tryz.func15, Tryz.ntmps15
          go_wp2
          go_ret
          exact ⟨rfl, rfl⟩
      · have n6 : ¬ k = 6 := by omega
        have n7 : ¬ k = 7 := by omega
        have b6 := beqF n6
        have b7 := beqF n7
        rw [show ansM 3 k = false by unfold ansM; simp; omega]
        go_enter Tryz.func15, Tryz.ntmps15
        go_wp2
        go_ret
        exact ⟨rfl, rfl⟩
    · by_cases hk : k = 8 ∨ k = 9
      · rcases hk with rfl | rfl
        · rw [show ansM 4 8 = true by decide]
          go_enter Tryz.func15, Tryz.ntmps15
          go_wp2
          go_ret
          exact ⟨rfl, rfl⟩
        · rw [show ansM 4 9 = true by decide]
          go_enter Tryz.func15, Tryz.ntmps15
          go_wp2
          go_ret
          exact ⟨rfl, rfl⟩
      · have n8 : ¬ k = 8 := by omega
        have n9 : ¬ k = 9 := by omega
        have b8 := beqF n8
        have b9 := beqF n9
        rw [show ansM 4 k = false by unfold ansM; simp; omega]
        go_enter Tryz.func15, Tryz.ntmps15
        go_wp2
        go_ret
        exact ⟨rfl, rfl⟩
  · have n1 : ¬ r = 1 := by omega
    have n2 : ¬ r = 2 := by omega
    have n3 : ¬ r = 3 := by omega
    have n4 : ¬ r = 4 := by omega
    have b1 := beqF n1
    have b2 := beqF n2
    have b3 := beqF n3
    have b4 := beqF n4
    rw [show ansM r k = false by unfold ansM; simp; omega]
    go_enter Tryz.func15, Tryz.ntmps15
    go_wp2
    go_ret
    exact ⟨rfl, rfl⟩
end Go.Proofs.YtehgpnnfjgmiiaaGreat
end
section
namespace Go.Proofs.YtehgpnnfjgmiiaaGreat
open Go.Shelf Go.RowKit Go.Lib Go.Great
set_option maxRecDepth 100000
set_option maxHeartbeats 2000000
def nxV (s : St) : Nat := numV s 1
def nxT (s : St) : Nat := numV (numS s 1) 4
def nxF (s : St) : List UInt8 := pubV (numS (numS s 1) 4)
def nxS3 (s : St) : St := takeS (numS (numS s 1) 4) 20
def nxY (ky : Bool) (s : St) : List UInt8 := if ky then pubV (nxS3 s) else zero20
def nxS4 (ky : Bool) (s : St) : St := if ky then takeS (nxS3 s) 20 else nxS3 s
def nxL (k : Nat) (s : St) : List Con := if k = 6 then rlL s else []
def nxR (k : Nat) (s : St) : List Ins := if k = 4 ∨ k = 7 then rosL s else []
def nxE (k : Nat) (s : St) : St := if k = 6 then rlS s else if k = 4 ∨ k = 7 then rosS s else s
theorem there_part {w : World} {g n : Nat} (h : w.there g 0 n) (o k : Nat) (hk : o + k ≤ n) : w.there g o k := fun j hj => by
  have := h (o + j) (by omega)
  rwa [Nat.zero_add] at this
abbrev nilS : Value := .slice none 0 0
abbrev NXM (w : World) (g B r q : Nat) (s : St) (cq : List Value) (W : World) : Prop := NXD 28 (encM zeroM) w g B r q s cq W
theorem NXM.part {w W : World} {g B r q : Nat} {s : St} {k : Int} {t : Nat} {f y : List UInt8} {vc vr : Value} (hf : f.length = 20) (hy : y.length = 20) (n : NXM w g B r q s (encMr k t f y vc vr) W) (o j : Nat) (hj : o + j ≤ 44) : W.there q o j := by
  have h := row_there n.hq
  rw [encMr_length hf hy] at h
  exact there_part h o j hj
theorem mget_c {k : Int} {t : Nat} {f y : List UInt8} {vc vr : Value} (hf : f.length = 20) (hy : y.length = 20) : (encMr k t f y vc vr)[42]? = some vc ∧ (encMr k t f y vc vr)[43]? = some vr := by
  have hl : ([Value.int .i64 k, .int .u32 (t : Int)] ++ bcells f ++ bcells y).length = 42 := by simp only [List.length_append, bcells_length, hf, hy, List.length_cons, List.length_nil]
  rw [encMr_split hf hy]
  constructor
  · rw [List.getElem?_append_right (by omega), hl]; rfl
  · rw [List.getElem?_append_right (by omega), hl]; rfl
/-- A slice's address lies at b0 or behind it. -/
def FrV (b0 : Nat) (v : Value) : Prop := ∀ A n c, v = .slice A n c → A = none ∨ ∃ g off, A = some ⟨g, off, none⟩ ∧ b0 ≤ g
theorem frV_nil (b0 : Nat) : FrV b0 nilS := fun A n c h => by injection h with h1 _ _; exact .inl h1.symm
theorem frV_of {b0 b1 : Nat} {A : Option Addr} {n c : Nat} (h : A = none ∨ ∃ g off, A = some ⟨g, off, none⟩ ∧ b1 ≤ g) (hb : b0 ≤ b1) : FrV b0 (.slice A n c) := fun A' n' c' e => by
  injection e with e1 _ _
  subst e1
  exact h.elim .inl (fun ⟨g, o, h1, h2⟩ => .inr ⟨g, o, h1, Nat.le_trans hb h2⟩)
/-- What next answers. -/
def NexIs (w : World) (g B : Nat) (s : St) (e : Ending) (w' : World) : Prop :=
  ∃ vc vr, e = .returned (.agg (encMr (nxV s : Int) (nxT s) (nxF s) (nxY (keyM (nxV s : Int)) s) vc vr).toArray) ∧ vc.oneCell' = true ∧ vr.oneCell' = true ∧ FrV w.heap.size vc ∧ FrV w.heap.size vr ∧
    ConV w' vc (nxL (nxV s) (nxS4 (keyM (nxV s : Int)) s)) ∧ InsV w' vr (nxR (nxV s) (nxS4 (keyM (nxV s : Int)) s)) ∧ RdrB w' g (nxE (nxV s) (nxS4 (keyM (nxV s : Int)) s)) B ∧ w.grownBy w' (some g)
theorem range_grown {w w' : World} {b o q : Nat} {cs : List Value} (h : w.rangeAt b o cs) (hb : b < w.heap.size) (hg : w.grownBy w' (some q)) (hne : b ≠ q) : w'.rangeAt b o cs := rangeAt_below h (hg.block _ hb (by intro e; injection e with e; first | exact hne e | exact hne e.symm))
theorem grown_set (W : World) (q j : Nat) (v : Value) : W.grownBy (W.setCell ⟨q, j, none⟩ v) (some q) := grownBy_setCell (World.grownBy.refl W _) _ _
theorem grown_sets (W : World) (q j : Nat) (vs : List Value) : W.grownBy (W.setCells q j vs) (some q) := grown_cells vs j W (World.grownBy.refl W _)
/-- A list that was read survives what is written into the two blocks. -/
theorem cat_two {W : World} {A : Option Addr} {L : List Con} {q r j : Nat} {v : Value} {cs : List Value} {b0 : Nat} (hA : CAt W W.heap.size A L) (hf : A = none ∨ ∃ g off, A = some ⟨g, off, none⟩ ∧ b0 ≤ g) (hq : q < b0) (hr : r < b0) : CAt ((W.setCell ⟨q, j, none⟩ v).setCells r 0 cs) ((W.setCell ⟨q, j, none⟩ v).setCells r 0 cs).heap.size A L := by
  rcases hA with h0 | ⟨b, o, rfl, hb, h⟩
  · exact .inl h0
  · rcases hf with h1 | ⟨b', o', h1, hge⟩
    · cases h1
    · injection h1 with h1
      injection h1 with e1 e2
      subst e1 e2
      have g1 := grown_set W q j v
      have g2 := grown_sets (W.setCell ⟨q, j, none⟩ v) r 0 cs
      have hb1 := Nat.lt_of_lt_of_le hb g1.size
      exact .inr ⟨_, _, rfl, Nat.lt_of_lt_of_le hb1 g2.size, range_grown (range_grown h hb g1 (by omega)) hb1 g2 (by omega)⟩
theorem iat_two {W : World} {A : Option Addr} {L : List Ins} {q r j : Nat} {v : Value} {cs : List Value} {b0 : Nat} (hA : IAt W W.heap.size A L) (hf : A = none ∨ ∃ g off, A = some ⟨g, off, none⟩ ∧ b0 ≤ g) (hq : q < b0) (hr : r < b0) : IAt ((W.setCell ⟨q, j, none⟩ v).setCells r 0 cs) ((W.setCell ⟨q, j, none⟩ v).setCells r 0 cs).heap.size A L := by
  rcases hA with h0 | ⟨b, o, rfl, hb, h⟩
  · exact .inl h0
  · rcases hf with h1 | ⟨b', o', h1, hge⟩
    · cases h1
    · injection h1 with h1
      injection h1 with e1 e2
      subst e1 e2
      have g1 := grown_set W q j v
      have g2 := grown_sets (W.setCell ⟨q, j, none⟩ v) r 0 cs
      have hb1 := Nat.lt_of_lt_of_le hb g1.size
      exact .inr ⟨_, _, rfl, Nat.lt_of_lt_of_le hb1 g2.size, range_grown (range_grown h hb g1 (by omega)) hb1 g2 (by omega)⟩
/-- The steps of next, in the worlds that it goes through. -/
structure NexK (w : World) (g B r q : Nat) (s : St) (v1 t2 : Nat) (F Y : List UInt8) (ky : Bool) (s1 s2 s3 s4 : St) (W0 : World) : Prop where
  hF : F.length = 20
  hY : Y.length = 20
  n0 : NXM w g B r q s (encM zeroM) W0
  c1 : ∀ W, NXM w g B r q s (encM zeroM) W → Calls Tryz.prog 40 #[.pointer (some ⟨g, 0, none⟩), .int .i64 1] W fun e W' => e = .returned (.int .u64 (v1 : Int)) ∧ NXM w g B r q s1 (encM zeroM) W'
  c2 : ∀ W k, NXM w g B r q s1 (encMr k 0 zero20 zero20 nilS nilS) W → Calls Tryz.prog 40 #[.pointer (some ⟨g, 0, none⟩), .int .i64 4] W fun e W' => e = .returned (.int .u64 (t2 : Int)) ∧ NXM w g B r q s2 (encMr k 0 zero20 zero20 nilS nilS) W'
  c3 : ∀ W k t, NXM w g B r q s2 (encMr k t zero20 zero20 nilS nilS) W → Calls Tryz.prog 68 #[.func (.func 67) #[.pointer (some ⟨g, 0, none⟩)] #[]] W fun e W' => e = .returned (.agg (bcells F).toArray) ∧ NXM w g B r q s3 (encMr k t zero20 zero20 nilS nilS) W'
  c4 : ky = true → ∀ W k t, NXM w g B r q s3 (encMr k t F zero20 nilS nilS) W → Calls Tryz.prog 68 #[.func (.func 67) #[.pointer (some ⟨g, 0, none⟩)] #[]] W fun e W' => e = .returned (.agg (bcells Y).toArray) ∧ NXM w g B r q s4 (encMr k t F zero20 nilS nilS) W'
  c5 : ky = false → Y = zero20 ∧ s4 = s3
  hk : keyM (v1 : Int) = ky
  v1l : v1 < 256
  t2l : t2 < 4294967296
theorem nexK {w : World} {g B : Nat} {s : St} (h : RdrB w g s B) (hB : B ≤ w.heap.size) : NexK w g B w.heap.size (w.heap.size + 1) s (nxV s) (nxT s) (nxF s) (nxY (keyM (nxV s : Int)) s) (keyM (nxV s : Int)) (numS s 1) (numS (numS s 1) 4) (nxS3 s) (nxS4 (keyM (nxV s : Int)) s) ((w.alloc (.cells (encM zeroM).toArray 28)).alloc (.cells (encM zeroM).toArray 28)) := by
  obtain ⟨hr0, hq0, hb0⟩ := heap2 w (.cells (encM zeroM).toArray 28) (.cells (encM zeroM).toArray 28)
  have nid : ∀ {s : St} {cq : List Value} {W : World}, NXM w g B w.heap.size (w.heap.size + 1) s cq W → Calls Tryz.prog 68 #[.func (.func 67) #[.pointer (some ⟨g, 0, none⟩)] #[]] W fun e W' => e = .returned (.agg (bcells (pubV s)).toArray) ∧ NXM w g B w.heap.size (w.heap.size + 1) (takeS s 20) cq W' := fun {s cq W} n => (nextid_any n.rd (by have := n.hB; have := n.gr.size; omega)).mono (by
    rintro e W' ⟨rfl, h1, h2⟩
    exact ⟨rfl, n.read h1 h2⟩)
  refine ⟨pubV_length _, ?_, ⟨h.below hb0, hr0, hq0, grown_of_bel hb0 _, h.lt, hB, Nat.le_refl _, by omega, by omega⟩, fun W n => n.num 1 (by omega), fun W k n => n.num 4 (by omega), fun W k t n => nid n, ?_, ?_, rfl, numV_lt s 1, numV_lt _ 4⟩
  · unfold nxY
    split
    · exact pubV_length _
    · simp [zero20]
  · intro hk W k t n
    unfold nxY nxS4
    rw [hk]
    exact nid n
  · intro hk
    unfold nxY nxS4
    rw [hk]
    exact ⟨rfl, rfl⟩
theorem conV_sets {W : World} {v : Value} {L : List Con} {b0 r : Nat} {cs : List Value} (h : ConV W v L) (hf : FrV b0 v) (hr : r < b0) : ConV (W.setCells r 0 cs) v L := by
  obtain ⟨A, c, rfl, hA, hA2⟩ := h
  refine ⟨A, c, rfl, ?_, hA2⟩
  rcases hA with h0 | ⟨b, o, rfl, hb, h⟩
  · exact .inl h0
  · rcases hf _ _ _ rfl with h1 | ⟨b', o', h1, hge⟩
    · cases h1
    · injection h1 with h1
      injection h1 with e1 e2
      subst e1 e2
      have g2 := grown_sets W r 0 cs
      exact .inr ⟨_, _, rfl, Nat.lt_of_lt_of_le hb g2.size, range_grown h hb g2 (by omega)⟩
theorem insV_sets {W : World} {v : Value} {L : List Ins} {b0 r : Nat} {cs : List Value} (h : InsV W v L) (hf : FrV b0 v) (hr : r < b0) : InsV (W.setCells r 0 cs) v L := by
  obtain ⟨A, c, rfl, hA⟩ := h
  refine ⟨A, c, rfl, ?_⟩
  rcases hA with h0 | ⟨b, o, rfl, hb, h⟩
  · exact .inl h0
  · rcases hf _ _ _ rfl with h1 | ⟨b', o', h1, hge⟩
    · cases h1
    · injection h1 with h1
      injection h1 with e1 e2
      subst e1 e2
      have g2 := grown_sets W r 0 cs
      exact .inr ⟨_, _, rfl, Nat.lt_of_lt_of_le hb g2.size, range_grown h hb g2 (by omega)⟩
end Go.Proofs.YtehgpnnfjgmiiaaGreat
end
