/- roster.Read of the reference. No condition beyond a good reader. Instances are read back from their bytes, and what is read has just these: plain. No condition. A good roster is read from its bytes, and what is read has them: plain. No condition. -/
import Derived.Test.YtehgpnnfjgmiiaaGreatVOja
import Derived.Test.YtehgpnnfjgmiiaaGreatVObd
import Derived.Test.YtehgpnnfjgmiiaaGreatVIiv
import Derived.Test.YtehgpnnfjgmiiaaGreatVObc
import Derived.Test.YtehgpnnfjgmiiaaGreatVRIiq
import Derived.Test.YtehgpnnfjgmiiaaGreatProg
import Derived.RegionTactic
import Derived.RegionCalls
import Derived.WalkKit
import Derived.Deep.RegionHeld3
import Derived.Deep.QuietTactic
import Derived.BigQuiet
import Derived.LoopTactic
import Derived.Laws.BitsAllLaws
import Derived.Deep.MidRow
import Derived.Deep.DeepCutAuto
import Derived.Great.BuildSlice
import Derived.Lib.SlBytesConst
import Derived.Stop.BytesEq
import Derived.Shelf.Abstract
import Derived.Test.YtehgpnnfjgmiiaaGreatVRERefb
import Derived.Test.YtehgpnnfjgmiiaaGreatVREOctc
import Derived.Deep.AppendSrc
import Derived.Laws.BytesString
import Derived.Laws.CopyOwn
import Derived.Deep.AppendLies
import Derived.Deep.Draws
import Derived.WalkSpells
import Derived.Test.YtehgpnnfjgmiiaaGreatRows
import Derived.WalkLawsBesides
import Derived.Lib.Hide
import Derived.Outline
import Derived.Laws.BitsLemmas
import Derived.Laws.Bits64
import Derived.Sort.Grow
import Derived.Lib.ConvBytes
import Derived.StillTailTactics
import Derived.Lib.OwnBridge
import Derived.Lib.SliceRun
import Derived.Below
import Derived.ProofKit
import Derived.OpenShut
import Derived.ChangeOld
import Derived.Laws.Tables
import Derived.Deep.LoopGhost
import Derived.Shelf.LaysM
import Derived.RangeFuncFrom
import Derived.RangeFuncLeaves
import Derived.RangeFuncNested
import Derived.RangeFuncBound
import Derived.RangeFuncCalls
import Derived.OwnWalkIn
import Derived.TacticsInMore
import Derived.LoopNIn
import Derived.LoopIn
import Derived.Lib.Join
import Derived.Shelf.SlGeneric
import Derived.Shelf.Strings.Search1
import Derived.Shelf.Strings.Search2
import Derived.Ground.GgzProg
import Derived.Deep.Cut
import Derived.Maps.AppendAt
import Derived.RangeFuncBox
import Derived.Lib.AppendStr
import Derived.Laws.ResultCell
import Derived.Shelf.SlicesE.Clone
import Derived.Lib.Bytealg
import Derived.Test.YtehgpnnfjgmiiaaGreatVRIit
import Derived.Test.YtehgpnnfjgmiiaaGreatVRIis
import Derived.Test.YtehgpnnfjgmiiaaGreatVRIio
import Derived.Test.YtehgpnnfjgmiiaaGreatVRKCdk
section
namespace Go.Proofs.YtehgpnnfjgmiiaaGreat
open Go.Shelf Go.RowKit Go.Lib Go.Sort Go.Great
set_option maxRecDepth 100000
set_option maxHeartbeats 1000000
theorem next_none : goodI (nextI ⟨[], true⟩) = false := by decide +kernel
theorem RRB.none_ {w : World} {h c B : Nat} {A : Option Addr} {xs : List UInt8} {s : St} (r : RRB w h A c xs s B) (hb : s.bad = true) : s = ⟨[], true⟩ := by
  obtain ⟨k, _, _, _, _, _, h6, h7, _⟩ := r
  rw [h6 hb, List.drop_length] at h7
  cases s
  simp at hb h7
  subst hb h7
  rfl
theorem RRB.flag {w : World} {h c B : Nat} {A : Option Addr} {xs : List UInt8} {s : St} (r : RRB w h A c xs s B) : w.cell? ⟨h, 2, none⟩ = some (.bool s.bad) := by
  obtain ⟨k, h1, _⟩ := r
  rw [cell_of_row w h 2 _ 72 (0, 0) h1]
  rfl
/-- Behind the reads: nothing, where the reader is bad or what is read is no roster. -/
theorem ros_end {s : St} (hb : (rosN (numV s 1) (numS s 1)).2.bad = true) (he : (rosN (numV s 1) (numS s 1)).2 = ⟨[], true⟩) : rosL s = [] ∧ rosS s = ⟨[], true⟩ := by
  cases hN : numV s 1 with
  | zero =>
    rw [hN] at he
    have hg : rosG s = true := by unfold rosG; rw [hN]; rfl
    unfold rosL rosS
    rw [hg, hN]
    exact ⟨rfl, he⟩
  | succ m =>
    refine ros_fail (j := m) (by omega) ?_
    rw [hN, rosN] at hb
    cases hg : goodI (nextI (rosN m (numS s 1)).2) with
    | false => rfl
    | true =>
      have e : readS (rosN m (numS s 1)).2 = nextS (rosN m (numS s 1)).2 := by unfold readS; rw [if_pos hg]
      simp only [e] at hb
      rw [nextS_bad hb] at hg
      cases hg
theorem own_iatR {w : World} {base n : Nat} {v : Value} {L : List Ins} (h : w.ownsRow base 79 28 v n (flatE encI L)) : ∃ A c, v = .slice A L.length c ∧ IAt w w.heap.size A L ∧ L.length ≤ c := by
  obtain ⟨A, c, hv, hn, hc, hm, hform⟩ := own_formI h
  subst hn
  refine ⟨A, c, hv, ?_, hc⟩
  rcases hform with ⟨_, e, _⟩ | ⟨g, rfl, _, hg, hr⟩
  · exact .inl e
  · exact .inr ⟨g, 0, rfl, hg, hr⟩
def RosRIs (w : World) (h : Nat) (A : Option Addr) (c : Nat) (xs : List UInt8) (B : Nat) (s : St) (e : Ending) (w' : World) : Prop :=
  ∃ A' c', e = .returned (.slice A' (rosL s).length c') ∧ IAt w' w'.heap.size A' (rosL s) ∧ RRB w' h A c xs (rosS s) B ∧ w.grownBy w' (some h)
theorem rosrread_any {w : World} {h c B : Nat} {A : Option Addr} {xs : List UInt8} {s : St} (r : RRB w h A c xs s B) : Calls Tryz.prog 47 #[.pointer (some ⟨h, 0, none⟩)] w (RosRIs w h A c xs B s) := by
  have HN : Hid (Calls Tryz.prog 43 #[.pointer (some ⟨h, 0, none⟩), .int .i64 1] w fun e w' => e = .returned (.int .u64 (numV s 1 : Int)) ∧ RRB w' h A c xs (numS s 1) B ∧ w.grownBy w' (some h)) := by
    refine Lib.hid ((rrnum_s r.rs 1 (by omega)).mono ?_)
    rintro e w' ⟨rfl, hr, hg⟩
    exact ⟨rfl, r.read hr hg, hg⟩
  have HT : Hid (∀ W s', RRB W h A c xs s' B → Calls Tryz.prog 44 #[.pointer (some ⟨h, 0, none⟩), .int .i64 (-1)] W fun e w' => ∃ v, e = .returned v ∧ RRB w' h A c xs ⟨[], true⟩ B ∧ W.grownBy w' (some h)) := Lib.hid (fun W s' hr => by
    refine (rrtake_s hr.rs (-1) (by omega)).mono ?_
    rintro e w' ⟨v, rfl, _, hr', hg⟩
    rw [takeS_neg] at hr'
    exact ⟨v, rfl, hr.read hr' hg, hg⟩)
  have HBs : Hid (B ≤ w.heap.size) := Lib.hid (by obtain ⟨_, _, _, _, _, _, _, _, hB⟩ := r; exact hB)
  have HEND := Lib.hid (@ros_end s)
  have HFAIL := Lib.hid (fun (j : Nat) (hj : j < numV s 1) (hc : goodI (nextI (rosN j (numS s 1)).2) = false) => ros_fail hj hc)
  have HG0 : Hid (rosG s = goodR (rosN (numV s 1) (numS s 1)).1) := Lib.hid rfl
  have HLS : Hid (rosG s = true → rosL s = (rosN (numV s 1) (numS s 1)).1 ∧ rosS s = (rosN (numV s 1) (numS s 1)).2) := Lib.hid (fun hg => by unfold rosL rosS; rw [hg]; exact ⟨rfl, rfl⟩)
  have HLN : Hid (rosG s = false → rosL s = [] ∧ rosS s = ⟨[], true⟩) := Lib.hid (fun hg => by unfold rosL rosS; rw [hg]; exact ⟨rfl, rfl⟩)
  have hN1 : numV s 1 < 256 := numV1_lt s
  generalize numV s 1 = N at *
  generalize numS s 1 = s1 at *
  clear r
  have hNw : (N : Int) % 18446744073709551616 = (N : Int) := by omega
  go_enter Tryz.func47, Tryz.ntmps47
  go_upto_region 4 with (first | (go_at_call 43; (with_reducible refine HN.out.mono ?_); rintro e1 w1 ⟨rfl, hr1, hg1⟩))
  have HR1 := Lib.hid hr1
  have HG1 := Lib.hid hg1
  have hgl := hr1.lt
  have HBw : Hid (B ≤ w1.heap.size) := Lib.hid (by have := hg1.size; have := HBs.out; omega)
  clear HN hr1 hg1 HBs
  go_loopg [4, 5] N (fun kx s3 s6 wr => ∃ (j : Nat), j ≤ N ∧ N - j ≤ kx ∧ s6 = .int .i64 (j : Int) ∧ wr.ownsRow w1.heap.size 79 28 s3 (rosN j s1).1.length (flatE encI (rosN j s1).1) ∧ RRB wr h A c xs (rosN j s1).2 B ∧ w1.grownBy wr (some h))
  case atStart => exact ⟨0, by omega, by omega, rfl, World.ownsRow_nil w1 _ 79 28, HR1.out, World.grownBy.refl _ _⟩
  case round =>
    obtain ⟨j, hj, hkx, rfl, ho, hrd, hgr⟩ := hrel
    clear HR1
    have hfl := hrd.flag
    obtain ⟨L, hL⟩ : ∃ L, L = (rosN j s1).1 := ⟨_, rfl⟩
    obtain ⟨sj, hsj⟩ : ∃ sj, sj = (rosN j s1).2 := ⟨_, rfl⟩
    rw [← hL] at ho
    rw [← hsj] at hrd hfl
    have hLl : L.length = j := by rw [hL]; exact rosN_len j s1
    have HNIL : Hid (rosL s = [] ∧ rosS s = ⟨[], true⟩ → ∀ w2, wr.grownBy w2 (some h) → RRB w2 h A c xs ⟨[], true⟩ B → RosRIs w h A c xs B s (.returned (.slice none 0 0)) w2) := Lib.hid (fun hq w2 hg2 hr2 => by
      obtain ⟨q1, q2⟩ := hq
      exact ⟨none, 0, by rw [q1]; rfl, by rw [q1]; exact .inl rfl, by rw [q2]; exact hr2, grownBy_trans (grownBy_trans HG1.out hgr) hg2⟩)
    have HTj := Lib.hid (HT.out wr sj hrd)
    by_cases hlt : j < N
    · have hlt' : (j : Int) < (N : Int) := by omega
      cases hbd : sj.bad with
      | true =>
        rw [hbd] at hfl
        have HF : Hid (∀ w2, wr.grownBy w2 (some h) → RRB w2 h A c xs ⟨[], true⟩ B → RosRIs w h A c xs B s (.returned (.slice none 0 0)) w2) := Lib.hid (HNIL.out (HFAIL.out j hlt (by rw [← hsj, hrd.none_ hbd]; exact next_none)))
        clear ho hrd hgr hL hsj hLl HEND HFAIL HG0 HLS HLN HNIL HT HG1 HBw
        go_wp2_with (first | (go_at_call 44; (with_reducible refine HTj.out.mono ?_); rintro e2 w2 ⟨v2, rfl, hr2, hg2⟩))
        go_ret
        exact HF.out _ hg2 hr2
      | false =>
        rw [hbd] at hfl
        have H1 : Hid (Calls Tryz.prog 76 #[.pointer (some ⟨h, 0, none⟩)] wr fun e w2 => e = .returned (.tuple #[.agg (encI (readI sj)).toArray, .bool (goodI (nextI sj))]) ∧ RRB w2 h A c xs (readS sj) B ∧ w1.grownBy w2 (some h) ∧ wr.grownBy w2 (some h)) := by
          refine Lib.hid ((irread_any hrd (by have := hgr.size; have := HBw.out; omega)).mono ?_)
          rintro e w2 ⟨rfl, a, b⟩
          exact ⟨rfl, a, grownBy_trans hgr b, b⟩
        obtain ⟨A3, c3, hv3, hn3, _⟩ := own_formI ho
        obtain ⟨nl, hnl⟩ : ∃ nl, nl = L.length := ⟨_, rfl⟩
        rw [← hnl] at hv3
        subst hv3
        have hbb : ∀ w2 : World, Below w2.heap.size w2 ((w2.alloc (.cells (encI (readI sj)).toArray 79)).alloc (.cells (encI (readI sj)).toArray 79)) := fun w2 => by
          have h1 : Below w2.heap.size w2 (w2.alloc (.cells (encI (readI sj)).toArray 79)) := (Below.refl _ w2).alloc (Nat.le_refl _) _
          exact h1.alloc h1.size _
        have HO : Hid (∀ w2, wr.grownBy w2 (some h) → ((w2.alloc (.cells (encI (readI sj)).toArray 79)).alloc (.cells (encI (readI sj)).toArray 79)).ownsRow w1.heap.size 79 28 (.slice A3 nl c3) L.length (flatE encI L)) := by
          refine Lib.hid (fun w2 hg2 => ?_)
          have h1 := ho.kept hg2 (by
            cases hk : (Value.slice A3 nl c3).ownBlock with
            | none => exact .inl rfl
            | some k =>
              right
              have := (ho.lt k hk).1
              intro e
              injection e with e
              omega)
          exact h1.kept (grown_of_bel (hbb w2) none) (by cases (Value.slice A3 nl c3).ownBlock <;> simp)
        have HFIN : Hid (∀ w2 v' w', RRB w2 h A c xs (readS sj) B → w1.grownBy w2 (some h) → wr.grownBy w2 (some h) → w'.ownsRow w1.heap.size 79 28 v' (L ++ [readI sj]).length (flatE encI (L ++ [readI sj])) → ((w2.alloc (.cells (encI (readI sj)).toArray 79)).alloc (.cells (encI (readI sj)).toArray 79)).grownBy w' (Value.slice A3 nl c3).ownBlock → w'.ownsRow w1.heap.size 79 28 v' (rosN (j + 1) s1).1.length (flatE encI (rosN (j + 1) s1).1) ∧ RRB w' h A c xs (rosN (j + 1) s1).2 B ∧ w1.grownBy w' (some h)) := by
          refine Lib.hid (fun w2 v' w' hr2 hg2 hgw ho' hg' => ?_)
          have e1 : rosN (j + 1) s1 = (L ++ [readI sj], readS sj) := by rw [rosN, ← hL, ← hsj]
          rw [e1]
          have hba := hbb w2
          have hob : ∀ k, (Value.slice A3 nl c3).ownBlock = some k → w1.heap.size ≤ k := fun k hk => (ho.lt k hk).1
          have hs12 := hg2.size
          have hBs := HBw.out
          refine ⟨ho', (hr2.bel hba).keep (hg'.block h (Nat.lt_of_lt_of_le hr2.lt hba.size) (by intro e; have := hob h (by first | exact e | exact e.symm); omega)) hg'.size (fun i hi => hg'.block i (by have := hba.size; omega) (by intro e; have := hob i (by first | exact e | exact e.symm); omega)), ?_⟩
          have hg3 := grownBy_trans hg2 (grown_of_bel hba (some h))
          exact ⟨hg'.os.trans hg3.os, hg'.tape.trans hg3.tape, hg'.output.trans hg3.output, Nat.le_trans hg3.size hg'.size, fun i hi hne => (hg'.block i (Nat.lt_of_lt_of_le hi hg3.size) (by intro e; have := hob i (by first | exact e | exact e.symm); omega)).trans (hg3.block i hi hne)⟩
        have HLE : Hid (L.length + [readI sj].length ≤ 1000000) := Lib.hid (by rw [hLl]; simp; omega)
        have HSZ : Hid (∀ w2, w1.grownBy w2 (some h) → w1.heap.size ≤ ((w2.alloc (.cells (encI (readI sj)).toArray 79)).alloc (.cells (encI (readI sj)).toArray 79)).heap.size) := Lib.hid (fun w2 hg2 => by have := hg2.size; simp; omega)
        have HLK : Hid (∀ w2 : World, (loadVar 79 ⟨w2.heap.size, 0, none⟩).run Tryz.prog (w2.alloc (.cells (encI (readI sj)).toArray 79)) = .ok (.agg (encI (readI sj)).toArray) (w2.alloc (.cells (encI (readI sj)).toArray 79))) := Lib.hid (fun w2 => load28 (row_range (heap_alloc_new w2 _)))
        have HSR : Hid (∀ w2 : World, Src Tryz.prog 28 26 (.slice (some ⟨(w2.alloc (.cells (encI (readI sj)).toArray 79)).heap.size, 0, none⟩) 1 1) 1 (flatE encI [readI sj]) ((w2.alloc (.cells (encI (readI sj)).toArray 79)).alloc (.cells (encI (readI sj)).toArray 79))) := Lib.hid (fun w2 => src_newI insT (readI sj) _)
        clear ho hrd hgr hL hsj hLl hnl hn3 hbb HEND HFAIL HG0 HLS HLN HNIL HT HTj
        go_wp2_with (first
          | (go_at_call 76; (with_reducible refine H1.out.mono ?_); rintro e2 w2 ⟨rfl, hr2, hg2, hgw2⟩)
          | (with_reducible refine wpList_alloc28 (o := ⟨some 6, _, _, _, _, _⟩) w2.heap.size rfl rfl 6 rfl rfl ?_)
          | ((with_reducible refine wpList_store28n (o := ⟨none, _, _, _, _, _⟩) rfl (.tmp 6) (.tmp 26) rfl w2.heap.size rfl zeroI (readI sj) ?_ ?_ ?_); rfl; rfl)
          | ((with_reducible refine wpList_loadV (op := ⟨some 29, _, _, _, _, _⟩) rfl 79 (.tmp 6) rfl _ ?_ _ (HLK.out _) ?_); rfl)
          | ((with_reducible refine wpList_build_oneI insT (readI sj) (o := ⟨some 30, _, _, _, _, _⟩) rfl (.tmp 29) rfl ?_ ?_); rfl)
          | (refine wpList_append_ins insT rfl (.tmp 28) (.tmp 30) rfl w1.heap.size _ L [readI sj] rfl (HO.out _ hgw2) _ rfl (HSR.out _) HLE.out (HSZ.out _ hg2) ?_; intro v5 w5 ho5 hg5))
        go_roundg (N - (j + 1))
        case measure => omega
        case rel =>
          obtain ⟨f1, f2, f3⟩ := HFIN.out _ _ _ hr2 hg2 hgw2 ho5 hg5
          exact ⟨j + 1, by omega, Nat.le_refl _, by go_num, f1, f2, f3⟩
    · obtain rfl : j = N := by omega
      have hlt' : ¬ (j : Int) < (j : Int) := by omega
      cases hbd : sj.bad with
      | true =>
        rw [hbd] at hfl
        have HF : Hid (∀ w2, wr.grownBy w2 (some h) → RRB w2 h A c xs ⟨[], true⟩ B → RosRIs w h A c xs B s (.returned (.slice none 0 0)) w2) := Lib.hid (HNIL.out (HEND.out (by rw [← hsj]; exact hbd) (by rw [← hsj]; exact hrd.none_ hbd)))
        clear ho hrd hgr hL hsj hLl HEND HFAIL HG0 HLS HLN HNIL HT HG1 HBw
        go_wp2_with (first | (go_at_call 44; (with_reducible refine HTj.out.mono ?_); rintro e2 w2 ⟨v2, rfl, hr2, hg2⟩))
        go_ret
        exact HF.out _ hg2 hr2
      | false =>
        rw [hbd] at hfl
        have hLt : ∀ x ∈ L, x.tgt.length ≤ 100000 := fun x hx => by have := rosN_tgt j s1 x (hL ▸ hx); omega
        obtain ⟨A3, c3, hv3, hA, hc3⟩ := own_iatR ho
        have HI := Lib.hid (rgd_any A3 c3 L wr (by omega) hLt hA)
        subst hv3
        cases hgd : goodR L with
        | true =>
          rw [hgd] at HI
          have HF : Hid (∀ w2, Below wr.heap.size wr w2 → RosRIs w h A c xs B s (.returned (.slice A3 L.length c3)) w2) := by
            refine Lib.hid (fun w2 hb2 => ?_)
            obtain ⟨q1, q2⟩ := HLS.out (by rw [HG0.out, ← hL]; exact hgd)
            rw [← hL] at q1
            rw [← hsj] at q2
            exact ⟨A3, c3, by rw [q1], by rw [q1]; exact (hA.below hb2).more hb2.size, by rw [q2]; exact hrd.bel hb2, grownBy_trans (grownBy_trans HG1.out hgr) (grown_of_bel hb2 _)⟩
          clear hA ho hrd hgr hL hsj hLl HEND HFAIL HG0 HLS HLN HNIL HT HTj HBw hgd hc3 hLt
          generalize L.length = nl at *
          go_wp2_with (first | (go_at_call 35; (with_reducible refine HI.out.mono ?_); rintro e2 w2 ⟨rfl, hb2⟩))
          go_ret
          exact HF.out _ hb2
        | false =>
          rw [hgd] at HI
          have HF : Hid (∀ w2, wr.grownBy w2 (some h) → RRB w2 h A c xs ⟨[], true⟩ B → RosRIs w h A c xs B s (.returned (.slice none 0 0)) w2) := Lib.hid (HNIL.out (HLN.out (by rw [HG0.out, ← hL]; exact hgd)))
          have HT2 : Hid (∀ w2, Below wr.heap.size wr w2 → Calls Tryz.prog 44 #[.pointer (some ⟨h, 0, none⟩), .int .i64 (-1)] w2 fun e w3 => ∃ v, e = .returned v ∧ RRB w3 h A c xs ⟨[], true⟩ B ∧ wr.grownBy w3 (some h)) := Lib.hid (fun w2 hb2 => by
            refine (HT.out w2 sj (hrd.bel hb2)).mono ?_
            rintro e w3 ⟨v, rfl, h1, h2⟩
            exact ⟨v, rfl, h1, grownBy_trans (grown_of_bel hb2 _) h2⟩)
          clear hA ho hrd hgr hL hsj hLl HEND HFAIL HG0 HLS HLN HNIL HT HTj HBw hgd hc3 hLt
          generalize L.length = nl at *
          go_wp2_with (first
            | (go_at_call 35; (with_reducible refine HI.out.mono ?_); rintro e2 w2 ⟨rfl, hb2⟩)
            | (go_at_call 44; (with_reducible refine (HT2.out _ hb2).mono ?_); rintro e3 w3 ⟨v3, rfl, hr3, hg3⟩))
          go_ret
          exact HF.out _ hg3 hr3
end Go.Proofs.YtehgpnnfjgmiiaaGreat
end
section
namespace Go.Proofs.YtehgpnnfjgmiiaaGreat
open Go.Shelf Go.RowKit Go.Lib Go.Great
set_option maxRecDepth 100000
set_option maxHeartbeats 1000000
theorem putB_succ (N k : Nat) : putB N (k + 1) = putB (N / 256) k ++ [UInt8.ofNat N] := by
  unfold putB
  rw [List.range_succ, List.map_append]
  congr 1
  · apply List.map_congr_left
    intro i hi
    have hi : i < k := by simpa using hi
    congr 1
    rw [Nat.div_div_eq_div_mul, show (256 : Nat) = 2 ^ 8 from rfl, ← Nat.pow_add]
    congr 2
    omega
  · simp

theorem putB_getN (k : Nat) : ∀ ys : List UInt8, ys.length = k → putB (getN ys) k = ys := by
  induction k with
  | zero => intro ys h; have := List.eq_nil_of_length_eq_zero h; subst this; rfl
  | succ k ih =>
    intro ys h
    have hne : ys ≠ [] := by intro e; subst e; simp at h
    have hy := List.dropLast_concat_getLast hne
    rw [putB_succ]
    rw [← hy, getN_snoc]
    have hb := (ys.getLast hne).toNat_lt
    have e1 : (getN ys.dropLast * 256 + (ys.getLast hne).toNat) / 256 = getN ys.dropLast := by omega
    rw [e1, ih _ (by rw [List.length_dropLast]; omega)]
    congr 2
    apply UInt8.toNat.inj
    simp

/-- What was read is put again: as long as the reader is not bad, what was put and what is left are the bytes. -/
def Back (b o : List UInt8) (s : St) : Prop := s.bad = false → b = o ++ s.ys
theorem back_take (b : List UInt8) (s : St) (h : Back b [] s) (hb : (takeS s 20).bad = false) : (takeV s 20).length = 20 ∧ Back b (takeV s 20) (takeS s 20) := by
  by_cases hok : takeOk s 20
  · simp only [takeS, takeV, if_pos hok] at hb ⊢
    obtain ⟨h0, h1, h2⟩ := hok
    refine ⟨by rw [List.length_take, show (20 : Int).toNat = 20 from rfl]; omega, fun _ => ?_⟩
    rw [List.take_append_drop]
    exact h h0
  · simp [takeS, if_neg hok] at hb
theorem num_bad {s : St} {k : Int} (h : (numS s k).bad = false) : s.bad = false := by
  by_cases hok : numOk s k
  · exact hok.1
  · simp [numS, if_neg hok] at h
end Go.Proofs.YtehgpnnfjgmiiaaGreat
end
section
namespace Go.Proofs.YtehgpnnfjgmiiaaGreat
open Go.Shelf Go.RowKit Go.Lib Go.Great
set_option maxRecDepth 100000
set_option maxHeartbeats 400000
theorem back_num (b o : List UInt8) (s : St) (k : Nat) (h : Back b o s) : Back b (o ++ putB (numV s (k : Int)) k) (numS s (k : Int)) := by
  intro hb
  by_cases hok : numOk s (k : Int)
  · simp only [numS, numV, if_pos hok, Int.toNat_natCast] at hb ⊢
    obtain ⟨h0, h1, h8, hle⟩ := hok
    rw [putB_getN k _ (by rw [List.length_take]; omega), List.append_assoc, List.take_append_drop]
    exact h h0
  · simp [numS, if_neg hok] at hb
theorem back_txt (b o : List UInt8) (s : St) (h : Back b o s) : Back b (o ++ (putB (txtV s 1024).length 2 ++ txtV s 1024)) (txtS s 1024) := by
  intro hb
  by_cases hok : txtOk s 1024
  · simp only [txtS, txtV, if_pos hok] at hb ⊢
    obtain ⟨h0, h2, h3, h4, h5⟩ := hok
    have e1 : ((s.ys.drop 2).take (getN (s.ys.take 2))).length = getN (s.ys.take 2) := by rw [List.length_take, List.length_drop]; omega
    rw [e1, putB_getN 2 _ (by rw [List.length_take]; omega), List.append_assoc, List.append_assoc, List.take_append_drop, List.take_append_drop]
    exact h h0
  · simp [txtS, if_neg hok] at hb
theorem txt_bad {s : St} {k : Int} (h : (txtS s k).bad = false) : s.bad = false := by
  by_cases hok : txtOk s k
  · exact hok.1
  · simp [txtS, if_neg hok] at h
theorem next_bytes {b : List UInt8} (h : goodI (nextI ⟨b, false⟩) = true) : b = bytesI (nextI ⟨b, false⟩) ++ (nextS ⟨b, false⟩).ys ∧ (nextS ⟨b, false⟩).bad = false := by
  have hbd : (nextS ⟨b, false⟩).bad = false := by
    cases hx : (nextS ⟨b, false⟩).bad
    · rfl
    · rw [nextS_bad hx] at h; exact absurd h (by simp)
  refine ⟨?_, hbd⟩
  have hf2 : flagV ⟨b, false⟩ ≤ 1 := Classical.byContradiction fun hh => by rw [flag_two (by omega)] at h; exact absurd h (by simp)
  generalize hs : (⟨b, false⟩ : St) = s at *
  have B0 : Back b [] s := fun _ => by rw [← hs]; rfl
  have h5 : (s5 s).bad = false := by
    unfold nextS at hbd
    split at hbd
    · exact num_bad (k := 2) (num_bad (k := 2) (num_bad (k := 2) (txt_bad hbd)))
    · exact hbd
  have b4 := num_bad h5
  have b3 := num_bad b4
  have b2 := num_bad b3
  have b1 : (s1 s).bad = false := num_bad b2
  obtain ⟨hl, B1⟩ := back_take b s B0 b1
  have B2 := back_num b _ _ 8 B1
  have B3 := back_num b _ _ 8 B2
  have B4 := back_num b _ _ 4 B3
  have B5 := back_num b _ _ 1 B4
  have v0 : pubV s = takeV s 20 := by unfold pubV; rw [if_pos hl]
  by_cases h0 : flagV s = 0
  · have B6 := back_num b _ _ 2 B5
    have B7 := back_num b _ _ 2 B6
    have B8 := back_num b _ _ 2 B7
    have B9 := back_txt b _ _ B8
    have hn : nextS s = s9 s := by unfold nextS; rw [if_pos h0]
    rw [hn] at hbd ⊢
    have := B9 hbd
    rw [this]
    congr 1
    have hi : (nextI s).gone = false := by unfold nextI; rw [if_pos h0]
    unfold bytesI headB
    rw [hi]
    unfold nextI
    rw [if_pos h0]
    simp only [Bool.false_eq_true, if_false]
    rw [v0, ← (show flagV s = flagN false from h0)]
    rfl
  · have h1 : flagV s = 1 := by omega
    have hn : nextS s = s5 s := by unfold nextS; rw [if_neg h0]
    rw [hn] at hbd ⊢
    have := B5 hbd
    rw [this]
    congr 1
    have hi : (nextI s).gone = true := by unfold nextI; rw [if_neg h0]; simp only [decide_eq_true_eq]; exact h1
    unfold bytesI headB
    rw [hi]
    unfold nextI
    rw [if_neg h0]
    simp only [if_true]
    rw [v0, ← (show flagV s = flagN true from h1)]
    rfl
theorem byI_is {i : Ins} (h : goodI i = true) : byI i = bytesI i := by unfold byI; rw [if_pos h]
theorem rosN_had (b : List UInt8) : ∀ n, (∀ x ∈ (rosN n ⟨b, false⟩).1, goodI x = true) → b = (rosN n ⟨b, false⟩).1.flatMap byI ++ (rosN n ⟨b, false⟩).2.ys ∧ (rosN n ⟨b, false⟩).2.bad = false
  | 0, _ => by simp [rosN]
  | n + 1, h => by
    rw [rosN] at h ⊢
    obtain ⟨h1, h2⟩ := rosN_had b n (fun x hx => h x (List.mem_append_left _ hx))
    have hg := h _ (List.mem_append_right _ (List.mem_singleton.2 rfl))
    obtain ⟨s, hs⟩ : ∃ s, s = (rosN n ⟨b, false⟩).2 := ⟨_, rfl⟩
    rw [← hs] at h1 h2 hg ⊢
    obtain ⟨ys, bd⟩ := s
    simp only at h1 h2
    subst h2
    have hgn : goodI (nextI ⟨ys, false⟩) = true := by
      cases hc : goodI (nextI ⟨ys, false⟩) with
      | true => rfl
      | false =>
        have hz : readI ⟨ys, false⟩ = zeroI := by unfold readI; rw [if_neg (by rw [hc]; decide)]
        rw [hz, zero_bad] at hg
        cases hg
    obtain ⟨q1, q2⟩ := next_bytes hgn
    have e1 : readI ⟨ys, false⟩ = nextI ⟨ys, false⟩ := by unfold readI; rw [if_pos hgn]
    have e2 : readS ⟨ys, false⟩ = nextS ⟨ys, false⟩ := by unfold readS; rw [if_pos hgn]
    simp only
    rw [e1, e2, List.flatMap_append, List.append_assoc]
    refine ⟨?_, q2⟩
    refine h1.trans ?_
    congr 1
    rw [List.flatMap_cons, List.flatMap_nil, List.append_nil, byI_is hgn]
    exact q1
theorem ros_had {b : List UInt8} (h : (rosS ⟨b, false⟩).bad = false) : goodR (rosL ⟨b, false⟩) = true ∧ b = byR (rosL ⟨b, false⟩) ++ (rosS ⟨b, false⟩).ys := by
  cases hG : rosG ⟨b, false⟩ with
  | false => unfold rosS at h; rw [hG] at h; cases h
  | true =>
    have hg : goodR (rosN (numV ⟨b, false⟩ 1) (numS ⟨b, false⟩ 1)).1 = true := hG
    have eL : rosL ⟨b, false⟩ = (rosN (numV ⟨b, false⟩ 1) (numS ⟨b, false⟩ 1)).1 := by unfold rosL; rw [if_pos hG]
    have eS : rosS ⟨b, false⟩ = (rosN (numV ⟨b, false⟩ 1) (numS ⟨b, false⟩ 1)).2 := by unfold rosS; rw [if_pos hG]
    rw [eS] at h
    have hok : numOk ⟨b, false⟩ 1 := by
      by_cases hc : numOk ⟨b, false⟩ 1
      · exact hc
      · have e1 : numV ⟨b, false⟩ 1 = 0 := by unfold numV; rw [if_neg hc]
        have e2 : numS ⟨b, false⟩ 1 = ⟨[], true⟩ := by unfold numS; rw [if_neg hc]
        rw [e1, e2] at h
        cases h
    have e1 : numV ⟨b, false⟩ 1 = getN (b.take 1) := by unfold numV; rw [if_pos hok]; rfl
    have e2 : numS ⟨b, false⟩ 1 = ⟨b.drop 1, false⟩ := by unfold numS; rw [if_pos hok]; rfl
    have h1 : 1 ≤ b.length := by
      unfold numOk at hok
      simp at hok
      omega
    have hall := goodR_all hg
    rw [e2] at hall
    obtain ⟨q1, _⟩ := rosN_had (b.drop 1) _ hall
    refine ⟨by rw [eL]; exact hg, ?_⟩
    have e4 : byR (rosL ⟨b, false⟩) = putB (getN (b.take 1)) 1 ++ (rosL ⟨b, false⟩).flatMap byI := by
      unfold byR upR
      rw [if_pos (by rw [eL]; exact hg), List.take_length]
      congr 2
      rw [eL, rosN_len, e1]
    rw [e4, putB_getN 1 (b.take 1) (by rw [List.length_take]; omega), eL, eS, e2, List.append_assoc, ← q1, List.take_append_drop]
end Go.Proofs.YtehgpnnfjgmiiaaGreat
end
