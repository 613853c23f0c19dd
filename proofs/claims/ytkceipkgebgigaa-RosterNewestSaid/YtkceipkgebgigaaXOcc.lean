/- roster.Read of the reference. No condition beyond a good reader. slices.Equal and Same of the program at instances. No condition. The library's own steps on rows of instances: copy; append of a made row; whether two rows share memory. Conditions: rows of their own. -/
import Derived.Test.YtkceipkgebgigaaXIyn
import Derived.Test.YtkceipkgebgigaaXIit
import Derived.Test.YtkceipkgebgigaaXObc
import Derived.Test.YtkceipkgebgigaaXIiq
import Derived.Test.YtkceipkgebgigaaXIij
import Derived.Laws.CopyOwn
section
namespace Go.Proofs.Ytkceipkgebgigaa
open Go.Shelf Go.RowKit Go.Lib Go.Sort Go.Great
set_option maxRecDepth 100000
set_option maxHeartbeats 1000000
theorem next_none : goodI (nextI ⟨[], true⟩) = false := by decide +kernel
theorem RRB.none_ {w : World} {h c B : Nat} {A : Option Addr} {xs : List UInt8} {s : St} (r : RRB w h A c xs s B) (hb : s.bad = true) : s = ⟨[], true⟩ := by
  obtain ⟨k, _, _, _, _, _, h6, h7, _⟩ := r
  rw [h6 hb, List.drop_length] at h7
  cases s
  simp at hb h7
  subst hb h7
  rfl
theorem RRB.flag {w : World} {h c B : Nat} {A : Option Addr} {xs : List UInt8} {s : St} (r : RRB w h A c xs s B) : w.cell? ⟨h, 2, none⟩ = some (.bool s.bad) := by
  obtain ⟨k, h1, _⟩ := r
  rw [cell_of_row w h 2 _ 47 (0, 0) h1]
  rfl
/-- Behind the reads: nothing, where the reader is bad or what is read is no roster. -/
theorem ros_end {s : St} (hb : (rosN (numV s 1) (numS s 1)).2.bad = true) (he : (rosN (numV s 1) (numS s 1)).2 = ⟨[], true⟩) : rosL s = [] ∧ rosS s = ⟨[], true⟩ := by
  cases hN : numV s 1 with
  | zero =>
    rw [hN] at he
    have hg : rosG s = true := by unfold rosG; rw [hN]; rfl
    unfold rosL rosS
    rw [hg, hN]
    exact ⟨rfl, he⟩
  | succ m =>
    refine ros_fail (j := m) (by omega) ?_
    rw [hN, rosN] at hb
    cases hg : goodI (nextI (rosN m (numS s 1)).2) with
    | false => rfl
    | true =>
      have e : readS (rosN m (numS s 1)).2 = nextS (rosN m (numS s 1)).2 := by unfold readS; rw [if_pos hg]
      simp only [e] at hb
      rw [nextS_bad hb] at hg
      cases hg
theorem own_iatR {w : World} {base n : Nat} {v : Value} {L : List Ins} (h : w.ownsRow base 28 28 v n (flatE encI L)) : ∃ A c, v = .slice A L.length c ∧ IAt w w.heap.size A L ∧ L.length ≤ c := by
  obtain ⟨A, c, hv, hn, hc, hm, hform⟩ := own_formI h
  subst hn
  refine ⟨A, c, hv, ?_, hc⟩
  rcases hform with ⟨_, e, _⟩ | ⟨g, rfl, _, hg, hr⟩
  · exact .inl e
  · exact .inr ⟨g, 0, rfl, hg, hr⟩
def RosRIs (w : World) (h : Nat) (A : Option Addr) (c : Nat) (xs : List UInt8) (B : Nat) (s : St) (e : Ending) (w' : World) : Prop :=
  ∃ A' c', e = .returned (.slice A' (rosL s).length c') ∧ IAt w' w'.heap.size A' (rosL s) ∧ RRB w' h A c xs (rosS s) B ∧ w.grownBy w' (some h)
theorem rosrread_any {w : World} {h c B : Nat} {A : Option Addr} {xs : List UInt8} {s : St} (r : RRB w h A c xs s B) : Calls Try.prog 37 #[.pointer (some ⟨h, 0, none⟩)] w (RosRIs w h A c xs B s) := by
  have HN : Hid (Calls Try.prog 70 #[.pointer (some ⟨h, 0, none⟩), .int .i64 1] w fun e w' => e = .returned (.int .u64 (numV s 1 : Int)) ∧ RRB w' h A c xs (numS s 1) B ∧ w.grownBy w' (some h)) := by
    refine Lib.hid ((rrnum_s r.rs 1 (by omega)).mono ?_)
    rintro e w' ⟨rfl, hr, hg⟩
    exact ⟨rfl, r.read hr hg, hg⟩
  have HT : Hid (∀ W s', RRB W h A c xs s' B → Calls Try.prog 69 #[.pointer (some ⟨h, 0, none⟩), .int .i64 (-1)] W fun e w' => ∃ v, e = .returned v ∧ RRB w' h A c xs ⟨[], true⟩ B ∧ W.grownBy w' (some h)) := Lib.hid (fun W s' hr => by
    refine (rrtake_s hr.rs (-1) (by omega)).mono ?_
    rintro e w' ⟨v, rfl, _, hr', hg⟩
    rw [takeS_neg] at hr'
    exact ⟨v, rfl, hr.read hr' hg, hg⟩)
  have HBs : Hid (B ≤ w.heap.size) := Lib.hid (by obtain ⟨_, _, _, _, _, _, _, _, hB⟩ := r; exact hB)
  have HEND := Lib.hid (@ros_end s)
  have HFAIL := Lib.hid (fun (j : Nat) (hj : j < numV s 1) (hc : goodI (nextI (rosN j (numS s 1)).2) = false) => ros_fail hj hc)
  have HG0 : Hid (rosG s = goodR (rosN (numV s 1) (numS s 1)).1) := Lib.hid rfl
  have HLS : Hid (rosG s = true → rosL s = (rosN (numV s 1) (numS s 1)).1 ∧ rosS s = (rosN (numV s 1) (numS s 1)).2) := Lib.hid (fun hg => by unfold rosL rosS; rw [hg]; exact ⟨rfl, rfl⟩)
  have HLN : Hid (rosG s = false → rosL s = [] ∧ rosS s = ⟨[], true⟩) := Lib.hid (fun hg => by unfold rosL rosS; rw [hg]; exact ⟨rfl, rfl⟩)
  have hN1 : numV s 1 < 256 := numV1_lt s
  generalize numV s 1 = N at *
  generalize numS s 1 = s1 at *
  clear r
  have hNw : (N : Int) % 18446744073709551616 = (N : Int) := by omega
  go_enter Try.func37, Try.ntmps37
  go_upto_region 4 with (first | (go_at_call 70; (with_reducible refine HN.out.mono ?_); rintro e1 w1 ⟨rfl, hr1, hg1⟩))
  have HR1 := Lib.hid hr1
  have HG1 := Lib.hid hg1
  have hgl := hr1.lt
  have HBw : Hid (B ≤ w1.heap.size) := Lib.hid (by have := hg1.size; have := HBs.out; omega)
  clear HN hr1 hg1 HBs
  go_loopg [4, 5] N (fun kx s3 s6 wr => ∃ (j : Nat), j ≤ N ∧ N - j ≤ kx ∧ s6 = .int .i64 (j : Int) ∧ wr.ownsRow w1.heap.size 28 28 s3 (rosN j s1).1.length (flatE encI (rosN j s1).1) ∧ RRB wr h A c xs (rosN j s1).2 B ∧ w1.grownBy wr (some h))
  case atStart => exact ⟨0, by omega, by omega, rfl, World.ownsRow_nil w1 _ 28 28, HR1.out, World.grownBy.refl _ _⟩
  case round =>
    obtain ⟨j, hj, hkx, rfl, ho, hrd, hgr⟩ := hrel
    clear HR1
    have hfl := hrd.flag
    obtain ⟨L, hL⟩ : ∃ L, L = (rosN j s1).1 := ⟨_, rfl⟩
    obtain ⟨sj, hsj⟩ : ∃ sj, sj = (rosN j s1).2 := ⟨_, rfl⟩
    rw [← hL] at ho
    rw [← hsj] at hrd hfl
    have hLl : L.length = j := by rw [hL]; exact rosN_len j s1
    have HNIL : Hid (rosL s = [] ∧ rosS s = ⟨[], true⟩ → ∀ w2, wr.grownBy w2 (some h) → RRB w2 h A c xs ⟨[], true⟩ B → RosRIs w h A c xs B s (.returned (.slice none 0 0)) w2) := Lib.hid (fun hq w2 hg2 hr2 => by
      obtain ⟨q1, q2⟩ := hq
      exact ⟨none, 0, by rw [q1]; rfl, by rw [q1]; exact .inl rfl, by rw [q2]; exact hr2, grownBy_trans (grownBy_trans HG1.out hgr) hg2⟩)
    have HTj := Lib.hid (HT.out wr sj hrd)
    by_cases hlt : j < N
    · have hlt' : (j : Int) < (N : Int) := by omega
      cases hbd : sj.bad with
      | true =>
        rw [hbd] at hfl
        have HF : Hid (∀ w2, wr.grownBy w2 (some h) → RRB w2 h A c xs ⟨[], true⟩ B → RosRIs w h A c xs B s (.returned (.slice none 0 0)) w2) := Lib.hid (HNIL.out (HFAIL.out j hlt (by rw [← hsj, hrd.none_ hbd]; exact next_none)))
        clear ho hrd hgr hL hsj hLl HEND HFAIL HG0 HLS HLN HNIL HT HG1 HBw
        go_wp2_with (first | (go_at_call 69; (with_reducible refine HTj.out.mono ?_); rintro e2 w2 ⟨v2, rfl, hr2, hg2⟩))
        go_ret
        exact HF.out _ hg2 hr2
      | false =>
        rw [hbd] at hfl
        have H1 : Hid (Calls Try.prog 30 #[.pointer (some ⟨h, 0, none⟩)] wr fun e w2 => e = .returned (.tuple #[.agg (encI (readI sj)).toArray, .bool (goodI (nextI sj))]) ∧ RRB w2 h A c xs (readS sj) B ∧ w1.grownBy w2 (some h) ∧ wr.grownBy w2 (some h)) := by
          refine Lib.hid ((irread_any hrd (by have := hgr.size; have := HBw.out; omega)).mono ?_)
          rintro e w2 ⟨rfl, a, b⟩
          exact ⟨rfl, a, grownBy_trans hgr b, b⟩
        obtain ⟨A3, c3, hv3, hn3, _⟩ := own_formI ho
        obtain ⟨nl, hnl⟩ : ∃ nl, nl = L.length := ⟨_, rfl⟩
        rw [← hnl] at hv3
        subst hv3
        have hbb : ∀ w2 : World, Below w2.heap.size w2 ((w2.alloc (.cells (encI (readI sj)).toArray 28)).alloc (.cells (encI (readI sj)).toArray 28)) := fun w2 => by
          have h1 : Below w2.heap.size w2 (w2.alloc (.cells (encI (readI sj)).toArray 28)) := (Below.refl _ w2).alloc (Nat.le_refl _) _
          exact h1.alloc h1.size _
        have HO : Hid (∀ w2, wr.grownBy w2 (some h) → ((w2.alloc (.cells (encI (readI sj)).toArray 28)).alloc (.cells (encI (readI sj)).toArray 28)).ownsRow w1.heap.size 28 28 (.slice A3 nl c3) L.length (flatE encI L)) := by
          refine Lib.hid (fun w2 hg2 => ?_)
          have h1 := ho.kept hg2 (by
            cases hk : (Value.slice A3 nl c3).ownBlock with
            | none => exact .inl rfl
            | some k =>
              right
              have := (ho.lt k hk).1
              intro e
              injection e with e
              omega)
          exact h1.kept (grown_of_bel (hbb w2) none) (by cases (Value.slice A3 nl c3).ownBlock <;> simp)
        have HFIN : Hid (∀ w2 v' w', RRB w2 h A c xs (readS sj) B → w1.grownBy w2 (some h) → wr.grownBy w2 (some h) → w'.ownsRow w1.heap.size 28 28 v' (L ++ [readI sj]).length (flatE encI (L ++ [readI sj])) → ((w2.alloc (.cells (encI (readI sj)).toArray 28)).alloc (.cells (encI (readI sj)).toArray 28)).grownBy w' (Value.slice A3 nl c3).ownBlock → w'.ownsRow w1.heap.size 28 28 v' (rosN (j + 1) s1).1.length (flatE encI (rosN (j + 1) s1).1) ∧ RRB w' h A c xs (rosN (j + 1) s1).2 B ∧ w1.grownBy w' (some h)) := by
          refine Lib.hid (fun w2 v' w' hr2 hg2 hgw ho' hg' => ?_)
          have e1 : rosN (j + 1) s1 = (L ++ [readI sj], readS sj) := by rw [rosN, ← hL, ← hsj]
          rw [e1]
          have hba := hbb w2
          have hob : ∀ k, (Value.slice A3 nl c3).ownBlock = some k → w1.heap.size ≤ k := fun k hk => (ho.lt k hk).1
          have hs12 := hg2.size
          have hBs := HBw.out
          refine ⟨ho', (hr2.bel hba).keep (hg'.block h (Nat.lt_of_lt_of_le hr2.lt hba.size) (by intro e; have := hob h (by first | exact e | exact e.symm); omega)) hg'.size (fun i hi => hg'.block i (by have := hba.size; omega) (by intro e; have := hob i (by first | exact e | exact e.symm); omega)), ?_⟩
          have hg3 := grownBy_trans hg2 (grown_of_bel hba (some h))
          exact ⟨hg'.os.trans hg3.os, hg'.tape.trans hg3.tape, hg'.output.trans hg3.output, Nat.le_trans hg3.size hg'.size, fun i hi hne => (hg'.block i (Nat.lt_of_lt_of_le hi hg3.size) (by intro e; have := hob i (by first | exact e | exact e.symm); omega)).trans (hg3.block i hi hne)⟩
        have HLE : Hid (L.length + [readI sj].length ≤ 1000000) := Lib.hid (by rw [hLl]; simp; omega)
        have HSZ : Hid (∀ w2, w1.grownBy w2 (some h) → w1.heap.size ≤ ((w2.alloc (.cells (encI (readI sj)).toArray 28)).alloc (.cells (encI (readI sj)).toArray 28)).heap.size) := Lib.hid (fun w2 hg2 => by have := hg2.size; simp; omega)
        have HLK : Hid (∀ w2 : World, (loadVar 28 ⟨w2.heap.size, 0, none⟩).run Try.prog (w2.alloc (.cells (encI (readI sj)).toArray 28)) = .ok (.agg (encI (readI sj)).toArray) (w2.alloc (.cells (encI (readI sj)).toArray 28))) := Lib.hid (fun w2 => load28 (row_range (heap_alloc_new w2 _)))
        have HSR : Hid (∀ w2 : World, Src Try.prog 28 56 (.slice (some ⟨(w2.alloc (.cells (encI (readI sj)).toArray 28)).heap.size, 0, none⟩) 1 1) 1 (flatE encI [readI sj]) ((w2.alloc (.cells (encI (readI sj)).toArray 28)).alloc (.cells (encI (readI sj)).toArray 28))) := Lib.hid (fun w2 => src_newI insT (readI sj) _)
        clear ho hrd hgr hL hsj hLl hnl hn3 hbb HEND HFAIL HG0 HLS HLN HNIL HT HTj
        go_wp2_with (first
          | (go_at_call 30; (with_reducible refine H1.out.mono ?_); rintro e2 w2 ⟨rfl, hr2, hg2, hgw2⟩)
          | (with_reducible refine wpList_alloc28 (o := ⟨some 6, _, _, _, _, _⟩) w2.heap.size rfl rfl 6 rfl rfl ?_)
          | ((with_reducible refine wpList_store28n (o := ⟨none, _, _, _, _, _⟩) rfl (.tmp 6) (.tmp 26) rfl w2.heap.size rfl zeroI (readI sj) ?_ ?_ ?_); rfl; rfl)
          | ((with_reducible refine wpList_loadV (op := ⟨some 29, _, _, _, _, _⟩) rfl 28 (.tmp 6) rfl _ ?_ _ (HLK.out _) ?_); rfl)
          | ((with_reducible refine wpList_build_oneI insT (readI sj) (o := ⟨some 30, _, _, _, _, _⟩) rfl (.tmp 29) rfl ?_ ?_); rfl)
          | (refine wpList_append_ins insT rfl (.tmp 28) (.tmp 30) rfl w1.heap.size _ L [readI sj] rfl (HO.out _ hgw2) _ rfl (HSR.out _) HLE.out (HSZ.out _ hg2) ?_; intro v5 w5 ho5 hg5))
        go_roundg (N - (j + 1))
        case measure => omega
        case rel =>
          obtain ⟨f1, f2, f3⟩ := HFIN.out _ _ _ hr2 hg2 hgw2 ho5 hg5
          exact ⟨j + 1, by omega, Nat.le_refl _, by go_num, f1, f2, f3⟩
    · obtain rfl : j = N := by omega
      have hlt' : ¬ (j : Int) < (j : Int) := by omega
      cases hbd : sj.bad with
      | true =>
        rw [hbd] at hfl
        have HF : Hid (∀ w2, wr.grownBy w2 (some h) → RRB w2 h A c xs ⟨[], true⟩ B → RosRIs w h A c xs B s (.returned (.slice none 0 0)) w2) := Lib.hid (HNIL.out (HEND.out (by rw [← hsj]; exact hbd) (by rw [← hsj]; exact hrd.none_ hbd)))
        clear ho hrd hgr hL hsj hLl HEND HFAIL HG0 HLS HLN HNIL HT HG1 HBw
        go_wp2_with (first | (go_at_call 69; (with_reducible refine HTj.out.mono ?_); rintro e2 w2 ⟨v2, rfl, hr2, hg2⟩))
        go_ret
        exact HF.out _ hg2 hr2
      | false =>
        rw [hbd] at hfl
        have hLt : ∀ x ∈ L, x.tgt.length ≤ 100000 := fun x hx => by have := rosN_tgt j s1 x (hL ▸ hx); omega
        obtain ⟨A3, c3, hv3, hA, hc3⟩ := own_iatR ho
        have HI := Lib.hid (rgd_any A3 c3 L wr (by omega) hLt hA)
        subst hv3
        cases hgd : goodR L with
        | true =>
          rw [hgd] at HI
          have HF : Hid (∀ w2, Below wr.heap.size wr w2 → RosRIs w h A c xs B s (.returned (.slice A3 L.length c3)) w2) := by
            refine Lib.hid (fun w2 hb2 => ?_)
            obtain ⟨q1, q2⟩ := HLS.out (by rw [HG0.out, ← hL]; exact hgd)
            rw [← hL] at q1
            rw [← hsj] at q2
            exact ⟨A3, c3, by rw [q1], by rw [q1]; exact (hA.below hb2).more hb2.size, by rw [q2]; exact hrd.bel hb2, grownBy_trans (grownBy_trans HG1.out hgr) (grown_of_bel hb2 _)⟩
          clear hA ho hrd hgr hL hsj hLl HEND HFAIL HG0 HLS HLN HNIL HT HTj HBw hgd hc3 hLt
          generalize L.length = nl at *
          go_wp2_with (first | (go_at_call 76; (with_reducible refine HI.out.mono ?_); rintro e2 w2 ⟨rfl, hb2⟩))
          go_ret
          exact HF.out _ hb2
        | false =>
          rw [hgd] at HI
          have HF : Hid (∀ w2, wr.grownBy w2 (some h) → RRB w2 h A c xs ⟨[], true⟩ B → RosRIs w h A c xs B s (.returned (.slice none 0 0)) w2) := Lib.hid (HNIL.out (HLN.out (by rw [HG0.out, ← hL]; exact hgd)))
          have HT2 : Hid (∀ w2, Below wr.heap.size wr w2 → Calls Try.prog 69 #[.pointer (some ⟨h, 0, none⟩), .int .i64 (-1)] w2 fun e w3 => ∃ v, e = .returned v ∧ RRB w3 h A c xs ⟨[], true⟩ B ∧ wr.grownBy w3 (some h)) := Lib.hid (fun w2 hb2 => by
            refine (HT.out w2 sj (hrd.bel hb2)).mono ?_
            rintro e w3 ⟨v, rfl, h1, h2⟩
            exact ⟨v, rfl, h1, grownBy_trans (grown_of_bel hb2 _) h2⟩)
          clear hA ho hrd hgr hL hsj hLl HEND HFAIL HG0 HLS HLN HNIL HT HTj HBw hgd hc3 hLt
          generalize L.length = nl at *
          go_wp2_with (first
            | (go_at_call 76; (with_reducible refine HI.out.mono ?_); rintro e2 w2 ⟨rfl, hb2⟩)
            | (go_at_call 69; (with_reducible refine (HT2.out _ hb2).mono ?_); rintro e3 w3 ⟨v3, rfl, hr3, hg3⟩))
          go_ret
          exact HF.out _ hg3 hr3
end Go.Proofs.Ytkceipkgebgigaa
end
section
namespace Go.Proofs.Ytkceipkgebgigaa
open Go.Shelf Go.RowKit Go.Lib Go.Great
set_option maxRecDepth 100000
set_option maxHeartbeats 400000
/-- The same instances, in the same order. -/
def sameR (xs ys : List Ins) : Bool := decide (xs.length = ys.length) && (List.range xs.length).all (fun k => eqI xs[k]! ys[k]!)
theorem sameR_iff (xs ys : List Ins) : sameR xs ys = true ↔ xs = ys := by
  unfold sameR
  rw [Bool.and_eq_true, decide_eq_true_eq, List.all_eq_true]
  constructor
  · rintro ⟨h1, h2⟩
    apply List.ext_getElem h1
    intro k hk hk'
    have := h2 k (by simpa using hk)
    rw [eqI_iff, getElem!_pos xs k hk, getElem!_pos ys k hk'] at this
    exact this
  · rintro rfl
    exact ⟨rfl, fun k _ => eqI_self _⟩
theorem eq_len (A A' : Option Addr) (n m c c' : Nat) (w : World) (h : n ≠ m) : Calls Try.prog 84 #[.slice A n c, .slice A' m c'] w fun e w' => e = .returned (.bool false) ∧ w' = w := by
  have h' : ¬ (n : Int) = (m : Int) := by omega
  go_enter Try.func84, Try.ntmps84
  go_wp2
  go_ret
  exact ⟨rfl, rfl⟩
theorem eq_none (A A' : Option Addr) (c c' : Nat) (w : World) : Calls Try.prog 84 #[.slice A 0 c, .slice A' 0 c'] w fun e w' => e = .returned (.bool true) ∧ w' = w := by
  go_enter Try.func84, Try.ntmps84
  go_wp2
  go_loopg [13] 0 (fun _ s wr => s = .int .i64 0 ∧ wr = w)
  case atStart => exact ⟨rfl, rfl⟩
  case round =>
    obtain ⟨rfl, rfl⟩ := hrel
    go_wp2
    go_ret
    exact ⟨rfl, rfl⟩
theorem eq_some (g1 o1 c1 g2 o2 c2 n : Nat) (xs ys : List Ins) (w : World) (hx : xs.length = n) (hy : ys.length = n) (hn : n ≤ 10000) (hg1 : g1 < w.heap.size) (hr1 : w.rangeAt g1 o1 (flatE encI xs)) (hg2 : g2 < w.heap.size) (hr2 : w.rangeAt g2 o2 (flatE encI ys)) :
    Calls Try.prog 84 #[.slice (some ⟨g1, o1, none⟩) n c1, .slice (some ⟨g2, o2, none⟩) n c2] w fun e w' => e = .returned (.bool (sameR xs ys)) ∧ Below w.heap.size w w' := by
  have HL1 : Hid (∀ k, k < n → ∀ W, Below w.heap.size w W → (loadVar 28 ⟨g1, o1 + k * 28, none⟩).run Try.prog W = .ok (.agg (encI xs[k]!).toArray) W) := Lib.hid (fun k hk W hW => row_load hr1 hg1 hW (by omega))
  have HL2 : Hid (∀ k, k < n → ∀ W, Below w.heap.size w W → (loadVar 28 ⟨g2, o2 + k * 28, none⟩).run Try.prog W = .ok (.agg (encI ys[k]!).toArray) W) := Lib.hid (fun k hk W hW => row_load hr2 hg2 hW (by omega))
  have HT : Hid ((∀ k, k < n → eqI xs[k]! ys[k]! = true) → sameR xs ys = true) := Lib.hid (fun h => by
    unfold sameR
    rw [Bool.and_eq_true, decide_eq_true_eq, List.all_eq_true]
    exact ⟨by omega, fun k hk => h k (by rw [List.mem_range] at hk; omega)⟩)
  have HF : Hid (∀ k, k < n → eqI xs[k]! ys[k]! = false → sameR xs ys = false) := Lib.hid (fun k hk h => by
    cases hs : sameR xs ys with
    | false => rfl
    | true => rw [(sameR_iff xs ys).1 hs, eqI_self] at h; cases h)
  generalize sameR xs ys = r at *
  clear hr1 hr2
  go_enter Try.func84, Try.ntmps84
  go_wp2
  go_loopw [13] (fun i wr => ∃ k : Nat, i = .int .i64 (k : Int) ∧ k ≤ n ∧ (∀ j, j < k → eqI xs[j]! ys[j]! = true) ∧ Below w.heap.size w wr) (fun i _ => n - (RowKit.intOf i).toNat)
  case atStart => exact ⟨0, rfl, by omega, fun j hj => by omega, Below.refl _ _⟩
  case round =>
    obtain ⟨k, rfl, hk, hF, hbr⟩ := hrel
    have HD := Lib.hid hF
    clear hF
    by_cases hlt : k < n
    · have hlt' : (k : Int) < (n : Int) := by omega
      have HBN := Lib.hid hbr
      have HQ1 : Hid (∀ q : Kept wr.heap.size wr, (loadVar 28 ⟨g1, o1 + k * 28, none⟩).run Try.prog q.val = .ok (.agg (encI xs[k]!).toArray) q.val) := Lib.hid (fun q => HL1.out k hlt _ (HBN.out.trans (q.property.mono HBN.out.size)))
      have HQ2 : Hid (∀ q : Kept wr.heap.size wr, (loadVar 28 ⟨g2, o2 + k * 28, none⟩).run Try.prog q.val = .ok (.agg (encI ys[k]!).toArray) q.val) := Lib.hid (fun q => HL2.out k hlt _ (HBN.out.trans (q.property.mono HBN.out.size)))
      have he := fun W => eqIns xs[k]! ys[k]! W
      have HNX : Hid (eqI xs[k]! ys[k]! = true → ∀ wx, Below w.heap.size w wx → ∃ k' : Nat, Value.int .i64 ((k : Int) + 1) = .int .i64 (k' : Int) ∧ k' ≤ n ∧ (∀ j, j < k' → eqI xs[j]! ys[j]! = true) ∧ Below w.heap.size w wx) := Lib.hid (fun h wx hx => ⟨k + 1, by simp, by omega, fun j hj => by
        by_cases e : j = k
        · subst e; exact h
        · exact HD.out j (by omega), hx⟩)
      have HRF := Lib.hid (HF.out k hlt)
      clear HT HF HD HL1 HL2 hbr
      cases hq : eqI xs[k]! ys[k]! with
      | false =>
        rw [hq] at he
        have HRR : Hid (r = false) := Lib.hid (HRF.out hq)
        clear HRF HNX hq
        generalize (encI xs[k]!).toArray = X at *
        generalize (encI ys[k]!).toArray = Y at *
        go_upto_region 6 with fail
        refine wp_region_kept wr.heap.size wr (Below.refl _ _) (by kernel_rfl) (by kernel_rfl) ?_
        repeat (first
          | (go_big_quiet_want; (with_reducible refine quiet_loadV 28 (.tmp 18) rfl _ ?_ _ HQ1.out ?_); rfl; simp only [Act.put, List.setIfInBounds_toArray, List.set_cons_zero, List.set_cons_succ]; go_big_quiet_on)
          | (go_big_quiet_want; (with_reducible refine quiet_loadV 28 (.tmp 22) rfl _ ?_ _ HQ2.out ?_); rfl; simp only [Act.put, List.setIfInBounds_toArray, List.set_cons_zero, List.set_cons_succ]; go_big_quiet_on)
          | go_big_quiet_step (fail))
        refine wpQuiet_nil ?_
        rintro wk ⟨⟨_, hwk⟩, rfl⟩
        go_wp2
        go_ret
        exact ⟨by rw [HRR.out]; rfl, HBN.out.trans (hwk.mono HBN.out.size)⟩
      | true =>
        rw [hq] at he
        have HNY := Lib.hid (HNX.out hq)
        clear HRF HNX hq
        generalize (encI xs[k]!).toArray = X at *
        generalize (encI ys[k]!).toArray = Y at *
        go_upto_region 6 with fail
        refine wp_region_kept wr.heap.size wr (Below.refl _ _) (by kernel_rfl) (by kernel_rfl) ?_
        repeat (first
          | (go_big_quiet_want; (with_reducible refine quiet_loadV 28 (.tmp 18) rfl _ ?_ _ HQ1.out ?_); rfl; simp only [Act.put, List.setIfInBounds_toArray, List.set_cons_zero, List.set_cons_succ]; go_big_quiet_on)
          | (go_big_quiet_want; (with_reducible refine quiet_loadV 28 (.tmp 22) rfl _ ?_ _ HQ2.out ?_); rfl; simp only [Act.put, List.setIfInBounds_toArray, List.set_cons_zero, List.set_cons_succ]; go_big_quiet_on)
          | go_big_quiet_step (fail))
        refine wpQuiet_nil ?_
        rintro wk ⟨⟨_, hwk⟩, rfl⟩
        have HBW := Lib.hid (HNY.out _ (HBN.out.trans (hwk.mono HBN.out.size)))
        clear hwk
        go_wp2
        go_roundw
        case rel => exact HBW.out
        case measure => simp [RowKit.intOf]; omega
    · have hlt' : ¬ (k : Int) < (n : Int) := by omega
      have HRT : Hid (r = true) := Lib.hid (HT.out (fun j hj => HD.out j (by omega)))
      have HBR := Lib.hid hbr
      clear HT HF HD HL1 HL2 hbr
      go_wp2
      go_ret
      exact ⟨by rw [HRT.out]; rfl, HBR.out⟩
theorem eq_any (A A' : Option Addr) (c c' : Nat) (xs ys : List Ins) (w : World) (hx : xs.length ≤ 10000) (hA : IAt w w.heap.size A xs) (hA' : IAt w w.heap.size A' ys) :
    Calls Try.prog 84 #[.slice A xs.length c, .slice A' ys.length c'] w fun e w' => e = .returned (.bool (sameR xs ys)) ∧ Below w.heap.size w w' := by
  by_cases h : xs.length = ys.length
  · rcases hA with rfl | ⟨g1, o1, rfl, hg1, hr1⟩
    · have hy : ys = [] := List.eq_nil_of_length_eq_zero (by simpa using h.symm)
      subst hy
      refine (eq_none A A' c c' w).mono ?_
      rintro e w' ⟨rfl, rfl⟩
      exact ⟨rfl, Below.refl _ _⟩
    · rcases hA' with rfl | ⟨g2, o2, rfl, hg2, hr2⟩
      · have hx0 : xs = [] := List.eq_nil_of_length_eq_zero (by simpa using h)
        subst hx0
        refine (eq_none _ A' c c' w).mono ?_
        rintro e w' ⟨rfl, rfl⟩
        exact ⟨rfl, Below.refl _ _⟩
      · rw [← h]
        exact eq_some g1 o1 c g2 o2 c' xs.length xs ys w rfl h.symm hx hg1 hr1 hg2 hr2
  · have hs : sameR xs ys = false := by unfold sameR; rw [decide_eq_false h, Bool.false_and]
    rw [hs]
    refine (eq_len A A' _ _ c c' w h).mono ?_
    rintro e w' ⟨rfl, rfl⟩
    exact ⟨rfl, Below.refl _ _⟩
theorem same_any (A A' : Option Addr) (c c' : Nat) (xs ys : List Ins) (w : World) (hx : xs.length ≤ 10000) (hA : IAt w w.heap.size A xs) (hA' : IAt w w.heap.size A' ys) :
    Calls Try.prog 44 #[.slice A xs.length c, .slice A' ys.length c'] w fun e w' => e = .returned (.bool (sameR xs ys)) ∧ Below w.heap.size w w' := by
  have H := Lib.hid (eq_any A A' c c' xs ys w hx hA hA')
  clear hA hA'
  go_enter Try.func44, Try.ntmps44
  go_wp2_with (first | (go_at_call 84; (with_reducible refine H.out.mono ?_); rintro e w1 ⟨rfl, hb1⟩))
  go_ret
  exact ⟨rfl, hb1⟩
end Go.Proofs.Ytkceipkgebgigaa
end
section
namespace Go.Proofs.Ytkceipkgebgigaa
open Go.Shelf Go.RowKit Go.Lib Go.Great
set_option maxRecDepth 100000
set_option maxHeartbeats 2000000
theorem run_copy28 (w : World) (ty : TypeId) (g o dLen dCap : Nat) (a : Addr) (sLen sCap : Nat) (cur : List Value) (cs : List Value)
    (hg : w.heap[g]? = some (.cells cur.toArray 28 (0, 0))) (hn : cs.length = Nat.min sLen dLen * 28)
    (hsrc : ∀ j v, cs[j]? = some v → w.cell? (a.add j) = some v) (hfit : o + cs.length ≤ cur.length) (h1 : ∀ v ∈ cs, v.oneCell' = true) :
    (Builtin.copy_ #[56, 56] ty #[.slice (some ⟨g, o, none⟩) dLen dCap, .slice (some a) sLen sCap]).run Try.prog w =
      .ok (goInt (Nat.min sLen dLen)) (w.setRow g (splice cur o cs).toArray) := by
  obtain ⟨i0, hi, hz0, hz1, hz2⟩ := info28i
  have hl := run_loadCells_list (P := Try.prog) w a cs hsrc
  have hst := run_storeCells_at Try.prog g o 28 cs 0 cur.toArray w hg (by simpa using hfit) h1
  simp only [Nat.add_zero] at hst
  simp [Builtin.copy_, run_underlying Try.underlying56, Builtin.lenOf, Builtin.firstCells, sizeOf, typeInfo, hi, hz1, ← hn, hl, hst, splice]
theorem wpList_copy28 {w : World} {ops : Array Oper} {rest : List Oper} {o : Oper} {a : Act} {Q : Exit → Act → World → Prop} (hgd : o.guard = none) (d s : Operand)
    (ho : o.op = .call { callee := .builtin .copy, args := #[d, s], argTypes := #[56, 56] })
    (g off dLen dCap : Nat) (ad : Addr) (sLen sCap : Nat) (hd : a.eval d = .slice (some ⟨g, off, none⟩) dLen dCap) (hs : a.eval s = .slice (some ad) sLen sCap)
    (cur cs : List Value) (hg : w.heap[g]? = some (.cells cur.toArray 28 (0, 0))) (hn : cs.length = Nat.min sLen dLen * 28)
    (hsrc : ∀ j v, cs[j]? = some v → w.cell? (ad.add j) = some v) (hfit : off + cs.length ≤ cur.length) (h1 : ∀ v ∈ cs, v.oneCell' = true)
    (h : wpList Try.prog ops Q rest (a.put o.dst (goInt (Nat.min sLen dLen))) (w.setRow g (splice cur off cs).toArray)) : wpList Try.prog ops Q (o :: rest) a w :=
  wpList_plain hgd fun _ hK => by
    have hrun := run_copy28 w o.type g off dLen dCap ad sLen sCap cur cs hg hn hsrc hfit h1
    unfold Oper.wp
    simp [execOp, ho, resolve, invoke, builtin, hd, hs, hrun, Result.andThen]
    exact hK _ _ h
theorem step_copy28 {ops : Array Oper} {o : Oper} {a : Act} {w : World} {K : Act → World → Prop} {Q : Exit → Act → World → Prop} {E : Prop} (hgd : o.guard = none) (d s : Operand)
    (ho : o.op = .call { callee := .builtin .copy, args := #[d, s], argTypes := #[56, 56] })
    (g off dLen dCap : Nat) (ad : Addr) (sLen sCap : Nat) (hd : a.eval d = .slice (some ⟨g, off, none⟩) dLen dCap) (hs : a.eval s = .slice (some ad) sLen sCap)
    (cur cs : List Value) (hg : w.heap[g]? = some (.cells cur.toArray 28 (0, 0))) (hn : cs.length = Nat.min sLen dLen * 28)
    (hsrc : ∀ j v, cs[j]? = some v → w.cell? (ad.add j) = some v) (hfit : off + cs.length ≤ cur.length) (h1 : ∀ v ∈ cs, v.oneCell' = true)
    (h : K (a.put o.dst (goInt (Nat.min sLen dLen))) (w.setRow g (splice cur off cs).toArray)) :
    if Region.wanted o (yielded ops a.tmps) = true then Oper.wp Try.prog o a w K Q else E := by
  have hw : Region.wanted o (yielded ops a.tmps) = true := by simp [Region.wanted, hgd]
  rw [if_pos hw]
  have hrun := run_copy28 w o.type g off dLen dCap ad sLen sCap cur cs hg hn hsrc hfit h1
  unfold Oper.wp
  simp [execOp, ho, resolve, invoke, builtin, hd, hs, hrun, Result.andThen]
  exact h
/-- append(s, make([]T, k)...), where it grows. -/
theorem run_append_make (w : World) (ty : TypeId) (b : Addr) (sLen sCap k : Nat) (olds : List Value) (hlo : olds.length = sLen * 28) (holds : ∀ j v, olds[j]? = some v → w.cell? (b.add j) = some v)
    (hg : sCap < sLen + k) (hk : sLen + k ≤ 1000) (hk1 : 0 < k) :
    ∃ c Z, (Builtin.append_ #[56, 3] ty #[.slice (some b) sLen sCap, .int .i64 (k : Int)]).run Try.prog w = .ok (.slice (some ⟨w.heap.size, 0, none⟩) (sLen + k) c) (w.drew.alloc (.cells (olds ++ Z).toArray 28)) ∧ sLen + k ≤ c ∧ c ≤ maxLen ∧ Z.length = (c - sLen) * 28 := by
  obtain ⟨i0, hi, hz0, hz1, hz2⟩ := info28i
  have hge := grownCap_ge w (sLen + k) sCap 28
  have hcm : grownCap w (sLen + k) sCap 28 ≤ maxLen := grownCap_le_maxLen w (sLen + k) sCap 28 (by simp only [maxLen]; omega)
  have hn : ¬ (sLen + k ≤ sCap) := by omega
  have hwr : IntKind.i64.wrap (k : Int) = (k : Int) := by
    rw [IntKind.wrap_i64]; omega
  have h63' : ¬ (9223372036854775807 < ((sLen : Int) + (k : Int))) := by omega
  have hns : Builtin.nextslicecap (sLen + k) sCap * i0.bytes ≤ 281474976710656 := growslice_fits hg (by rw [hz2]; omega)
  have h48' : ¬ (281474976710656 < Builtin.nextslicecap (sLen + k) sCap * i0.bytes) := by omega
  have h48k : ¬ (281474976710656 < (k : Int) * (i0.bytes : Int)) := by rw [hz2]; omega
  have hfo := run_firstCells_some (P := Try.prog) w.drew i0.size sLen b sLen sCap olds (by rw [hz1]; exact hlo) (by simpa using holds)
  have hk0 : ¬ ((k : Int) < 0) := by omega
  have hzl : ∀ m, (Builtin.zeroCells (encI default).toArray m).size = m * 28 := fun m => by simp [Builtin.zeroCells, encI_length]
  refine ⟨grownCap w (sLen + k) sCap 28, (Builtin.zeroCells (encI default).toArray k).toList ++ (Builtin.zeroCells (encI default).toArray (grownCap w (sLen + k) sCap 28 - (sLen + k))).toList, ?_, hge, hcm, ?_⟩
  · have hzc := hzl k
    have hk28 : ¬ (k * i0.size = 0) := by rw [hz1]; omega
    have hk29 : ¬ (k = 0 ∨ i0.size = 0) := by rw [hz1]; omega
    simp [Builtin.append_, run_underlying Try.underlying56, run_underlying Try.underlying3, sizeOf, typeInfo, zeroValue, hi, hz0, asInt, asIntOf, hwr, hk0, h48k, hn, h63', h48', Question.forced, hfo, newRow, grownCap, hk28, hk29]
    congr 2
    apply Array.ext'
    simp [Value.cells]
  · rw [List.length_append, Array.length_toList, Array.length_toList, hzl, hzl, ← Nat.add_mul]
    congr 1
    omega
end Go.Proofs.Ytkceipkgebgigaa
end
