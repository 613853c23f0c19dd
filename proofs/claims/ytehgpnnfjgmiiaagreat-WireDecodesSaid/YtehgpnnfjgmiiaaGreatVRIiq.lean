/- spoil and Read of package inst. Conditions: at most 900,000 bytes. Rows of instances in memory: what a row of one's own is; a clone; a row that grows. Conditions: at most 10,000 instances where cloned. roster.Read of the program. No condition beyond a good reader. What a read that fails leaves of a roster: plain. No condition. -/
import Derived.Test.YtehgpnnfjgmiiaaGreatVOja
import Derived.Test.YtehgpnnfjgmiiaaGreatVObd
import Derived.Test.YtehgpnnfjgmiiaaGreatVIiv
import Derived.Test.YtehgpnnfjgmiiaaGreatVObc
import Derived.Test.YtehgpnnfjgmiiaaGreatVRIip
import Derived.Test.YtehgpnnfjgmiiaaGreatProg
import Derived.Lib.ConvBytes
import Derived.RangeFuncFrom
import Derived.RangeFuncLeaves
import Derived.RangeFuncNested
import Derived.RangeFuncBound
import Derived.RangeFuncCalls
import Derived.OwnWalkIn
import Derived.TacticsInMore
import Derived.LoopNIn
import Derived.LoopIn
import Derived.RegionTactic
import Derived.RegionCalls
import Derived.WalkKit
import Derived.Deep.RegionHeld3
import Derived.Deep.QuietTactic
import Derived.BigQuiet
import Derived.Lib.Join
import Derived.StillTailTactics
import Derived.Great.BuildSlice
import Derived.Shelf.Abstract
import Derived.Shelf.SlGeneric
import Derived.Shelf.Strings.Search1
import Derived.Shelf.Strings.Search2
import Derived.Ground.GgzProg
import Derived.LoopTactic
import Derived.Deep.Cut
import Derived.Maps.AppendAt
import Derived.RangeFuncBox
import Derived.Lib.AppendStr
import Derived.Laws.BitsAllLaws
import Derived.Deep.MidRow
import Derived.Deep.DeepCutAuto
import Derived.Lib.SlBytesConst
import Derived.Stop.BytesEq
import Derived.Sort.Grow
import Derived.Deep.AppendSrc
import Derived.Laws.ResultCell
import Derived.Shelf.SlicesE.Clone
import Derived.Test.YtehgpnnfjgmiiaaGreatVRERefb
import Derived.Test.YtehgpnnfjgmiiaaGreatVREOctc
import Derived.Laws.BytesString
import Derived.Laws.CopyOwn
import Derived.Deep.AppendLies
import Derived.Deep.Draws
import Derived.WalkSpells
import Derived.Test.YtehgpnnfjgmiiaaGreatRows
import Derived.WalkLawsBesides
import Derived.Lib.Hide
import Derived.Outline
import Derived.Laws.BitsLemmas
import Derived.Laws.Bits64
import Derived.Lib.OwnBridge
import Derived.Lib.SliceRun
import Derived.Below
import Derived.ProofKit
import Derived.OpenShut
import Derived.ChangeOld
import Derived.Laws.Tables
import Derived.Deep.LoopGhost
import Derived.Shelf.LaysM
import Derived.Lib.Bytealg
import Derived.Test.YtehgpnnfjgmiiaaGreatVRKCdk
import Derived.Test.YtehgpnnfjgmiiaaGreatVRIio
section
namespace Go.Proofs.YtehgpnnfjgmiiaaGreat
set_option maxRecDepth 100000
open Go.Shelf Go.RowKit Go.Lib Go.Great
set_option maxRecDepth 1000000
set_option maxHeartbeats 2000000
theorem txtV_len (s : St) : (txtV s 1024).length ≤ 1024 := by
  unfold txtV
  split
  · rename_i h
    rw [List.length_take]
    have := h.2.2.2.1
    omega
  · simp
theorem nextI_tgt (s : St) : (nextI s).tgt.length ≤ 1024 := by
  unfold nextI
  split
  · exact txtV_len _
  · simp
section
variable {w W W' : World} {g B r q : Nat} {s s' : St} {cq cq' : List Value}
theorem spoil_n (n : NXI w g B r q s cq W) : Calls Tryz.prog 110 #[.pointer (some ⟨g, 0, none⟩)] W fun e W' => e = .returned (.tuple #[]) ∧ NXI w g B r q ⟨[], true⟩ cq W' := by
  have H := n.take (-1) (by omega)
  rw [takeS_neg] at H
  have HT := Lib.hid H
  clear H n
  go_enter Tryz.func110, Tryz.ntmps110
  go_wp2_with (go_at_call 67; (with_reducible refine HT.out.mono ?_); rintro e w1 ⟨A, c, rfl, n1, _⟩)
  go_end0
  exact ⟨rfl, n1⟩
end
def IRdIs (w : World) (g B : Nat) (s : St) (e : Ending) (w' : World) : Prop := e = .returned (.tuple #[.agg (encI (readI s)).toArray, .bool (goodI (nextI s))]) ∧ RdrB w' g (readS s) B ∧ w.grownBy w' (some g)
theorem results_cs {fn : Func} {p t : Tmp} {ty : TypeId} (h : fn.results = #[.cell p ty, .tmp t]) {P : Program} (tmps : Array Value) (w : World) (b o : Nat) (cs : List Value) (d : TypeDesc) (u : Value) (hp : tmps.getD p undef = .pointer (some ⟨b, o, none⟩)) (hq : tmps.getD t undef = u)
    (hc : w.rangeAt b o cs) (hu : P.underlying ty = some d) (hd : d.isRow = true) (hi : (P.info? ty).map (·.size) = some cs.length) : (results fn tmps).run P w = .ok (.tuple #[.agg cs.toArray, u]) w := by
  have h1 := run_loadVar_mid (P := P) w b o ty cs d hc hu hd hi
  have hp' : tmps[p]?.getD undef = .pointer (some ⟨b, o, none⟩) := by simpa using hp
  have hq' : tmps[t]?.getD undef = u := by simpa using hq
  simp [results, h, hp', hq', h1, asAddr]
theorem build28z (W : World) : (Instr.build 79 #[]).run Tryz.prog W = .ok (.agg (encI zeroI).toArray) W := by kernel_rfl
theorem iread_any {w : World} {g B : Nat} {s : St} (h : RdrB w g s B) (hB : B ≤ w.heap.size) : Calls Tryz.prog 93 #[.pointer (some ⟨g, 0, none⟩)] w (IRdIs w g B s) := by
  obtain ⟨W0, hW0⟩ : ∃ W0, W0 = w.alloc (.cells (encI zeroI).toArray 79) := ⟨_, rfl⟩
  have hb0 : Below w.heap.size w W0 := by rw [hW0]; exact (Below.refl _ w).alloc (Nat.le_refl _) _
  have hr0 : W0.heap[w.heap.size]? = some (.cells (encI zeroI).toArray 79 (0, 0)) := by rw [hW0]; exact heap_alloc_new w _
  have hl0 : w.heap.size < W0.heap.size := (Array.getElem?_eq_some_iff.1 hr0).1
  have hgl := h.lt
  have HN := Lib.hid (inext_any (h.below hb0) (Nat.le_trans hB hb0.size))
  have HX : Hid (∀ w1, NxIs W0 g B s (.returned (.agg (encI (nextI s)).toArray)) w1 → NXI w g B w.heap.size w1.heap.size (nextS s) (encI (nextI s)) (w1.alloc (.cells (encI (nextI s)).toArray 79))) := Lib.hid (fun w1 h1 => by
    obtain ⟨_, hrd, hgr⟩ := h1
    have hba : Below w1.heap.size w1 (w1.alloc (.cells (encI (nextI s)).toArray 79)) := (Below.refl _ w1).alloc (Nat.le_refl _) _
    have hr1 : w1.heap[w.heap.size]? = some (.cells (encI zeroI).toArray 79 (0, 0)) := (hgr.block _ hl0 (by intro e; injection e with e; omega)).trans hr0
    have hl1 : w.heap.size < w1.heap.size := (Array.getElem?_eq_some_iff.1 hr1).1
    refine ⟨hrd.below hba, (hba.block _ hl1).trans hr1, heap_alloc_new w1 _, ?_, hgl, hB, Nat.le_refl _, by omega, by omega⟩
    exact grownBy_trans (grownBy_trans (grown_of_bel hb0 _) hgr) (grown_of_bel hba _))
  have HG : Hid (∀ (W : World) (q : Nat), NXI w g B w.heap.size q (nextS s) (encI (nextI s)) W → Calls Tryz.prog 57 #[.agg (encI (nextI s)).toArray] W fun e W' => e = .returned (.bool (goodI (nextI s))) ∧ NXI w g B w.heap.size q (nextS s) (encI (nextI s)) W' ∧ (loadVar 79 ⟨q, 0, none⟩).run Tryz.prog W' = .ok (.agg (encI (nextI s)).toArray) W') := Lib.hid (fun W q n => (igood_any (nextI s) (by have := nextI_tgt s; omega) W).mono (by
    rintro e W' ⟨rfl, hb⟩
    have n2 := n.bel hb
    exact ⟨rfl, n2, load28 (row_range n2.hq)⟩))
  have HL : Hid (∀ (W : World) (q : Nat), NXI w g B w.heap.size q (nextS s) (encI (nextI s)) W → (loadVar 79 ⟨q, 0, none⟩).run Tryz.prog W = .ok (.agg (encI (nextI s)).toArray) W) := Lib.hid (fun W q n => load28 (row_range n.hq))
  have HSP : Hid (∀ (W : World) (q : Nat), NXI w g B w.heap.size q (nextS s) (encI (nextI s)) W → Calls Tryz.prog 110 #[.pointer (some ⟨g, 0, none⟩)] W fun e W' => e = .returned (.tuple #[]) ∧ NXI w g B w.heap.size q ⟨[], true⟩ (encI (nextI s)) W') := Lib.hid (fun W q n => spoil_n n)
  have HW := Lib.hid hW0
  have HBU := Lib.hid (fun W => build28z W)
  have HSZ : Hid (∀ i : Ins, (Tryz.prog.info? 79).map (·.size) = some (encI i).length) := Lib.hid (fun i => by rw [encI_length]; exact size28i)
  unfold NxIs at HN
  change Hid (Calls Tryz.prog 109 #[.pointer (some ⟨g, 0, none⟩)] W0 fun e w' => NxIs W0 g B s e w') at HN
  have HN2 : Hid (Calls Tryz.prog 109 #[.pointer (some ⟨g, 0, none⟩)] W0 fun e w' => e = .returned (.agg (encI (nextI s)).toArray) ∧ NxIs W0 g B s (.returned (.agg (encI (nextI s)).toArray)) w') := Lib.hid (HN.out.mono (by
    rintro e w' hn
    obtain ⟨rfl, h1, h2⟩ := hn
    exact ⟨rfl, rfl, h1, h2⟩))
  clear HN hW0 h hb0 hr0 hl0 hgl
  cases hgd : goodI (nextI s)
  · have HE : Hid (∀ W', RdrB W' g ⟨[], true⟩ B → w.grownBy W' (some g) → IRdIs w g B s (.returned (.tuple #[.agg (encI zeroI).toArray, .bool false])) W') := Lib.hid (fun W' a b => by
      unfold IRdIs readI readS
      rw [if_neg (by rw [hgd]; simp), if_neg (by rw [hgd]; simp), hgd]
      exact ⟨rfl, a, b⟩)
    rw [hgd] at HG
    clear hgd
    generalize nextI s = NI at *
    obtain ⟨Y, hY⟩ : ∃ Y, Y = (encI NI).toArray := ⟨_, rfl⟩
    have HY := Lib.hid hY
    rw [← hY] at HX HG HL HN2
    clear hY
    go_enter Tryz.func93, Tryz.ntmps93
    go_wp2_with (first
      | (with_reducible refine wpList_alloc28 (o := ⟨some 2, _, _, _, _, _⟩) w.heap.size rfl rfl 2 rfl rfl ?_)
      | (go_at_call 109; rw [← HW.out]; (with_reducible refine HN2.out.mono ?_); rintro e w1 ⟨rfl, h1⟩)
      | (with_reducible refine wpList_alloc28 (o := ⟨some 4, _, _, _, _, _⟩) w1.heap.size rfl rfl 4 rfl rfl ?_)
      | ((with_reducible refine wpList_store28n (o := ⟨none, _, _, _, _, _⟩) rfl (.tmp 4) (.tmp 6) rfl w1.heap.size rfl zeroI NI ?_ ?_ ?_); rfl; (rw [← HY.out]; rfl); rw [← HY.out])
      | ((with_reducible refine wpList_loadV (op := ⟨some 7, _, _, _, _, _⟩) rfl 79 (.tmp 4) rfl ⟨w1.heap.size, 0, none⟩ ?_ _ (HL.out _ _ (HX.out _ h1)) ?_); rfl)
      | (go_at_call 57; (with_reducible refine (HG.out _ _ (HX.out _ h1)).mono ?_); rintro e w2 ⟨rfl, n2, hl2⟩)
      | (go_at_call 110; (with_reducible refine (HSP.out _ _ n2).mono ?_); rintro e w3 ⟨rfl, n3⟩)
      | ((with_reducible refine wpList_buildV (o := ⟨some 12, _, _, _, _, _⟩) rfl 79 #[] rfl #[] ?_ _ (HBU.out _) ?_); rfl)
      | ((with_reducible refine wpList_store28 (o := ⟨none, _, _, _, _, _⟩) rfl (.tmp 2) (.tmp 12) rfl w.heap.size zeroI ?_ ?_ (n3.fin zeroI).1 ?_); rfl; rfl))
    refine bodyPost_ret (v := .tuple #[.agg (encI zeroI).toArray, .bool false]) ?_ rfl ?_
    · exact results_cs (p := 2) (t := 3) (ty := 79) rfl _ _ w.heap.size 0 (encI zeroI) _ _ rfl rfl (n3.fin zeroI).2.1 Tryz.underlying79 rfl (HSZ.out _)
    · exact HE.out _ (n3.fin zeroI).2.2.1 (n3.fin zeroI).2.2.2
  · have HE : Hid (∀ W', RdrB W' g (nextS s) B → w.grownBy W' (some g) → IRdIs w g B s (.returned (.tuple #[.agg (encI (nextI s)).toArray, .bool true])) W') := Lib.hid (fun W' a b => by
      unfold IRdIs readI readS
      rw [if_pos hgd, if_pos hgd, hgd]
      exact ⟨rfl, a, b⟩)
    rw [hgd] at HG
    clear hgd
    generalize nextI s = NI at *
    obtain ⟨Y, hY⟩ : ∃ Y, Y = (encI NI).toArray := ⟨_, rfl⟩
    have HY := Lib.hid hY
    rw [← hY] at HX HG HL HN2
    clear hY
    go_enter Tryz.func93, Tryz.ntmps93
    go_wp2_with (first
      | (with_reducible refine wpList_alloc28 (o := ⟨some 2, _, _, _, _, _⟩) w.heap.size rfl rfl 2 rfl rfl ?_)
      | (go_at_call 109; rw [← HW.out]; (with_reducible refine HN2.out.mono ?_); rintro e w1 ⟨rfl, h1⟩)
      | (with_reducible refine wpList_alloc28 (o := ⟨some 4, _, _, _, _, _⟩) w1.heap.size rfl rfl 4 rfl rfl ?_)
      | ((with_reducible refine wpList_store28n (o := ⟨none, _, _, _, _, _⟩) rfl (.tmp 4) (.tmp 6) rfl w1.heap.size rfl zeroI NI ?_ ?_ ?_); rfl; (rw [← HY.out]; rfl); rw [← HY.out])
      | ((with_reducible refine wpList_loadV (op := ⟨some 7, _, _, _, _, _⟩) rfl 79 (.tmp 4) rfl ⟨w1.heap.size, 0, none⟩ ?_ _ (HL.out _ _ (HX.out _ h1)) ?_); rfl)
      | (go_at_call 57; (with_reducible refine (HG.out _ _ (HX.out _ h1)).mono ?_); rintro e w2 ⟨rfl, n2, hl2⟩)
      | ((with_reducible refine wpList_loadV (op := ⟨some 13, _, _, _, _, _⟩) rfl 79 (.tmp 4) rfl ⟨w1.heap.size, 0, none⟩ ?_ _ hl2 ?_); rfl)
      | ((with_reducible refine wpList_store28 (o := ⟨none, _, _, _, _, _⟩) rfl (.tmp 2) (.tmp 13) rfl w.heap.size NI ?_ ?_ (n2.fin NI).1 ?_); rfl; (rw [← HY.out]; rfl)))
    refine bodyPost_ret (v := .tuple #[.agg (encI NI).toArray, .bool true]) ?_ rfl ?_
    · exact results_cs (p := 2) (t := 3) (ty := 79) rfl _ _ w.heap.size 0 (encI NI) _ _ rfl rfl (n2.fin NI).2.1 Tryz.underlying79 rfl (HSZ.out _)
    · exact HE.out _ (n2.fin NI).2.2.1 (n2.fin NI).2.2.2
end Go.Proofs.YtehgpnnfjgmiiaaGreat
end
section
namespace Go.Proofs.YtehgpnnfjgmiiaaGreat
open Go.Shelf Go.RowKit Go.Lib Go.Sort Go.Great
set_option maxRecDepth 100000
set_option maxHeartbeats 1000000
section
variable {α : Type} {enc : α → List Value} {k : Nat}
end
/-- What a row of instances of its own is. -/
theorem own_formI {w : World} {base n : Nat} {v : Value} {L : List Ins} (h : w.ownsRow base 79 28 v n (flatE encI L)) : ∃ A c, v = .slice A n c ∧ n = L.length ∧ n ≤ c ∧ c ≤ maxLen ∧ ((A = none ∧ L = [] ∧ c = 0) ∨ ∃ g, A = some ⟨g, 0, none⟩ ∧ base ≤ g ∧ g < w.heap.size ∧ w.rangeAt g 0 (flatE encI L)) := by
  have hl := h.1
  rw [flatE_length encI_length] at hl
  have hn : n = L.length := by omega
  rcases h.2 with ⟨rfl, h0⟩ | ⟨g, cap, cur, rfl, hb, hg, hc, hm, hs, ht⟩
  · exact ⟨none, 0, by rw [h0], hn, by omega, by simp [maxLen], .inl ⟨rfl, List.eq_nil_of_length_eq_zero (by omega), rfl⟩⟩
  · refine ⟨some ⟨g, 0, none⟩, cap, rfl, hn, hc, hm, .inr ⟨g, rfl, hb, (Array.getElem?_eq_some_iff.1 hg).1, fun j u hu => ?_⟩⟩
    rw [Nat.zero_add, cell_of_row w g j _ 79 (0, 0) hg]
    rw [← ht, List.getElem?_take] at hu
    split at hu
    · simpa using hu
    · cases hu
theorem insT : InsT 26 79 := ⟨Tryz.underlying26, by kernel_rfl⟩
end Go.Proofs.YtehgpnnfjgmiiaaGreat
end
section
namespace Go.Proofs.YtehgpnnfjgmiiaaGreat
open Go.Shelf Go.RowKit Go.Lib Go.Sort Go.Great
set_option maxRecDepth 100000
set_option maxHeartbeats 2000000
/-- n instances read, one after another; where there is none, a zero one. -/
def rosN : Nat → St → List Ins × St
  | 0, s => ([], s)
  | n + 1, s => ((rosN n s).1 ++ [readI (rosN n s).2], readS (rosN n s).2)
theorem rosN_len (n : Nat) (s : St) : (rosN n s).1.length = n := by
  induction n with
  | zero => rfl
  | succ n ih => rw [rosN, List.length_append, ih]; rfl
theorem readI_tgt (s : St) : (readI s).tgt.length ≤ 1024 := by
  unfold readI
  split
  · exact nextI_tgt s
  · simp [zeroI]
theorem rosN_tgt (n : Nat) (s : St) : ∀ x ∈ (rosN n s).1, x.tgt.length ≤ 1024 := by
  induction n with
  | zero => intro x hx; cases hx
  | succ n ih =>
    intro x hx
    rw [rosN, List.mem_append] at hx
    rcases hx with hx | hx
    · exact ih x hx
    · simp only [List.mem_singleton] at hx
      subst hx
      exact readI_tgt _
/-- What Read tells, and leaves. -/
def rosG (s : St) : Bool := goodR (rosN (numV s 1) (numS s 1)).1
def rosL (s : St) : List Ins := if rosG s then (rosN (numV s 1) (numS s 1)).1 else []
def rosS (s : St) : St := if rosG s then (rosN (numV s 1) (numS s 1)).2 else ⟨[], true⟩
def RosIs (w : World) (g B : Nat) (s : St) (e : Ending) (w' : World) : Prop :=
  ∃ A c, e = .returned (.slice A (rosL s).length c) ∧ IAt w' w'.heap.size A (rosL s) ∧ (A = none ∨ ∃ g off, A = some ⟨g, off, none⟩ ∧ w.heap.size ≤ g) ∧ RdrB w' g (rosS s) B ∧ w.grownBy w' (some g)
theorem spoil_any {w : World} {g B : Nat} {s : St} (h : RdrB w g s B) : Calls Tryz.prog 94 #[.pointer (some ⟨g, 0, none⟩)] w fun e w' => e = .returned (.tuple #[]) ∧ RdrB w' g ⟨[], true⟩ B ∧ w.grownBy w' (some g) := by
  have HT : Hid (Calls Tryz.prog 67 #[.pointer (some ⟨g, 0, none⟩), .int .i64 (-1)] w fun e w' => ∃ v, e = .returned v ∧ RdrB w' g ⟨[], true⟩ B ∧ w.grownBy w' (some g)) := by
    refine Lib.hid ((take_any h.rs (-1) (by omega)).mono ?_)
    rintro e w' ⟨v, rfl, _, hr, hg⟩
    have e1 : takeS s (-1) = ⟨[], true⟩ := by
      unfold takeS
      rw [if_neg (by intro hk; have := hk.2.1; omega)]
    rw [e1] at hr
    exact ⟨v, rfl, h.fail hr hg.size, hg⟩
  clear h
  go_enter Tryz.func94, Tryz.ntmps94
  go_wp2_with (first | (go_at_call 67; (with_reducible refine HT.out.mono ?_); rintro e w1 ⟨v, rfl, hr, hg⟩))
  go_end0
  exact ⟨rfl, hr, hg⟩
theorem numV1_lt (s : St) : numV s 1 < 256 := by
  unfold numV
  split
  · exact getN_lt' _ 1 (by rw [List.length_take]; exact Nat.min_le_left _ _)
  · omega
theorem rosread_any {w : World} {g B : Nat} {s : St} (h : RdrB w g s B) (hB : B ≤ w.heap.size) : Calls Tryz.prog 70 #[.pointer (some ⟨g, 0, none⟩)] w (RosIs w g B s) := by
  have HN := Lib.hid (num_anyB h 1 (by omega))
  unfold NumPB at HN
  obtain ⟨N, hN⟩ : ∃ N, N = numV s 1 := ⟨_, rfl⟩
  have hN1 : N < 256 := by rw [hN]; exact numV1_lt s
  obtain ⟨s1, hs1⟩ : ∃ s1, s1 = numS s 1 := ⟨_, rfl⟩
  rw [← hN, ← hs1] at HN
  have HE : Hid (N = numV s 1 ∧ s1 = numS s 1) := Lib.hid ⟨hN, hs1⟩
  clear h hN hs1
  go_enter Tryz.func70, Tryz.ntmps70
  go_upto_region 3 with (first | (go_at_call 40; (with_reducible refine HN.out.mono ?_); rintro e1 w1 ⟨rfl, hr1, hg1⟩))
  have HR1 := Lib.hid hr1
  have HG1 := Lib.hid hg1
  have hgl := hr1.lt
  have HBs := Lib.hid hr1.hB
  clear HN hr1 hg1
  go_loopg [3, 8] N (fun kx s3 s6 wr => ∃ (j : Nat), j ≤ N ∧ N - j ≤ kx ∧ s6 = .int .u64 (j : Int) ∧ wr.ownsRow w1.heap.size 79 28 s3 (rosN j s1).1.length (flatE encI (rosN j s1).1) ∧ RdrB wr g (rosN j s1).2 B ∧ w1.grownBy wr (some g))
  case atStart => exact ⟨0, by omega, by omega, rfl, World.ownsRow_nil w1 _ 79 28, HR1.out, World.grownBy.refl _ _⟩
  case round =>
    obtain ⟨j, hj, hkx, rfl, ho, hrd, hgr⟩ := hrel
    clear HR1
    by_cases hlt : j < N
    · have hlt' : (j : Int) < (N : Int) := by omega
      obtain ⟨L, hL⟩ : ∃ L, L = (rosN j s1).1 := ⟨_, rfl⟩
      obtain ⟨sj, hsj⟩ : ∃ sj, sj = (rosN j s1).2 := ⟨_, rfl⟩
      rw [← hL] at ho
      rw [← hsj] at hrd
      have hLl : L.length = j := by rw [hL]; exact rosN_len j s1
      have H1 : Hid (Calls Tryz.prog 93 #[.pointer (some ⟨g, 0, none⟩)] wr fun e w2 => e = .returned (.tuple #[.agg (encI (readI sj)).toArray, .bool (goodI (nextI sj))]) ∧ RdrB w2 g (readS sj) B ∧ w1.grownBy w2 (some g) ∧ wr.grownBy w2 (some g)) := by
        refine Lib.hid ((iread_any hrd (by have := hgr.size; have := HBs.out; omega)).mono ?_)
        rintro e w2 ⟨rfl, a, b⟩
        exact ⟨rfl, a, grownBy_trans hgr b, b⟩
      obtain ⟨A3, c3, hv3, hn3, _⟩ := own_formI ho
      obtain ⟨nl, hnl⟩ : ∃ nl, nl = L.length := ⟨_, rfl⟩
      rw [← hnl] at hv3
      subst hv3
      have hbb : ∀ w2 : World, Below w2.heap.size w2 ((w2.alloc (.cells (encI (readI sj)).toArray 79)).alloc (.cells (encI (readI sj)).toArray 79)) := fun w2 => by
        have h1 : Below w2.heap.size w2 (w2.alloc (.cells (encI (readI sj)).toArray 79)) := (Below.refl _ w2).alloc (Nat.le_refl _) _
        exact h1.alloc h1.size _
      have HO : Hid (∀ w2, wr.grownBy w2 (some g) → ((w2.alloc (.cells (encI (readI sj)).toArray 79)).alloc (.cells (encI (readI sj)).toArray 79)).ownsRow w1.heap.size 79 28 (.slice A3 nl c3) L.length (flatE encI L)) := by
        refine Lib.hid (fun w2 hg2 => ?_)
        have h1 := ho.kept hg2 (by
          cases hk : (Value.slice A3 nl c3).ownBlock with
          | none => exact .inl rfl
          | some k =>
            right
            have := (ho.lt k hk).1
            intro e
            injection e with e
            omega)
        exact h1.kept (grown_of_bel (hbb w2) none) (by cases (Value.slice A3 nl c3).ownBlock <;> simp)
      have HFIN : Hid (∀ w2 v' w', RdrB w2 g (readS sj) B → w1.grownBy w2 (some g) → wr.grownBy w2 (some g) → w'.ownsRow w1.heap.size 79 28 v' (L ++ [readI sj]).length (flatE encI (L ++ [readI sj])) → ((w2.alloc (.cells (encI (readI sj)).toArray 79)).alloc (.cells (encI (readI sj)).toArray 79)).grownBy w' (Value.slice A3 nl c3).ownBlock → w'.ownsRow w1.heap.size 79 28 v' (rosN (j + 1) s1).1.length (flatE encI (rosN (j + 1) s1).1) ∧ RdrB w' g (rosN (j + 1) s1).2 B ∧ w1.grownBy w' (some g)) := by
        refine Lib.hid (fun w2 v' w' hr2 hg2 hgw ho' hg' => ?_)
        have e1 : rosN (j + 1) s1 = (L ++ [readI sj], readS sj) := by rw [rosN, ← hL, ← hsj]
        rw [e1]
        have hba := hbb w2
        have hob : ∀ k, (Value.slice A3 nl c3).ownBlock = some k → w1.heap.size ≤ k := fun k hk => (ho.lt k hk).1
        have hs12 := hg2.size
        have hBs := HBs.out
        refine ⟨ho', (hr2.below hba).keep (hg'.block g (Nat.lt_of_lt_of_le hr2.lt hba.size) (by intro e; have := hob g (by first | exact e | exact e.symm); omega)) hg'.size (fun i hi _ => hg'.block i (by have := hba.size; omega) (by intro e; have := hob i (by first | exact e | exact e.symm); omega)), ?_⟩
        have hg3 := grownBy_trans hg2 (grown_of_bel hba (some g))
        exact ⟨hg'.os.trans hg3.os, hg'.tape.trans hg3.tape, hg'.output.trans hg3.output, Nat.le_trans hg3.size hg'.size, fun i hi hne => (hg'.block i (Nat.lt_of_lt_of_le hi hg3.size) (by intro e; have := hob i (by first | exact e | exact e.symm); omega)).trans (hg3.block i hi hne)⟩
      have HLE : Hid (L.length + [readI sj].length ≤ 1000000) := Lib.hid (by rw [hLl]; simp; omega)
      have HSZ : Hid (∀ w2, w1.grownBy w2 (some g) → w1.heap.size ≤ ((w2.alloc (.cells (encI (readI sj)).toArray 79)).alloc (.cells (encI (readI sj)).toArray 79)).heap.size) := Lib.hid (fun w2 hg2 => by have := hg2.size; simp; omega)
      have HLK : Hid (∀ w2 : World, (loadVar 79 ⟨w2.heap.size, 0, none⟩).run Tryz.prog (w2.alloc (.cells (encI (readI sj)).toArray 79)) = .ok (.agg (encI (readI sj)).toArray) (w2.alloc (.cells (encI (readI sj)).toArray 79))) := Lib.hid (fun w2 => load28 (row_range (heap_alloc_new w2 _)))
      have HSR : Hid (∀ w2 : World, Src Tryz.prog 28 26 (.slice (some ⟨(w2.alloc (.cells (encI (readI sj)).toArray 79)).heap.size, 0, none⟩) 1 1) 1 (flatE encI [readI sj]) ((w2.alloc (.cells (encI (readI sj)).toArray 79)).alloc (.cells (encI (readI sj)).toArray 79))) := Lib.hid (fun w2 => src_newI insT (readI sj) _)
      clear ho hrd hgr hL hsj hLl hnl hn3 hbb
      go_wp2_with (first
        | (go_at_call 93; (with_reducible refine H1.out.mono ?_); rintro e2 w2 ⟨rfl, hr2, hg2, hgw2⟩)
        | (with_reducible refine wpList_alloc28 (o := ⟨some 4, _, _, _, _, _⟩) w2.heap.size rfl rfl 4 rfl rfl ?_)
        | ((with_reducible refine wpList_store28n (o := ⟨none, _, _, _, _, _⟩) rfl (.tmp 4) (.tmp 13) rfl w2.heap.size rfl zeroI (readI sj) ?_ ?_ ?_); rfl; rfl)
        | ((with_reducible refine wpList_loadV (op := ⟨some 16, _, _, _, _, _⟩) rfl 79 (.tmp 4) rfl _ ?_ _ (HLK.out _) ?_); rfl)
        | ((with_reducible refine wpList_build_oneI insT (readI sj) (o := ⟨some 17, _, _, _, _, _⟩) rfl (.tmp 16) rfl ?_ ?_); rfl)
        | (refine wpList_append_ins insT rfl (.tmp 15) (.tmp 17) rfl w1.heap.size _ L [readI sj] rfl (HO.out _ hgw2) _ rfl (HSR.out _) HLE.out (HSZ.out _ hg2) ?_; intro v5 w5 ho5 hg5))
      go_roundg (N - (j + 1))
      case measure => omega
      case rel =>
        obtain ⟨f1, f2, f3⟩ := HFIN.out _ _ _ hr2 hg2 hgw2 ho5 hg5
        exact ⟨j + 1, by omega, Nat.le_refl _, by go_num, f1, f2, f3⟩
    · obtain rfl : j = N := by omega
      have hlt' : ¬ (j : Int) < (j : Int) := by omega
      obtain ⟨L, hL⟩ : ∃ L, L = (rosN j s1).1 := ⟨_, rfl⟩
      obtain ⟨sj, hsj⟩ : ∃ sj, sj = (rosN j s1).2 := ⟨_, rfl⟩
      have hLt : ∀ x ∈ L, x.tgt.length ≤ 100000 := fun x hx => by have := rosN_tgt j s1 x (hL ▸ hx); omega
      rw [← hL] at ho
      rw [← hsj] at hrd
      have hLl : L.length = j := by rw [hL]; exact rosN_len j s1
      have hgood : rosG s = goodR L := by unfold rosG; rw [← HE.out.1, ← HE.out.2, ← hL]
      have hlS : rosG s = true → rosL s = L ∧ rosS s = sj := fun hg => by
        unfold rosL rosS
        rw [hg, ← HE.out.1, ← HE.out.2, ← hL, ← hsj]
        exact ⟨rfl, rfl⟩
      have hlN : rosG s = false → rosL s = [] ∧ rosS s = ⟨[], true⟩ := fun hg => by
        unfold rosL rosS
        rw [hg]
        exact ⟨rfl, rfl⟩
      have hgw := grownBy_trans HG1.out hgr
      have hw1s := HG1.out.size
      obtain ⟨A3, c3, hv3, hn3, _, _, hform⟩ := own_formI ho
      have hA2 : A3 = none ∨ ∃ g off, A3 = some ⟨g, off, none⟩ ∧ w.heap.size ≤ g := by
        rcases hform with ⟨rfl, _⟩ | ⟨g', rfl, hgb, _⟩
        · exact .inl rfl
        · exact .inr ⟨g', 0, rfl, by omega⟩
      have hA : IAt wr wr.heap.size A3 L := by
        rcases hform with ⟨_, e, _⟩ | ⟨g', rfl, _, hg', hr'⟩
        · exact .inl e
        · exact .inr ⟨g', 0, rfl, hg', hr'⟩
      have HI := Lib.hid (gd_any A3 c3 L wr hLt hA)
      subst hv3
      by_cases hgd : goodR L = true
      · rw [hgd] at HI
        have HF : Hid (∀ w2, Below wr.heap.size wr w2 → RosIs w g B s (.returned (.slice A3 L.length c3)) w2) := by
          refine Lib.hid (fun w2 hb2 => ?_)
          obtain ⟨q1, q2⟩ := hlS (hgood.trans hgd)
          refine ⟨A3, c3, by rw [q1], by rw [q1]; exact (hA.below hb2).more hb2.size, hA2, by rw [q2]; exact hrd.below hb2, grownBy_trans hgw (grown_of_bel hb2 _)⟩
        clear hA hA2 hform ho hrd hgr hL hsj hgood hlS hlN hgw hgd hLl HE hn3 hLt
        generalize L.length = nl at *
        go_wp2_with (first | (go_at_call 33; (with_reducible refine HI.out.mono ?_); rintro e2 w2 ⟨rfl, hb2⟩))
        go_ret
        exact HF.out _ hb2
      · have hgd' : goodR L = false := by cases h : goodR L with | true => exact absurd h hgd | false => rfl
        rw [hgd'] at HI
        have HSP : Hid (∀ w2, Below wr.heap.size wr w2 → Calls Tryz.prog 94 #[.pointer (some ⟨g, 0, none⟩)] w2 fun e w3 => e = .returned (.tuple #[]) ∧ RosIs w g B s (.returned (.slice none 0 0)) w3) := by
          refine Lib.hid (fun w2 hb2 => (spoil_any (hrd.below hb2)).mono ?_)
          rintro e w3 ⟨rfl, hr3, hg3⟩
          obtain ⟨q1, q2⟩ := hlN (hgood.trans hgd')
          exact ⟨rfl, none, 0, by rw [q1]; rfl, by rw [q1]; exact .inl rfl, .inl rfl, by rw [q2]; exact hr3, grownBy_trans (grownBy_trans hgw (grown_of_bel hb2 _)) hg3⟩
        clear hA hA2 hform ho hrd hgr hL hsj hgood hlS hlN hgw hgd hgd' hLl HE hn3 hLt
        generalize L.length = nl at *
        go_wp2_with (first
          | (go_at_call 33; (with_reducible refine HI.out.mono ?_); rintro e2 w2 ⟨rfl, hb2⟩)
          | (go_at_call 94; (with_reducible refine (HSP.out _ hb2).mono ?_); rintro e3 w3 ⟨rfl, hf3⟩))
        go_ret
        exact hf3
end Go.Proofs.YtehgpnnfjgmiiaaGreat
end
section
namespace Go.Proofs.YtehgpnnfjgmiiaaGreat
open Go.Shelf Go.RowKit Go.Lib Go.Great
set_option maxRecDepth 100000
set_option maxHeartbeats 400000
theorem zero_bad : goodI zeroI = false := by decide +kernel
theorem rosN_mem (s : St) : ∀ (N j : Nat), j < N → readI (rosN j s).2 ∈ (rosN N s).1
  | 0, _, h => by omega
  | N + 1, j, h => by
    rw [rosN]
    by_cases hj : j = N
    · subst hj
      exact List.mem_append_right _ (List.mem_singleton.2 rfl)
    · exact List.mem_append_left _ (rosN_mem s N j (by omega))
/-- A read that fails leaves no roster. -/
theorem ros_fail {s : St} {j : Nat} (hj : j < numV s 1) (hc : goodI (nextI (rosN j (numS s 1)).2) = false) : rosL s = [] ∧ rosS s = ⟨[], true⟩ := by
  have hm := rosN_mem (numS s 1) (numV s 1) j hj
  have hz : readI (rosN j (numS s 1)).2 = zeroI := by unfold readI; rw [if_neg (by rw [hc]; decide)]
  rw [hz] at hm
  have : rosG s = false := by
    cases hg : rosG s with
    | false => rfl
    | true =>
      have := goodR_all hg _ hm
      rw [zero_bad] at this
      cases this
  unfold rosL rosS
  rw [this]
  exact ⟨rfl, rfl⟩
end Go.Proofs.YtehgpnnfjgmiiaaGreat
end
