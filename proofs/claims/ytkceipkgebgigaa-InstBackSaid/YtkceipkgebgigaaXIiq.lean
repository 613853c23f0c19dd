/- spoil and Read of package inst. Conditions: at most 900,000 bytes. -/
import Derived.Test.YtkceipkgebgigaaXIip
import Derived.Test.YtkceipkgebgigaaXKCdk
import Derived.Test.YtkceipkgebgigaaXJLwk
namespace Go.Proofs.Ytkceipkgebgigaa
open Go.Shelf Go.RowKit Go.Lib Go.Great
set_option maxRecDepth 1000000
set_option maxHeartbeats 2000000
theorem txtV_len (s : St) : (txtV s 1024).length ≤ 1024 := by
  unfold txtV
  split
  · rename_i h
    rw [List.length_take]
    have := h.2.2.2.1
    omega
  · simp
theorem nextI_tgt (s : St) : (nextI s).tgt.length ≤ 1024 := by
  unfold nextI
  split
  · exact txtV_len _
  · simp
section
variable {w W W' : World} {g B r q : Nat} {s s' : St} {cq cq' : List Value}
theorem spoil_n (n : NXI w g B r q s cq W) : Calls Try.prog 68 #[.pointer (some ⟨g, 0, none⟩)] W fun e W' => e = .returned (.tuple #[]) ∧ NXI w g B r q ⟨[], true⟩ cq W' := by
  have H := n.take (-1) (by omega)
  rw [takeS_neg] at H
  have HT := Lib.hid H
  clear H n
  go_enter Try.func68, Try.ntmps68
  go_wp2_with (go_at_call 96; (with_reducible refine HT.out.mono ?_); rintro e w1 ⟨A, c, rfl, n1, _⟩)
  go_end0
  exact ⟨rfl, n1⟩
end
def IRdIs (w : World) (g B : Nat) (s : St) (e : Ending) (w' : World) : Prop := e = .returned (.tuple #[.agg (encI (readI s)).toArray, .bool (goodI (nextI s))]) ∧ RdrB w' g (readS s) B ∧ w.grownBy w' (some g)
theorem results_cs {fn : Func} {p t : Tmp} {ty : TypeId} (h : fn.results = #[.cell p ty, .tmp t]) {P : Program} (tmps : Array Value) (w : World) (b o : Nat) (cs : List Value) (d : TypeDesc) (u : Value) (hp : tmps.getD p undef = .pointer (some ⟨b, o, none⟩)) (hq : tmps.getD t undef = u)
    (hc : w.rangeAt b o cs) (hu : P.underlying ty = some d) (hd : d.isRow = true) (hi : (P.info? ty).map (·.size) = some cs.length) : (results fn tmps).run P w = .ok (.tuple #[.agg cs.toArray, u]) w := by
  have h1 := run_loadVar_mid (P := P) w b o ty cs d hc hu hd hi
  have hp' : tmps[p]?.getD undef = .pointer (some ⟨b, o, none⟩) := by simpa using hp
  have hq' : tmps[t]?.getD undef = u := by simpa using hq
  simp [results, h, hp', hq', h1, asAddr]
theorem build28z (W : World) : (Instr.build 28 #[]).run Try.prog W = .ok (.agg (encI zeroI).toArray) W := by kernel_rfl
theorem iread_any {w : World} {g B : Nat} {s : St} (h : RdrB w g s B) (hB : B ≤ w.heap.size) : Calls Try.prog 29 #[.pointer (some ⟨g, 0, none⟩)] w (IRdIs w g B s) := by
  obtain ⟨W0, hW0⟩ : ∃ W0, W0 = w.alloc (.cells (encI zeroI).toArray 28) := ⟨_, rfl⟩
  have hb0 : Below w.heap.size w W0 := by rw [hW0]; exact (Below.refl _ w).alloc (Nat.le_refl _) _
  have hr0 : W0.heap[w.heap.size]? = some (.cells (encI zeroI).toArray 28 (0, 0)) := by rw [hW0]; exact heap_alloc_new w _
  have hl0 : w.heap.size < W0.heap.size := (Array.getElem?_eq_some_iff.1 hr0).1
  have hgl := h.lt
  have HN := Lib.hid (inext_any (h.below hb0) (Nat.le_trans hB hb0.size))
  have HX : Hid (∀ w1, NxIs W0 g B s (.returned (.agg (encI (nextI s)).toArray)) w1 → NXI w g B w.heap.size w1.heap.size (nextS s) (encI (nextI s)) (w1.alloc (.cells (encI (nextI s)).toArray 28))) := Lib.hid (fun w1 h1 => by
    obtain ⟨_, hrd, hgr⟩ := h1
    have hba : Below w1.heap.size w1 (w1.alloc (.cells (encI (nextI s)).toArray 28)) := (Below.refl _ w1).alloc (Nat.le_refl _) _
    have hr1 : w1.heap[w.heap.size]? = some (.cells (encI zeroI).toArray 28 (0, 0)) := (hgr.block _ hl0 (by intro e; injection e with e; omega)).trans hr0
    have hl1 : w.heap.size < w1.heap.size := (Array.getElem?_eq_some_iff.1 hr1).1
    refine ⟨hrd.below hba, (hba.block _ hl1).trans hr1, heap_alloc_new w1 _, ?_, hgl, hB, Nat.le_refl _, by omega, by omega⟩
    exact grownBy_trans (grownBy_trans (grown_of_bel hb0 _) hgr) (grown_of_bel hba _))
  have HG : Hid (∀ (W : World) (q : Nat), NXI w g B w.heap.size q (nextS s) (encI (nextI s)) W → Calls Try.prog 14 #[.agg (encI (nextI s)).toArray] W fun e W' => e = .returned (.bool (goodI (nextI s))) ∧ NXI w g B w.heap.size q (nextS s) (encI (nextI s)) W' ∧ (loadVar 28 ⟨q, 0, none⟩).run Try.prog W' = .ok (.agg (encI (nextI s)).toArray) W') := Lib.hid (fun W q n => (igood_any (nextI s) (by have := nextI_tgt s; omega) W).mono (by
    rintro e W' ⟨rfl, hb⟩
    have n2 := n.bel hb
    exact ⟨rfl, n2, load28 (row_range n2.hq)⟩))
  have HL : Hid (∀ (W : World) (q : Nat), NXI w g B w.heap.size q (nextS s) (encI (nextI s)) W → (loadVar 28 ⟨q, 0, none⟩).run Try.prog W = .ok (.agg (encI (nextI s)).toArray) W) := Lib.hid (fun W q n => load28 (row_range n.hq))
  have HSP : Hid (∀ (W : World) (q : Nat), NXI w g B w.heap.size q (nextS s) (encI (nextI s)) W → Calls Try.prog 68 #[.pointer (some ⟨g, 0, none⟩)] W fun e W' => e = .returned (.tuple #[]) ∧ NXI w g B w.heap.size q ⟨[], true⟩ (encI (nextI s)) W') := Lib.hid (fun W q n => spoil_n n)
  have HW := Lib.hid hW0
  have HBU := Lib.hid (fun W => build28z W)
  have HSZ : Hid (∀ i : Ins, (Try.prog.info? 28).map (·.size) = some (encI i).length) := Lib.hid (fun i => by rw [encI_length]; exact size28i)
  unfold NxIs at HN
  change Hid (Calls Try.prog 67 #[.pointer (some ⟨g, 0, none⟩)] W0 fun e w' => NxIs W0 g B s e w') at HN
  have HN2 : Hid (Calls Try.prog 67 #[.pointer (some ⟨g, 0, none⟩)] W0 fun e w' => e = .returned (.agg (encI (nextI s)).toArray) ∧ NxIs W0 g B s (.returned (.agg (encI (nextI s)).toArray)) w') := Lib.hid (HN.out.mono (by
    rintro e w' hn
    obtain ⟨rfl, h1, h2⟩ := hn
    exact ⟨rfl, rfl, h1, h2⟩))
  clear HN hW0 h hb0 hr0 hl0 hgl
  cases hgd : goodI (nextI s)
  · have HE : Hid (∀ W', RdrB W' g ⟨[], true⟩ B → w.grownBy W' (some g) → IRdIs w g B s (.returned (.tuple #[.agg (encI zeroI).toArray, .bool false])) W') := Lib.hid (fun W' a b => by
      unfold IRdIs readI readS
      rw [if_neg (by rw [hgd]; simp), if_neg (by rw [hgd]; simp), hgd]
      exact ⟨rfl, a, b⟩)
    rw [hgd] at HG
    clear hgd
    generalize nextI s = NI at *
    obtain ⟨Y, hY⟩ : ∃ Y, Y = (encI NI).toArray := ⟨_, rfl⟩
    have HY := Lib.hid hY
    rw [← hY] at HX HG HL HN2
    clear hY
    go_enter Try.func29, Try.ntmps29
    go_wp2_with (first
      | (with_reducible refine wpList_alloc28 (o := ⟨some 2, _, _, _, _, _⟩) w.heap.size rfl rfl 2 rfl rfl ?_)
      | (go_at_call 67; rw [← HW.out]; (with_reducible refine HN2.out.mono ?_); rintro e w1 ⟨rfl, h1⟩)
      | (with_reducible refine wpList_alloc28 (o := ⟨some 4, _, _, _, _, _⟩) w1.heap.size rfl rfl 4 rfl rfl ?_)
      | ((with_reducible refine wpList_store28n (o := ⟨none, _, _, _, _, _⟩) rfl (.tmp 4) (.tmp 6) rfl w1.heap.size rfl zeroI NI ?_ ?_ ?_); rfl; (rw [← HY.out]; rfl); rw [← HY.out])
      | ((with_reducible refine wpList_loadV (op := ⟨some 7, _, _, _, _, _⟩) rfl 28 (.tmp 4) rfl ⟨w1.heap.size, 0, none⟩ ?_ _ (HL.out _ _ (HX.out _ h1)) ?_); rfl)
      | (go_at_call 14; (with_reducible refine (HG.out _ _ (HX.out _ h1)).mono ?_); rintro e w2 ⟨rfl, n2, hl2⟩)
      | (go_at_call 68; (with_reducible refine (HSP.out _ _ n2).mono ?_); rintro e w3 ⟨rfl, n3⟩)
      | ((with_reducible refine wpList_buildV (o := ⟨some 12, _, _, _, _, _⟩) rfl 28 #[] rfl #[] ?_ _ (HBU.out _) ?_); rfl)
      | ((with_reducible refine wpList_store28 (o := ⟨none, _, _, _, _, _⟩) rfl (.tmp 2) (.tmp 12) rfl w.heap.size zeroI ?_ ?_ (n3.fin zeroI).1 ?_); rfl; rfl))
    refine bodyPost_ret (v := .tuple #[.agg (encI zeroI).toArray, .bool false]) ?_ rfl ?_
    · exact results_cs (p := 2) (t := 3) (ty := 28) rfl _ _ w.heap.size 0 (encI zeroI) _ _ rfl rfl (n3.fin zeroI).2.1 Try.underlying28 rfl (HSZ.out _)
    · exact HE.out _ (n3.fin zeroI).2.2.1 (n3.fin zeroI).2.2.2
  · have HE : Hid (∀ W', RdrB W' g (nextS s) B → w.grownBy W' (some g) → IRdIs w g B s (.returned (.tuple #[.agg (encI (nextI s)).toArray, .bool true])) W') := Lib.hid (fun W' a b => by
      unfold IRdIs readI readS
      rw [if_pos hgd, if_pos hgd, hgd]
      exact ⟨rfl, a, b⟩)
    rw [hgd] at HG
    clear hgd
    generalize nextI s = NI at *
    obtain ⟨Y, hY⟩ : ∃ Y, Y = (encI NI).toArray := ⟨_, rfl⟩
    have HY := Lib.hid hY
    rw [← hY] at HX HG HL HN2
    clear hY
    go_enter Try.func29, Try.ntmps29
    go_wp2_with (first
      | (with_reducible refine wpList_alloc28 (o := ⟨some 2, _, _, _, _, _⟩) w.heap.size rfl rfl 2 rfl rfl ?_)
      | (go_at_call 67; rw [← HW.out]; (with_reducible refine HN2.out.mono ?_); rintro e w1 ⟨rfl, h1⟩)
      | (with_reducible refine wpList_alloc28 (o := ⟨some 4, _, _, _, _, _⟩) w1.heap.size rfl rfl 4 rfl rfl ?_)
      | ((with_reducible refine wpList_store28n (o := ⟨none, _, _, _, _, _⟩) rfl (.tmp 4) (.tmp 6) rfl w1.heap.size rfl zeroI NI ?_ ?_ ?_); rfl; (rw [← HY.out]; rfl); rw [← HY.out])
      | ((with_reducible refine wpList_loadV (op := ⟨some 7, _, _, _, _, _⟩) rfl 28 (.tmp 4) rfl ⟨w1.heap.size, 0, none⟩ ?_ _ (HL.out _ _ (HX.out _ h1)) ?_); rfl)
      | (go_at_call 14; (with_reducible refine (HG.out _ _ (HX.out _ h1)).mono ?_); rintro e w2 ⟨rfl, n2, hl2⟩)
      | ((with_reducible refine wpList_loadV (op := ⟨some 13, _, _, _, _, _⟩) rfl 28 (.tmp 4) rfl ⟨w1.heap.size, 0, none⟩ ?_ _ hl2 ?_); rfl)
      | ((with_reducible refine wpList_store28 (o := ⟨none, _, _, _, _, _⟩) rfl (.tmp 2) (.tmp 13) rfl w.heap.size NI ?_ ?_ (n2.fin NI).1 ?_); rfl; (rw [← HY.out]; rfl)))
    refine bodyPost_ret (v := .tuple #[.agg (encI NI).toArray, .bool true]) ?_ rfl ?_
    · exact results_cs (p := 2) (t := 3) (ty := 28) rfl _ _ w.heap.size 0 (encI NI) _ _ rfl rfl (n2.fin NI).2.1 Try.underlying28 rfl (HSZ.out _)
    · exact HE.out _ (n2.fin NI).2.2.1 (n2.fin NI).2.2.2
end Go.Proofs.Ytkceipkgebgigaa
