/- spoil and Read of package inst. Conditions: at most 900,000 bytes. slices.Clone at instances: the laying. Rows of instances in memory: what a row of one's own is; a clone; a row that grows. Conditions: at most 10,000 instances where cloned. -/
import Derived.Test.YtkceipkgebgigaaXIip
import Derived.Test.YtkceipkgebgigaaXJLrg
import Derived.Test.YtkceipkgebgigaaProg
import Derived.Shelf.SlGeneric
import Derived.Shelf.SlicesE.Clone
import Derived.Deep.AppendSrc
section
namespace Go.Proofs.Ytkceipkgebgigaa
open Go.Shelf Go.RowKit Go.Lib Go.Great
set_option maxRecDepth 1000000
set_option maxHeartbeats 2000000
theorem txtV_len (s : St) : (txtV s 1024).length ≤ 1024 := by
  unfold txtV
  split
  · rename_i h
    rw [List.length_take]
    have := h.2.2.2.1
    omega
  · simp
theorem nextI_tgt (s : St) : (nextI s).tgt.length ≤ 1024 := by
  unfold nextI
  split
  · exact txtV_len _
  · simp
section
variable {w W W' : World} {g B r q : Nat} {s s' : St} {cq cq' : List Value}
theorem spoil_n (n : NXI w g B r q s cq W) : Calls Try.prog 68 #[.pointer (some ⟨g, 0, none⟩)] W fun e W' => e = .returned (.tuple #[]) ∧ NXI w g B r q ⟨[], true⟩ cq W' := by
  have H := n.take (-1) (by omega)
  rw [takeS_neg] at H
  have HT := Lib.hid H
  clear H n
  go_enter Try.func68, Try.ntmps68
  go_wp2_with (go_at_call 96; (with_reducible refine HT.out.mono ?_); rintro e w1 ⟨A, c, rfl, n1, _⟩)
  go_end0
  exact ⟨rfl, n1⟩
end
def IRdIs (w : World) (g B : Nat) (s : St) (e : Ending) (w' : World) : Prop := e = .returned (.tuple #[.agg (encI (readI s)).toArray, .bool (goodI (nextI s))]) ∧ RdrB w' g (readS s) B ∧ w.grownBy w' (some g)
theorem results_cs {fn : Func} {p t : Tmp} {ty : TypeId} (h : fn.results = #[.cell p ty, .tmp t]) {P : Program} (tmps : Array Value) (w : World) (b o : Nat) (cs : List Value) (d : TypeDesc) (u : Value) (hp : tmps.getD p undef = .pointer (some ⟨b, o, none⟩)) (hq : tmps.getD t undef = u)
    (hc : w.rangeAt b o cs) (hu : P.underlying ty = some d) (hd : d.isRow = true) (hi : (P.info? ty).map (·.size) = some cs.length) : (results fn tmps).run P w = .ok (.tuple #[.agg cs.toArray, u]) w := by
  have h1 := run_loadVar_mid (P := P) w b o ty cs d hc hu hd hi
  have hp' : tmps[p]?.getD undef = .pointer (some ⟨b, o, none⟩) := by simpa using hp
  have hq' : tmps[t]?.getD undef = u := by simpa using hq
  simp [results, h, hp', hq', h1, asAddr]
theorem build28z (W : World) : (Instr.build 28 #[]).run Try.prog W = .ok (.agg (encI zeroI).toArray) W := by kernel_rfl
theorem iread_any {w : World} {g B : Nat} {s : St} (h : RdrB w g s B) (hB : B ≤ w.heap.size) : Calls Try.prog 29 #[.pointer (some ⟨g, 0, none⟩)] w (IRdIs w g B s) := by
  obtain ⟨W0, hW0⟩ : ∃ W0, W0 = w.alloc (.cells (encI zeroI).toArray 28) := ⟨_, rfl⟩
  have hb0 : Below w.heap.size w W0 := by rw [hW0]; exact (Below.refl _ w).alloc (Nat.le_refl _) _
  have hr0 : W0.heap[w.heap.size]? = some (.cells (encI zeroI).toArray 28 (0, 0)) := by rw [hW0]; exact heap_alloc_new w _
  have hl0 : w.heap.size < W0.heap.size := (Array.getElem?_eq_some_iff.1 hr0).1
  have hgl := h.lt
  have HN := Lib.hid (inext_any (h.below hb0) (Nat.le_trans hB hb0.size))
  have HX : Hid (∀ w1, NxIs W0 g B s (.returned (.agg (encI (nextI s)).toArray)) w1 → NXI w g B w.heap.size w1.heap.size (nextS s) (encI (nextI s)) (w1.alloc (.cells (encI (nextI s)).toArray 28))) := Lib.hid (fun w1 h1 => by
    obtain ⟨_, hrd, hgr⟩ := h1
    have hba : Below w1.heap.size w1 (w1.alloc (.cells (encI (nextI s)).toArray 28)) := (Below.refl _ w1).alloc (Nat.le_refl _) _
    have hr1 : w1.heap[w.heap.size]? = some (.cells (encI zeroI).toArray 28 (0, 0)) := (hgr.block _ hl0 (by intro e; injection e with e; omega)).trans hr0
    have hl1 : w.heap.size < w1.heap.size := (Array.getElem?_eq_some_iff.1 hr1).1
    refine ⟨hrd.below hba, (hba.block _ hl1).trans hr1, heap_alloc_new w1 _, ?_, hgl, hB, Nat.le_refl _, by omega, by omega⟩
    exact grownBy_trans (grownBy_trans (grown_of_bel hb0 _) hgr) (grown_of_bel hba _))
  have HG : Hid (∀ (W : World) (q : Nat), NXI w g B w.heap.size q (nextS s) (encI (nextI s)) W → Calls Try.prog 14 #[.agg (encI (nextI s)).toArray] W fun e W' => e = .returned (.bool (goodI (nextI s))) ∧ NXI w g B w.heap.size q (nextS s) (encI (nextI s)) W' ∧ (loadVar 28 ⟨q, 0, none⟩).run Try.prog W' = .ok (.agg (encI (nextI s)).toArray) W') := Lib.hid (fun W q n => (igood_any (nextI s) (by have := nextI_tgt s; omega) W).mono (by
    rintro e W' ⟨rfl, hb⟩
    have n2 := n.bel hb
    exact ⟨rfl, n2, load28 (row_range n2.hq)⟩))
  have HL : Hid (∀ (W : World) (q : Nat), NXI w g B w.heap.size q (nextS s) (encI (nextI s)) W → (loadVar 28 ⟨q, 0, none⟩).run Try.prog W = .ok (.agg (encI (nextI s)).toArray) W) := Lib.hid (fun W q n => load28 (row_range n.hq))
  have HSP : Hid (∀ (W : World) (q : Nat), NXI w g B w.heap.size q (nextS s) (encI (nextI s)) W → Calls Try.prog 68 #[.pointer (some ⟨g, 0, none⟩)] W fun e W' => e = .returned (.tuple #[]) ∧ NXI w g B w.heap.size q ⟨[], true⟩ (encI (nextI s)) W') := Lib.hid (fun W q n => spoil_n n)
  have HW := Lib.hid hW0
  have HBU := Lib.hid (fun W => build28z W)
  have HSZ : Hid (∀ i : Ins, (Try.prog.info? 28).map (·.size) = some (encI i).length) := Lib.hid (fun i => by rw [encI_length]; exact size28i)
  unfold NxIs at HN
  change Hid (Calls Try.prog 67 #[.pointer (some ⟨g, 0, none⟩)] W0 fun e w' => NxIs W0 g B s e w') at HN
  have HN2 : Hid (Calls Try.prog 67 #[.pointer (some ⟨g, 0, none⟩)] W0 fun e w' => e = .returned (.agg (encI (nextI s)).toArray) ∧ NxIs W0 g B s (.returned (.agg (encI (nextI s)).toArray)) w') := Lib.hid (HN.out.mono (by
    rintro e w' hn
    obtain ⟨rfl, h1, h2⟩ := hn
    exact ⟨rfl, rfl, h1, h2⟩))
  clear HN hW0 h hb0 hr0 hl0 hgl
  cases hgd : goodI (nextI s)
  · have HE : Hid (∀ W', RdrB W' g ⟨[], true⟩ B → w.grownBy W' (some g) → IRdIs w g B s (.returned (.tuple #[.agg (encI zeroI).toArray, .bool false])) W') := Lib.hid (fun W' a b => by
      unfold IRdIs readI readS
      rw [if_neg (by rw [hgd]; simp), if_neg (by rw [hgd]; simp), hgd]
      exact ⟨rfl, a, b⟩)
    rw [hgd] at HG
    clear hgd
    generalize nextI s = NI at *
    obtain ⟨Y, hY⟩ : ∃ Y, Y = (encI NI).toArray := ⟨_, rfl⟩
    have HY := Lib.hid hY
    rw [← hY] at HX HG HL HN2
    clear hY
    go_enter Try.func29, Try.ntmps29
    go_wp2_with (first
      | (with_reducible refine wpList_alloc28 (o := ⟨some 2, _, _, _, _, _⟩) w.heap.size rfl rfl 2 rfl rfl ?_)
      | (go_at_call 67; rw [← HW.out]; (with_reducible refine HN2.out.mono ?_); rintro e w1 ⟨rfl, h1⟩)
      | (with_reducible refine wpList_alloc28 (o := ⟨some 4, _, _, _, _, _⟩) w1.heap.size rfl rfl 4 rfl rfl ?_)
      | ((with_reducible refine wpList_store28n (o := ⟨none, _, _, _, _, _⟩) rfl (.tmp 4) (.tmp 6) rfl w1.heap.size rfl zeroI NI ?_ ?_ ?_); rfl; (rw [← HY.out]; rfl); rw [← HY.out])
      | ((with_reducible refine wpList_loadV (op := ⟨some 7, _, _, _, _, _⟩) rfl 28 (.tmp 4) rfl ⟨w1.heap.size, 0, none⟩ ?_ _ (HL.out _ _ (HX.out _ h1)) ?_); rfl)
      | (go_at_call 14; (with_reducible refine (HG.out _ _ (HX.out _ h1)).mono ?_); rintro e w2 ⟨rfl, n2, hl2⟩)
      | (go_at_call 68; (with_reducible refine (HSP.out _ _ n2).mono ?_); rintro e w3 ⟨rfl, n3⟩)
      | ((with_reducible refine wpList_buildV (o := ⟨some 12, _, _, _, _, _⟩) rfl 28 #[] rfl #[] ?_ _ (HBU.out _) ?_); rfl)
      | ((with_reducible refine wpList_store28 (o := ⟨none, _, _, _, _, _⟩) rfl (.tmp 2) (.tmp 12) rfl w.heap.size zeroI ?_ ?_ (n3.fin zeroI).1 ?_); rfl; rfl))
    refine bodyPost_ret (v := .tuple #[.agg (encI zeroI).toArray, .bool false]) ?_ rfl ?_
    · exact results_cs (p := 2) (t := 3) (ty := 28) rfl _ _ w.heap.size 0 (encI zeroI) _ _ rfl rfl (n3.fin zeroI).2.1 Try.underlying28 rfl (HSZ.out _)
    · exact HE.out _ (n3.fin zeroI).2.2.1 (n3.fin zeroI).2.2.2
  · have HE : Hid (∀ W', RdrB W' g (nextS s) B → w.grownBy W' (some g) → IRdIs w g B s (.returned (.tuple #[.agg (encI (nextI s)).toArray, .bool true])) W') := Lib.hid (fun W' a b => by
      unfold IRdIs readI readS
      rw [if_pos hgd, if_pos hgd, hgd]
      exact ⟨rfl, a, b⟩)
    rw [hgd] at HG
    clear hgd
    generalize nextI s = NI at *
    obtain ⟨Y, hY⟩ : ∃ Y, Y = (encI NI).toArray := ⟨_, rfl⟩
    have HY := Lib.hid hY
    rw [← hY] at HX HG HL HN2
    clear hY
    go_enter Try.func29, Try.ntmps29
    go_wp2_with (first
      | (with_reducible refine wpList_alloc28 (o := ⟨some 2, _, _, _, _, _⟩) w.heap.size rfl rfl 2 rfl rfl ?_)
      | (go_at_call 67; rw [← HW.out]; (with_reducible refine HN2.out.mono ?_); rintro e w1 ⟨rfl, h1⟩)
      | (with_reducible refine wpList_alloc28 (o := ⟨some 4, _, _, _, _, _⟩) w1.heap.size rfl rfl 4 rfl rfl ?_)
      | ((with_reducible refine wpList_store28n (o := ⟨none, _, _, _, _, _⟩) rfl (.tmp 4) (.tmp 6) rfl w1.heap.size rfl zeroI NI ?_ ?_ ?_); rfl; (rw [← HY.out]; rfl); rw [← HY.out])
      | ((with_reducible refine wpList_loadV (op := ⟨some 7, _, _, _, _, _⟩) rfl 28 (.tmp 4) rfl ⟨w1.heap.size, 0, none⟩ ?_ _ (HL.out _ _ (HX.out _ h1)) ?_); rfl)
      | (go_at_call 14; (with_reducible refine (HG.out _ _ (HX.out _ h1)).mono ?_); rintro e w2 ⟨rfl, n2, hl2⟩)
      | ((with_reducible refine wpList_loadV (op := ⟨some 13, _, _, _, _, _⟩) rfl 28 (.tmp 4) rfl ⟨w1.heap.size, 0, none⟩ ?_ _ hl2 ?_); rfl)
      | ((with_reducible refine wpList_store28 (o := ⟨none, _, _, _, _, _⟩) rfl (.tmp 2) (.tmp 13) rfl w.heap.size NI ?_ ?_ (n2.fin NI).1 ?_); rfl; (rw [← HY.out]; rfl)))
    refine bodyPost_ret (v := .tuple #[.agg (encI NI).toArray, .bool true]) ?_ rfl ?_
    · exact results_cs (p := 2) (t := 3) (ty := 28) rfl _ _ w.heap.size 0 (encI NI) _ _ rfl rfl (n2.fin NI).2.1 Try.underlying28 rfl (HSZ.out _)
    · exact HE.out _ (n2.fin NI).2.2.1 (n2.fin NI).2.2.2
end Go.Proofs.Ytkceipkgebgigaa
end
section
namespace Go.Proofs
set_option maxRecDepth 100000
open Go.Shelf
def Try.iclone_ren : Go.Shelf.Ren := ⟨fun | 41 => 77 | n => n, fun | 22 => 56 | 23 => 28 | 4 => 4 | n => n, fun | n => n⟩
theorem Try.iclone : Go.Proofs.SlLaysE0.n41 Try.prog Try.iclone_ren := {
  mixed := by kernel_rfl
  f41 := ⟨Try.f77.name, by decide, Try.func77.trans (congrArg some (by kernel_rfl))⟩
  t4 := Try.underlying4
  a4 := Try.isAgg4
  z4 := Try.sizeOf4
  v4 := Try.zeroValue4
  t22 := Try.underlying56
  a22 := Try.isAgg56
  z22 := Try.sizeOf56
  v22 := Try.zeroValue56 }
end Go.Proofs
end
section
namespace Go.Proofs.Ytkceipkgebgigaa
open Go.Shelf Go.RowKit Go.Lib Go.Sort Go.Great
set_option maxRecDepth 100000
set_option maxHeartbeats 1000000
section
variable {α : Type} {enc : α → List Value} {k : Nat}
/-- Elements as cells. -/
def flatE (enc : α → List Value) (l : List α) : List Value := l.flatMap enc
theorem flatE_length (hk : ∀ x, (enc x).length = k) (l : List α) : (flatE enc l).length = l.length * k := by
  induction l with
  | nil => simp [flatE]
  | cons x l ih =>
    have e : flatE enc (x :: l) = enc x ++ flatE enc l := rfl
    rw [e, List.length_append, ih, hk, List.length_cons, Nat.add_mul, Nat.one_mul]
    omega
theorem flatE_get (hk : ∀ x, (enc x).length = k) (hk0 : 0 < k) : ∀ (l : List α) (j : Nat) (x : α) (c : Nat), l[j]? = some x → c < k → (flatE enc l)[j * k + c]? = (enc x)[c]? := by
  intro l
  induction l with
  | nil => intro j x c h; simp at h
  | cons y l ih =>
    intro j x c h hc
    cases j with
    | zero =>
      simp only [List.getElem?_cons_zero, Option.some.injEq] at h
      subst h
      unfold flatE
      rw [List.flatMap_cons, Nat.zero_mul, Nat.zero_add, List.getElem?_append_left (by rw [hk]; exact hc)]
    | succ j =>
      rw [List.getElem?_cons_succ] at h
      unfold flatE
      rw [List.flatMap_cons, List.getElem?_append_right (by rw [hk, Nat.add_mul, Nat.one_mul]; omega), hk, show (j + 1) * k + c - k = j * k + c by rw [Nat.add_mul, Nat.one_mul]; omega]
      exact ih j x c h hc
end
theorem rangeAt_below {w w' : World} {g o : Nat} {cs : List Value} (h : w.rangeAt g o cs) (hb : w'.heap[g]? = w.heap[g]?) : w'.rangeAt g o cs := fun j v hv => by
  rw [World.cell?_of_block (w := w) (w' := w') (a := ⟨g, o + j, none⟩) hb]
  exact h j v hv
/-- The address leads to the instances L, in a block below B. -/
def IAt (w : World) (B : Nat) (A : Option Addr) (L : List Ins) : Prop := L = [] ∨ ∃ g off, A = some ⟨g, off, none⟩ ∧ g < B ∧ w.rangeAt g off (flatE encI L)
theorem IAt.below {w w' : World} {B : Nat} {A : Option Addr} {L : List Ins} (h : IAt w B A L) (hb : Below B w w') : IAt w' B A L := by
  rcases h with h | ⟨g, off, e, hg, hr⟩
  · exact .inl h
  · exact .inr ⟨g, off, e, hg, rangeAt_below hr (hb.block g hg)⟩
theorem IAt.more {w : World} {B B' : Nat} {A : Option Addr} {L : List Ins} (h : IAt w B A L) (hB : B ≤ B') : IAt w B' A L := by
  rcases h with h | ⟨g, off, e, hg, hr⟩
  · exact .inl h
  · exact .inr ⟨g, off, e, by omega, hr⟩
theorem there_ownI {W : World} {base g n cap : Nat} {xs : List Value} (h : W.ownsRow base 28 28 (.slice (some ⟨g, 0, none⟩) n cap) n xs) : W.there g 0 (n * 28) := by
  rcases h.2 with ⟨e0, _⟩ | ⟨g', cap', cur, e0, hb, hg, hn, hm, hs, ht⟩
  · cases e0
  · injection e0 with e1 _ e3
    injection e1 with e1
    injection e1 with e1
    subst e1
    subst e3
    intro j hj
    have hc : j < cur.size := by
      rw [hs]
      exact Nat.lt_of_lt_of_le hj (Nat.mul_le_mul_right _ hn)
    refine ⟨?_, by simp [World.frozen?, hg]⟩
    rw [cell_of_row _ _ _ _ _ _ hg, Array.getElem?_eq_getElem (by omega)]
    rfl
/-- What a row of instances of its own is. -/
theorem own_formI {w : World} {base n : Nat} {v : Value} {L : List Ins} (h : w.ownsRow base 28 28 v n (flatE encI L)) : ∃ A c, v = .slice A n c ∧ n = L.length ∧ n ≤ c ∧ c ≤ maxLen ∧ ((A = none ∧ L = [] ∧ c = 0) ∨ ∃ g, A = some ⟨g, 0, none⟩ ∧ base ≤ g ∧ g < w.heap.size ∧ w.rangeAt g 0 (flatE encI L)) := by
  have hl := h.1
  rw [flatE_length encI_length] at hl
  have hn : n = L.length := by omega
  rcases h.2 with ⟨rfl, h0⟩ | ⟨g, cap, cur, rfl, hb, hg, hc, hm, hs, ht⟩
  · exact ⟨none, 0, by rw [h0], hn, by omega, by simp [maxLen], .inl ⟨rfl, List.eq_nil_of_length_eq_zero (by omega), rfl⟩⟩
  · refine ⟨some ⟨g, 0, none⟩, cap, rfl, hn, hc, hm, .inr ⟨g, rfl, hb, (Array.getElem?_eq_some_iff.1 hg).1, fun j u hu => ?_⟩⟩
    rw [Nat.zero_add, cell_of_row w g j _ 28 (0, 0) hg]
    rw [← ht, List.getElem?_take] at hu
    split at hu
    · simpa using hu
    · cases hu
theorem info28i : ∃ i0, Try.prog.info? 28 = some i0 ∧ i0.zero = some (.agg (encI default).toArray) ∧ i0.size = 28 ∧ i0.bytes = 72 := by
  have h : (Try.prog.info? 28).map (fun i => (i.zero, i.size, i.bytes)) = some (some (.agg (encI default).toArray), 28, 72) := by kernel_rfl
  cases hi : Try.prog.info? 28 with
  | none => rw [hi] at h; cases h
  | some i =>
    rw [hi] at h
    simp only [Option.map_some, Option.some.injEq, Prod.mk.injEq] at h
    exact ⟨i, rfl, h.1, h.2.1, h.2.2⟩
theorem flatE_one (L : List Ins) : ∀ u ∈ flatE encI L, u.oneCell' = true := by
  intro u hu
  obtain ⟨c, _, h⟩ := List.mem_flatMap.1 hu
  exact encI_one c u h
/-- Clone at whatever row of instances. -/
theorem iclone_any (A : Option Addr) (c : Nat) (L : List Ins) (w : World) (hL : L.length ≤ 10000) (hA : IAt w w.heap.size A L) (hA2 : A = none ∨ ∃ g off, A = some ⟨g, off, none⟩) :
    Calls Try.prog 77 #[.slice A L.length c] w fun e w' => ∃ v, e = .returned v ∧ w'.ownsRow w.heap.size 28 28 v L.length (flatE encI L) ∧ Below w.heap.size w w' := by
  rcases hA2 with rfl | ⟨g, off, rfl⟩
  · obtain rfl : L = [] := by
      rcases hA with e | ⟨g, off, e, _⟩
      · exact e
      · cases e
    refine (AnyE.slices_Clone_nil Try.iclone _ _ _).mono ?_
    rintro e w' ⟨rfl, rfl⟩
    exact ⟨_, rfl, ⟨by simp [flatE], .inl ⟨rfl, rfl⟩⟩, Below.refl _ _⟩
  · obtain ⟨i0, hi, hz0, hz1, hz2⟩ := info28i
    refine (AnyE.slices_Clone Try.iclone i0 _ 28 72 hi hz0 hz1 hz2 (by simp [Value.cells, encI_length]) (by omega) (fun w => by kernel_rfl) g off L.length c (flatE encI L) w (flatE_length encI_length L) (by simp only [maxLen]; omega) (by omega) (fun j u hu => ?_) (flatE_one L)).mono ?_
    · rcases hA with rfl | ⟨g', off', e, _, hr⟩
      · simp [flatE] at hu
      · injection e with e
        injection e with e1 e2
        subst e1 e2
        exact hr j u hu
    · rintro e w' ⟨v', rfl, ho, _, hb⟩
      exact ⟨v', rfl, ho, hb⟩
/-- t is a slice of e, an instance's type. -/
structure InsT (t e : TypeId) : Prop where
  und : Try.prog.underlying t = some (.slice e)
  inf : (Try.prog.info? e).map (fun i => (i.zero, i.size, i.bytes)) = some (some (.agg (encI default).toArray), 28, 72)
theorem InsT.info {t e : TypeId} (h : InsT t e) : ∃ i0, Try.prog.info? e = some i0 ∧ i0.zero = some (.agg (encI default).toArray) ∧ i0.size = 28 ∧ i0.bytes = 72 := by
  have h := h.inf
  cases hi : Try.prog.info? e with
  | none => rw [hi] at h; cases h
  | some i =>
    rw [hi] at h
    simp only [Option.map_some, Option.some.injEq, Prod.mk.injEq] at h
    exact ⟨i, rfl, h.1, h.2.1, h.2.2⟩
theorem insT : InsT 56 28 := ⟨Try.underlying56, by kernel_rfl⟩
theorem fold_setI (k : Nat) (l : List Value) (n : Nat) (A : Array Value) (h : n + l.length ≤ A.size) :
    ((l.zipIdx n).foldl (fun (cs : Array Value) (p : Value × Nat) => cs.setIfInBounds (0 * k + p.2) p.1) A).toList = A.toList.take n ++ l ++ A.toList.drop (n + l.length) := by
  induction l generalizing n A with
  | nil => simp
  | cons c l ih =>
    rw [List.zipIdx_cons, List.foldl_cons, ih]
    · simp only [Nat.zero_mul, Nat.zero_add, Array.toList_setIfInBounds, List.length_cons]
      simp only [List.length_cons] at h
      apply List.ext_getElem?
      intro j
      simp only [List.append_assoc]
      by_cases h1 : j < n
      · rw [List.getElem?_append_left (by simp; omega), List.getElem?_append_left (by simp; omega)]
        simp [List.getElem?_take, h1, show j < n + 1 by omega, List.getElem?_set, show n ≠ j by omega]
      · by_cases h2 : j = n
        · subst h2
          rw [List.getElem?_append_left (by simp; omega), List.getElem?_append_right (by simp; omega)]
          simp [List.getElem?_take, List.getElem?_set, show min j A.size = j by omega, show j < A.size by omega]
        · obtain ⟨q, rfl⟩ : ∃ q, j = n + 1 + q := ⟨j - (n + 1), by omega⟩
          have hm1 : min (n + 1) A.size = n + 1 := by omega
          have hm2 : min n A.size = n := by omega
          rw [List.getElem?_append_right (by rw [List.length_take, List.length_set, Array.length_toList, hm1]; omega), List.getElem?_append_right (l₁ := List.take n A.toList) (by rw [List.length_take, Array.length_toList, hm2]; omega)]
          simp only [List.length_take, List.length_set, Array.length_toList, hm1, hm2]
          rw [show n + 1 + q - (n + 1) = q by omega, show n + 1 + q - n = q + 1 by omega, List.cons_append, List.getElem?_cons_succ]
          by_cases h3 : q < l.length
          · rw [List.getElem?_append_left h3, List.getElem?_append_left h3]
          · rw [List.getElem?_append_right (by omega), List.getElem?_append_right (by omega), List.getElem?_drop, List.getElem?_drop, List.getElem?_set_ne (by omega)]
            congr 1
            omega
    · simp only [List.length_cons] at h
      simp only [Array.size_setIfInBounds]
      omega

/-- A new row of one instance. -/
theorem run_build_oneI {t e : TypeId} (hT : InsT t e) (x : Ins) (w : World) : (Instr.buildSlice t 1 #[(0, .agg (encI x).toArray)]).run Try.prog w = .ok (.slice (some ⟨w.heap.size, 0, none⟩) 1 1) (w.alloc (.cells (encI x).toArray e)) := by
  obtain ⟨i0, hi, hz0, hz1, hz2⟩ := hT.info
  obtain ⟨Z, hZ⟩ : ∃ Z, Z = (encI default).toArray := ⟨_, rfl⟩
  rw [← hZ] at hz0
  clear hZ
  have hf := fold_setI 28 (encI x) 0 ((Array.range 28).map (Z[· % Z.size]!)) (by rw [encI_length]; simp)
  have hl := encI_length x
  have hA : (List.foldl (fun (cs : Array Value) (p : Value × Nat) => cs.setIfInBounds (0 * 28 + p.2) p.1) ((Array.range 28).map (Z[· % Z.size]!)) (encI x).zipIdx) = (encI x).toArray := by
    apply Array.ext'
    rw [hf]
    simp only [List.take_zero, List.nil_append, Nat.zero_add, hl]
    rw [List.drop_eq_nil_of_le (by simp)]
    simp
  simp only [Nat.zero_mul, Nat.zero_add] at hA
  generalize encI x = cs at hA hl ⊢
  simp [Instr.buildSlice, run_underlying hT.und, sizeOf, typeInfo, zeroValue, hi, hz0, hz1, Value.cells, Instr.fill, hl, newRow]
  rw [hA]
/-- A new row of none. -/
theorem run_build_noneI {t e : TypeId} (hT : InsT t e) (w : World) : (Instr.buildSlice t 0 #[]).run Try.prog w = .ok (.slice (some ⟨w.heap.size, 0, none⟩) 0 0) (w.alloc (.cells #[] e)) := by
  obtain ⟨i0, hi, hz0, hz1, hz2⟩ := hT.info
  simp [Instr.buildSlice, run_underlying hT.und, sizeOf, typeInfo, hi, hz1, Instr.fill, newRow]
  congr 2
  exact Array.eq_empty_of_size_eq_zero (by simp)
theorem src_newI {t e : TypeId} (hT : InsT t e) (x : Ins) (w : World) : Src Try.prog 28 t (.slice (some ⟨w.heap.size, 0, none⟩) 1 1) 1 (flatE encI [x]) (w.alloc (.cells (encI x).toArray e)) := by
  refine Src.ofSlice _ hT.und _ 1 1 (flatE encI [x]) (by rw [flatE_length encI_length]; rfl) (fun j u hu => ?_) (flatE_one _)
  rw [Addr.add_mid]
  have e1 : flatE encI [x] = encI x := by unfold flatE; simp
  rw [e1] at hu
  exact row_range (heap_alloc_new w (.cells (encI x).toArray e)) j u hu
theorem wp_build_oneI {t e : TypeId} (hT : InsT t e) (x : Ins) {w : World} {o : Oper} {a : Act} {K : Act → World → Prop} {Q : Exit → Act → World → Prop} (y : Operand) (ho : o.op = .buildSlice t 1 #[(0, y)]) (hy : a.eval y = .agg (encI x).toArray)
    (h : K (a.put o.dst (.slice (some ⟨w.heap.size, 0, none⟩) 1 1)) (w.alloc (.cells (encI x).toArray e))) : o.wp Try.prog a w K Q := by
  unfold Oper.wp execOp
  simp only [ho, List.map_toArray, List.map_cons, List.map_nil, hy, Sem.run_bind, run_build_oneI hT, Result.andThen_ok, Sem.run_pure]
  exact h
theorem wpList_build_oneI {t e : TypeId} (hT : InsT t e) (x : Ins) {w : World} {ops : Array Oper} {rest : List Oper} {o : Oper} {a : Act} {Q : Exit → Act → World → Prop} (hgd : o.guard = none) (y : Operand) (ho : o.op = .buildSlice t 1 #[(0, y)]) (hy : a.eval y = .agg (encI x).toArray)
    (h : wpList Try.prog ops Q rest (a.put o.dst (.slice (some ⟨w.heap.size, 0, none⟩) 1 1)) (w.alloc (.cells (encI x).toArray e))) : wpList Try.prog ops Q (o :: rest) a w :=
  wpList_plain hgd fun _ hK => wp_build_oneI hT x y ho hy (hK _ _ h)
theorem wpList_append_ins {t e : TypeId} (hT : InsT t e) {w : World} {ops : Array Oper} {rest : List Oper} {o : Oper} {a : Act} {Q : Exit → Act → World → Prop} (hgd : o.guard = none) (s x : Operand)
    (ho : o.op = .call { callee := .builtin .append, args := #[s, x], argTypes := #[t, t] })
    (base : Nat) (v : Value) (L M : List Ins) (hs : a.eval s = v) (hown : w.ownsRow base e 28 v L.length (flatE encI L))
    (y : Value) (hx : a.eval x = y) (hr : Src Try.prog 28 t y M.length (flatE encI M) w) (h63 : L.length + M.length ≤ 1000000) (hbase : base ≤ w.heap.size)
    (h : ∀ v' w', w'.ownsRow base e 28 v' (L ++ M).length (flatE encI (L ++ M)) → w.grownBy w' v.ownBlock → wpList Try.prog ops Q rest (a.put o.dst v') w') : wpList Try.prog ops Q (o :: rest) a w :=
  wpList_plain hgd fun _ hK => by
    obtain ⟨i0, hi, hz0, hz1, hz2⟩ := hT.info
    obtain ⟨v', w', hrun, h2, h3, _⟩ := run_append_srcK w base t t o.type e i0 _ 28 72 hT.und hi hz0 hz1 hz2 (by simp [Value.cells, encI_length]) v L.length (flatE encI L) hown y M.length (flatE encI M) hr (by simp only [maxLen]; omega) (by omega) hbase
    unfold Oper.wp execOp
    simp only [ho, resolve, invoke, builtin, Sem.run_bind, Sem.run_pure, Result.andThen_ok, List.map_toArray, List.map_cons, List.map_nil, hs, hx, hrun]
    have e1 : flatE encI L ++ flatE encI M = flatE encI (L ++ M) := by unfold flatE; rw [List.flatMap_append]
    rw [e1, ← List.length_append] at h2
    exact hK _ _ (h v' w' h2 h3)
end Go.Proofs.Ytkceipkgebgigaa
end
