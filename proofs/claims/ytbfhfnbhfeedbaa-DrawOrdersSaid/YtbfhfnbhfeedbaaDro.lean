/- Order of the reference. Conditions: the bytes are at most 900,000. -/
import Derived.Test.YtbfhfnbhfeedbaaDsg
import Derived.Test.YtbfhfnbhfeedbaaPPPTakeh
namespace Go.Proofs.Ytbfhfnbhfeedbaa
set_option maxRecDepth 100000
set_option maxHeartbeats 1000000
open Go.RowKit Go.Lib Go.Great
theorem run_build_noneI (w : World) : (Instr.buildSlice 43 0 #[]).run Try.prog w = .ok (.slice (some ⟨w.heap.size, 0, none⟩) 0 0) (w.alloc (.cells #[] 3)) := by kernel_rfl
theorem step_noneI {ops : Array Oper} {o : Oper} {a : Act} {w : World} {K : Act → World → Prop} {Q : Exit → Act → World → Prop} {E : Prop} (hgd : o.guard = none) (d : Nat) (hd : o.dst = some d) (ho : o.op = .buildSlice 43 0 #[])
    (h : K (a.put (some d) (.slice (some ⟨w.heap.size, 0, none⟩) 0 0)) (w.alloc (.cells #[] 3))) : if Region.wanted o (yielded ops a.tmps) = true then Oper.wp Try.prog o a w K Q else E := by
  have hw : Region.wanted o (yielded ops a.tmps) = true := by simp [Region.wanted, hgd]
  rw [if_pos hw]
  unfold Oper.wp execOp
  simp only [ho, List.map_toArray, List.map_nil, Sem.run_bind, run_build_noneI, Result.andThen_ok, Sem.run_pure]
  show K (a.put o.dst _) _
  rw [hd]
  exact h
theorem step_appI {ops : Array Oper} {o : Oper} {a : Act} {w : World} {K : Act → World → Prop} {Q : Exit → Act → World → Prop} {E : Prop} (hgd : o.guard = none) (d : Nat) (hd : o.dst = some d) (s x : Operand)
    (ho : o.op = .call { callee := .builtin .append, args := #[s, x], argTypes := #[43, 43] })
    (base : Nat) (v : Value) (L : List Nat) (hs : a.eval s = v) (hown : w.ownsRow base 3 1 v L.length (intsL L)) (y : Value) (M : List Nat) (hx : a.eval x = y) (hr : Src Try.prog 1 43 y M.length (intsL M) w) (h63 : L.length + M.length ≤ 100000) (hbase : base ≤ w.heap.size)
    (h : ∀ v' w', w'.ownsRow base 3 1 v' (L ++ M).length (intsL (L ++ M)) → w.grownBy w' v.ownBlock → K (a.put (some d) v') w') :
    if Region.wanted o (yielded ops a.tmps) = true then Oper.wp Try.prog o a w K Q else E := by
  have hw : Region.wanted o (yielded ops a.tmps) = true := by simp [Region.wanted, hgd]
  rw [if_pos hw]
  obtain ⟨i0, hi, hz0, hz1, hz2⟩ := info3
  obtain ⟨v', w', hrun, h2, h3, _⟩ := run_append_srcK w base 43 43 o.type 3 i0 _ 1 8 undInts hi hz0 hz1 hz2 rfl v L.length (intsL L) hown y M.length (intsL M) hr (by simp only [maxLen]; omega) (by omega) hbase
  unfold Oper.wp execOp
  simp only [ho, resolve, invoke, builtin, Sem.run_bind, Sem.run_pure, Result.andThen_ok, List.map_toArray, List.map_cons, List.map_nil, hs, hx, hrun]
  show K (a.put o.dst _) _
  rw [hd]
  refine h v' w' ?_ h3
  rw [List.length_append, intsL_append]
  exact h2
theorem own_belI {base : Nat} {L : List Nat} {n : Nat} {v : Value} {W0 w w' : World} (h : w.ownsRow base 3 1 v n (intsL L)) (hb : Below base W0 w) (hbase : base ≤ w.heap.size) (hg : w.grownBy w' v.ownBlock) : Below base W0 w' :=
  hb.grown hg hbase (fun k hk => (World.ownsRow.lt h k hk).1)
/-- A part of a row of numbers, as a source. -/
theorem src_partI {W : World} {g o n c : Nat} {M : List Nat} (hn : M.length = n) (h : ∀ j (hj : j < M.length), W.cell? ⟨g, o + j, none⟩ = some (.int .i64 (M[j] : Int))) : Src Try.prog 1 43 (.slice (some ⟨g, o, none⟩) n c) M.length (intsL M) W := by
  subst hn
  refine Src.ofSlice _ undInts _ M.length c (intsL M) (by simp [intsL]) (fun j u hu => ?_) (intsL_one _)
  have hj : j < M.length := by have := (List.getElem?_eq_some_iff.1 hu).1; rwa [intsL_length] at this
  rw [intsL_get M j hj] at hu
  injection hu with hu
  subst hu
  rw [Addr.add_mid]
  exact h j hj
theorem src_zeroI (A : Option Addr) (c : Nat) (W : World) : Src Try.prog 1 43 (.slice A 0 c) ([] : List Nat).length (intsL []) W := by
  cases A with
  | none => exact Src.ofNil W undInts c
  | some a => exact Src.ofSlice W undInts a 0 c (intsL []) (by simp [intsL]) (fun j u hu => by simp [intsL] at hu) (intsL_one [])
section
variable {w w' w2 : World} {h : Nat} {A : Option Addr} {c : Nat} {xs r : List UInt8}
def SoIs (w : World) (h : Nat) (A : Option Addr) (c : Nat) (xs r : List UInt8) (n : Int) (e : Ending) (w' : World) : Prop :=
  ∃ v, e = .returned v ∧ w'.ownsRow w.heap.size 3 1 v (ordOf n r).1.length (intsL (ordOf n r).1) ∧ RS w' h A c xs (ordOf n r).2 ∧ w.grownBy w' (some h)
def SfRel (w : World) (N : Nat) (v i : Value) (w' : World) : Prop :=
  ∃ j : Nat, j ≤ N ∧ i = .int .i64 (j : Int) ∧ w'.ownsRow w.heap.size 3 1 v (List.range j).length (intsL (List.range j)) ∧ Below w.heap.size w w'
def SoRel (w : World) (h : Nat) (A : Option Addr) (c : Nat) (xs r : List UInt8) (N : Nat) (v5 v7 : Value) (w' : World) : Prop :=
  ∃ (l out : List Nat) (r' : List UInt8), w'.ownsRow w.heap.size 3 1 v5 l.length (intsL l) ∧ w'.ownsRow w.heap.size 3 1 v7 out.length (intsL out) ∧ (∀ k, v5.ownBlock = some k → v7.ownBlock ≠ some k) ∧ l.length + out.length = N ∧ RS w' h A c xs r' ∧ ordG N (List.range N) r = (out ++ (ordG l.length l r').1, (ordG l.length l r').2) ∧ w.grownBy w' (some h)
theorem sorder_no (s : RS w h A c xs r) (n : Int) (hn : ¬ (1 ≤ n ∧ n ≤ 1024)) : Calls Try.prog 27 #[.pointer (some ⟨h, 0, none⟩), .int .i64 n] w (SoIs w h A c xs r n) := by
  have e1 : ordOf n r = ([], r) := by unfold ordOf; rw [if_neg hn]
  have HF : Hid (SoIs w h A c xs r n (.returned (.slice none 0 0)) w) := Lib.hid ⟨_, rfl, by rw [e1]; exact World.ownsRow_nil w _ 3 1, by rw [e1]; exact s, World.grownBy.refl _ _⟩
  clear s e1
  by_cases h1 : n < 1
  · go_enter Try.func27, Try.ntmps27
    go_wp2
    go_ret
    exact HF.out
  · have h2 : 1024 < n := by omega
    go_enter Try.func27, Try.ntmps27
    go_wp2
    go_ret
    exact HF.out
theorem sorder_yes (s : RS w h A c xs r) (N : Nat) (h1 : 1 ≤ N) (h2 : N ≤ 1024) : Calls Try.prog 27 #[.pointer (some ⟨h, 0, none⟩), .int .i64 (N : Int)] w (SoIs w h A c xs r (N : Int)) := by
  have e1 : ordOf (N : Int) r = ordG N (List.range N) r := by unfold ordOf; rw [if_pos (by omega), Int.toNat_natCast]
  have hlt := s.lt
  have R0 : Hid (SfRel w N (.slice none 0 0) (.int .i64 0) w) := Lib.hid ⟨0, by omega, rfl, World.ownsRow_nil w _ 3 1, Below.refl _ _⟩
  have HLT := Lib.hid hlt
  have HE := Lib.hid e1
  have HS := Lib.hid s
  have q1 : ¬ (N : Int) < 1 := by omega
  have q2 : ¬ (1024 : Int) < (N : Int) := by omega
  clear s hlt e1
  go_enter Try.func27, Try.ntmps27
  go_upto_region 5 with fail
  go_loopw [5, 6] (SfRel w N) (fun _ i _ => N - (RowKit.intOf i).toNat)
  case atStart => exact R0.out
  case round =>
    obtain ⟨j, hj, rfl, hown, hb⟩ := hrel
    clear R0
    have HOW := Lib.hid hown
    have HB := Lib.hid hb
    by_cases hlt : j < N
    · have hlt' : (j : Int) < (N : Int) := by omega
      have HL : Hid ((List.range j).length + [j].length ≤ 100000) := Lib.hid (by simp; omega)
      have HAL : Hid ((wr.alloc (.cells #[.int .i64 (j : Int)] 3)).ownsRow w.heap.size 3 1 u5 (List.range j).length (intsL (List.range j))) := Lib.hid (hown.alloc _)
      have HBA : Hid (Below w.heap.size w (wr.alloc (.cells #[.int .i64 (j : Int)] 3))) := Lib.hid (hb.alloc hb.size _)
      have HR2 : Hid (∀ v w', w'.ownsRow w.heap.size 3 1 v (List.range j ++ [j]).length (intsL (List.range j ++ [j])) → (wr.alloc (.cells #[.int .i64 (j : Int)] 3)).grownBy w' u5.ownBlock → SfRel w N v (.int .i64 ((j : Int) + 1)) w') := Lib.hid (fun v w' o g => ⟨j + 1, by omega, by go_num, by rw [List.range_succ]; exact o, own_belI HAL.out HBA.out HBA.out.size g⟩)
      clear hown hb
      go_upto_region 6 with (refine wpList_append_ints rfl (.tmp 20) (.tmp 22) rfl w.heap.size u5 (List.range j) rfl HAL.out _ [j] rfl (src_int j _) HL.out HBA.out.size ?_; intro v3 w3 ho3 hg3)
      have HR3 := Lib.hid (HR2.out v3 w3 ho3 hg3)
      clear HR2 HAL HBA ho3 hg3 HOW HB
      go_wp2
      go_roundw
      case rel => exact HR3.out
      case measure => simp [RowKit.intOf]; omega
    · obtain rfl : j = N := by omega
      have hrs := HS.out.below hb (Nat.le_refl _)
      have R1 : Hid (SoRel w h A c xs r j u5 (.slice none 0 0) wr) := Lib.hid ⟨List.range j, [], r, hown, World.ownsRow_nil wr _ 3 1, (fun k _ e => by cases e), (by simp), hrs, by rw [List.length_range, List.nil_append], grown_of_bel hb _⟩
      clear hown hb HOW HB hrs
      go_upto_region 9 with fail
      go_loopw [5, 7] (SoRel w h A c xs r j) (fun v5 _ _ => lenV v5)
      case atStart => exact R1.out
      case round =>
        obtain ⟨l, out, r', hown5, hown7, hdis, hlo, hs, hord, hg⟩ := hrel
        clear R1 q1 q2 h1
        by_cases h0 : 0 < l.length
        · have h0' : (0 : Int) < (l.length : Int) := by omega
          have hat : (numL l.length r').1 < l.length := by
            have := numL_lt (n := (l.length : Int)) (by omega) r'
            omega
          obtain ⟨a, ha⟩ : ∃ a, a = (numL l.length r').1 := ⟨_, rfl⟩
          obtain ⟨r2, hr2⟩ : ∃ r2, r2 = (numL l.length r').2 := ⟨_, rfl⟩
          have hstep := ordG_step l r' h0
          rw [← ha, ← hr2] at hstep
          rw [← ha] at hat
          have hx : l.getD a 0 = l[a] := by rw [List.getD_eq_getElem?_getD, List.getElem?_eq_getElem hat]; rfl
          obtain ⟨g5, c5, hu5, hc5, hg5, hcap5⟩ : ∃ g5 c5, u5 = .slice (some ⟨g5, 0, none⟩) l.length c5 ∧ (∀ j (hj : j < l.length), wr.cell? ⟨g5, j, none⟩ = some (.int .i64 (l[j] : Int))) ∧ w.heap.size ≤ g5 ∧ l.length ≤ c5 := by
            rcases hown5.2 with ⟨_, e0⟩ | ⟨g, cap, cur, e0, hb0, hg0, hc0, _⟩
            · omega
            · refine ⟨g, cap, e0, fun j hj => ?_, hb0, by simpa using hc0⟩
              have := hown5.cells (g := g) (by rw [e0]; rfl) j (.int .i64 (l[j] : Int)) (intsL_get l j hj)
              rwa [Addr.add_mid, Nat.zero_add] at this
          have hne5 : ∀ k, u7.ownBlock = some k → k ≠ g5 := fun k hk e => by subst e; exact hdis k (by rw [hu5]; rfl) hk
          have hgl : g5 < wr.heap.size := (hown5.lt g5 (by rw [hu5]; rfl)).2
          have hCELL : ∀ w2, wr.grownBy w2 (some h) → ∀ j (hj : j < l.length), w2.cell? ⟨g5, j, none⟩ = some (.int .i64 (l[j] : Int)) := fun w2 hg2 j hj => by
            have hl2 := HLT.out
            rw [World.cell?_of_block (w := wr) (w' := w2) (a := ⟨g5, j, none⟩) (hg2.block g5 hgl (by intro e; injection e with e; omega))]
            exact hc5 j hj
          have HB : Hid (Calls Try.prog 15 #[.pointer (some ⟨h, 0, none⟩), .int .i64 (l.length : Int)] wr fun e w2 => e = .returned (.int .i64 (a : Int)) ∧ (∀ j (hj : j < l.length), w2.cell? ⟨g5, j, none⟩ = some (.int .i64 (l[j] : Int))) ∧ (w2.alloc (.cells #[.int .i64 (l[a] : Int)] 3)).ownsRow w.heap.size 3 1 u7 out.length (intsL out) ∧ RS w2 h A c xs r2 ∧ w.grownBy w2 (some h) ∧ g5 < w2.heap.size) := by
            refine Lib.hid ((snum_any hs (l.length : Int) (by omega)).mono ?_)
            rintro e w2 ⟨rfl, hs2, hg2⟩
            refine ⟨by rw [ha], hCELL w2 hg2, ?_, by rw [hr2]; exact hs2, grownBy_trans hg hg2, Nat.lt_of_lt_of_le hgl hg2.size⟩
            refine (hown7.kept hg2 ?_).alloc _
            cases hob : u7.ownBlock with
            | none => exact .inl rfl
            | some k =>
              refine .inr ?_
              intro e
              have k1 := (hown7.lt k hob).1
              have hl2 := HLT.out
              have e' : some k = some h := by first | exact e | exact e.symm
              injection e' with e'
              omega
          have HOW := Lib.hid hown7
          have HL : Hid (out.length + [l[a]].length ≤ 100000) := Lib.hid (by simp; omega)
          have HBASE : Hid (∀ w2, w.grownBy w2 (some h) → w.heap.size ≤ (w2.alloc (.cells #[.int .i64 (l[a] : Int)] 3)).heap.size) := Lib.hid (fun w2 g => by have := g.size; simp; omega)
          have HCAR : Hid (∀ (v3 : Value) w2 w3, (∀ j (hj : j < l.length), w2.cell? ⟨g5, j, none⟩ = some (.int .i64 (l[j] : Int))) → RS w2 h A c xs r2 → w.grownBy w2 (some h) → g5 < w2.heap.size → (w2.alloc (.cells #[.int .i64 (l[a] : Int)] 3)).grownBy w3 u7.ownBlock →
              (∀ j (hj : j < l.length), w3.cell? ⟨g5, j, none⟩ = some (.int .i64 (l[j] : Int))) ∧ RS w3 h A c xs r2 ∧ w.grownBy w3 (some h) ∧ g5 < w3.heap.size) := by
            refine Lib.hid (fun v3 w2 w3 i2 s2 g2 z2 g3 => ?_)
            have hob : ∀ k, u7.ownBlock = some k → w.heap.size ≤ k := fun k hk => (HOW.out.lt k hk).1
            have gA : w2.grownBy (w2.alloc (.cells #[.int .i64 (l[a] : Int)] 3)) (some h) := grown_of_bel ((Below.refl _ w2).alloc (Nat.le_refl _) _) _
            have hl2 := HLT.out
            have hblk : ∀ i, i < w2.heap.size → u7.ownBlock ≠ some i → w3.heap[i]? = w2.heap[i]? := fun i hi hn => (g3.block i (by simp; omega) (by intro e; exact hn (by first | exact e | exact e.symm))).trans (((Below.refl w2.heap.size w2).alloc (Nat.le_refl _) _).block i hi)
            have g13 : w.grownBy w3 (some h) := grown_own (grownBy_trans g2 gA) g3 hob
            refine ⟨fun j hj => ?_, s2.carry HS.out (hblk h (Nat.lt_of_lt_of_le hl2 g2.size) (by intro e; have := hob h e; omega)) g13, g13, by have := g3.size; simp at this; omega⟩
            rw [World.cell?_of_block (w := w2) (w' := w3) (a := ⟨g5, j, none⟩) (hblk g5 z2 (by intro e; exact hne5 g5 e rfl))]
            exact i2 j hj
          have HFIN : Hid (∀ v3 w3 v w4, RS w3 h A c xs r2 → w.grownBy w3 (some h) → w3.ownsRow w.heap.size 3 1 v3 (out ++ [l[a]]).length (intsL (out ++ [l[a]])) → Below w3.heap.size w3 w4 → w4.ownsRow w3.heap.size 3 1 v (l.take a ++ l.drop (a + 1)).length (intsL (l.take a ++ l.drop (a + 1))) → SoRel w h A c xs r j v v3 w4) := by
            refine Lib.hid (fun v3 w3 v w4 s3 g3 o3 b4 o4 => ?_)
            rw [← List.eraseIdx_eq_take_drop_succ] at o4
            refine ⟨l.eraseIdx a, out ++ [l[a]], r2, ownsRow_base o4 g3.size, o3.kept (grown_of_bel b4 none) (by cases v3.ownBlock <;> simp), ?_, ?_, s3.below b4 (Nat.le_refl _), ?_, grownBy_trans g3 (grown_of_bel b4 _)⟩
            · intro k hk e
              have k1 := (o4.lt k hk).1
              have k2 := (o3.lt k e).2
              omega
            · rw [List.length_eraseIdx_of_lt hat, List.length_append]; simp; omega
            · rw [hord, hstep, hx, List.append_assoc]
              rfl
          have HMEAS : Hid (∀ (W : World) (b n : Nat) v, W.ownsRow b 3 1 v n (intsL (l.take a ++ l.drop (a + 1))) → lenV v < l.length) := Lib.hid (fun W b n v o => by
            obtain ⟨A', c', rfl⟩ := own_slice o
            have := o.1
            rw [intsL_length, ← List.eraseIdx_eq_take_drop_succ, List.length_eraseIdx_of_lt hat] at this
            simp [lenV]
            omega)
          have HT1 : Hid ((l.take a).length = a ∧ (l.drop (a + 1)).length = l.length - (a + 1) ∧ ([] : List Nat).length + (l.take a).length ≤ 100000 ∧ ([] ++ l.take a).length + (l.drop (a + 1)).length ≤ 100000) := Lib.hid (by simp; omega)
          have HT2 : Hid (∀ W : World, (∀ j (hj : j < l.length), W.cell? ⟨g5, j, none⟩ = some (.int .i64 (l[j] : Int))) → (∀ j (hj : j < (l.take a).length), W.cell? ⟨g5, 0 + j, none⟩ = some (.int .i64 ((l.take a)[j] : Int))) ∧ (∀ j (hj : j < (l.drop (a + 1)).length), W.cell? ⟨g5, a + 1 + j, none⟩ = some (.int .i64 ((l.drop (a + 1))[j] : Int)))) := Lib.hid (fun W i => ⟨fun j hj => by rw [List.getElem_take, Nat.zero_add]; exact i j (by rw [List.length_take] at hj; omega), fun j hj => by rw [List.getElem_drop]; exact i (a + 1 + j) (by rw [List.length_drop] at hj; omega)⟩)
          have HCA : Hid (∀ W : World, (∀ j (hj : j < l.length), W.cell? ⟨g5, j, none⟩ = some (.int .i64 (l[j] : Int))) → W.cell? ⟨g5, a, none⟩ = some (.int .i64 (l[a] : Int))) := Lib.hid (fun W i => i a hat)
          have hai : (a : Int) < (l.length : Int) := by omega
          have hll : l.length ≤ 1024 := by omega
          have HE1 : Hid (l.length = a + 1 → l.drop (a + 1) = []) := Lib.hid (fun e => List.drop_of_length_le (by omega))
          subst hu5
          clear hs hg hown5 hown7 hord hstep hx hlo ha hr2 hdis hc5 hne5 hgl hCELL
          obtain ⟨CL, hCL⟩ : ∃ CL : World → Prop, CL = fun W => ∀ j (hj : j < l.length), W.cell? ⟨g5, j, none⟩ = some (.int .i64 (l[j] : Int)) := ⟨_, rfl⟩
          replace HB : Hid (Calls Try.prog 15 #[.pointer (some ⟨h, 0, none⟩), .int .i64 (l.length : Int)] wr fun e w2 => e = .returned (.int .i64 (a : Int)) ∧ CL w2 ∧ (w2.alloc (.cells #[.int .i64 (l[a] : Int)] 3)).ownsRow w.heap.size 3 1 u7 out.length (intsL out) ∧ RS w2 h A c xs r2 ∧ w.grownBy w2 (some h) ∧ g5 < w2.heap.size) := by rw [hCL]; exact HB
          replace HCAR : Hid (∀ (v3 : Value) w2 w3, CL w2 → RS w2 h A c xs r2 → w.grownBy w2 (some h) → g5 < w2.heap.size → (w2.alloc (.cells #[.int .i64 (l[a] : Int)] 3)).grownBy w3 u7.ownBlock → CL w3 ∧ RS w3 h A c xs r2 ∧ w.grownBy w3 (some h) ∧ g5 < w3.heap.size) := by rw [hCL]; exact HCAR
          replace HCA : Hid (∀ W : World, CL W → W.cell? ⟨g5, a, none⟩ = some (.int .i64 (l[a] : Int))) := by rw [hCL]; exact HCA
          replace HT2 : Hid (∀ W : World, CL W → (∀ j (hj : j < (l.take a).length), W.cell? ⟨g5, 0 + j, none⟩ = some (.int .i64 ((l.take a)[j] : Int))) ∧ (∀ j (hj : j < (l.drop (a + 1)).length), W.cell? ⟨g5, a + 1 + j, none⟩ = some (.int .i64 ((l.drop (a + 1))[j] : Int)))) := by rw [hCL]; exact HT2
          have HCB : Hid (∀ w3 W, g5 < w3.heap.size → Below w3.heap.size w3 W → CL w3 → CL W) := Lib.hid (fun w3 W g b i => by
            rw [hCL] at i ⊢
            exact fun j hj => by rw [World.cell?_of_block (w := w3) (w' := W) (a := ⟨g5, j, none⟩) (b.block g5 g)]; exact i j hj)
          clear hCL
          generalize l[a] = x at *
          obtain ⟨T1, hT1⟩ : ∃ T1, T1 = l.take a := ⟨_, rfl⟩
          obtain ⟨T2, hT2⟩ : ∃ T2, T2 = l.drop (a + 1) := ⟨_, rfl⟩
          rw [← hT1, ← hT2] at HT1 HT2 HFIN HMEAS
          rw [← hT2] at HE1
          clear hT1 hT2
          clear hat
          generalize l.length = k at *
          have hwr : IntKind.i64.wrap ((a : Int) + 1) = (a : Int) + 1 := by simp [IntKind.wrap, IntKind.bits, IntKind.signed]; omega
          go_upto_region 11 with (go_at_call 15; (with_reducible refine HB.out.mono ?_); rintro e w2 ⟨rfl, hi2, ho2, hs2, hg2, hz2⟩)
          have hca := HCA.out w2 hi2
          have HB2 := Lib.hid (HBASE.out w2 hg2)
          go_upto_region 12 with (refine wpList_append_ints rfl (.tmp 31) (.tmp 36) rfl w.heap.size u7 out rfl ho2 _ [x] rfl (src_int x _) HL.out HB2.out ?_; intro v3 w3 ho3 hg3)
          obtain ⟨i3, s3, g3, z3⟩ := HCAR.out v3 w2 w3 hi2 hs2 hg2 hz2 hg3
          have HI3 := Lib.hid i3
          have HZ3 := Lib.hid z3
          have HF3 : Hid (∀ v w4, Below w3.heap.size w3 w4 → w4.ownsRow w3.heap.size 3 1 v (T1 ++ T2).length (intsL (T1 ++ T2)) → SoRel w h A c xs r j v v3 w4) := Lib.hid (fun v w4 => HFIN.out v3 w3 v w4 s3 g3 ho3)
          have HSa : Hid (Below w3.heap.size w3 w3.drew) := Lib.hid (Below.refl _ _).drew
          clear HB HOW HL HBASE HCAR HFIN HCA hca HB2 hi2 ho2 hs2 hg2 hz2 ho3 hg3 i3 s3 g3 z3
          have HS1 : Hid (∀ W, Below w3.heap.size w3 W → Src Try.prog 1 43 (.slice (some ⟨g5, 0, none⟩) a c5) T1.length (intsL T1) W) := Lib.hid (fun W b => src_partI HT1.out.1 (HT2.out W (HCB.out w3 W HZ3.out b HI3.out)).1)
          have hak : a + 1 ≤ k := by omega
          by_cases hcap : c5 = a + 1
          · obtain rfl : k = a + 1 := by omega
            subst hcap
            have hT0 := HE1.out rfl
            subst hT0
            have HS2 : Hid (∀ W, Below w3.heap.size w3 W → ∀ A c, Src Try.prog 1 43 (.slice A 0 c) ([] : List Nat).length (intsL []) W) := Lib.hid (fun W _ A c => src_zeroI A c W)
            refine wp_region_noPanic ?_
            refine wp_region_held_drew (S := fun w' => Below w3.heap.size w3 w') (by kernel_rfl) HSa.out (fun hHeld => ?_)
            refine takeH_at 1 39 (v := ?_) rfl rfl (by kernel_rfl) (by kernel_rfl) (by kernel_rfl) (fun _ _ _ h => h) (Or.inl ⟨by rfl, ?_⟩) (by assumption) ?_
            rotate_left
            · (intro wx hSw; clear hSw; go_simp) <;> with_reducible rfl
            simp only [Act.put, List.setIfInBounds_toArray, List.set_cons_zero, List.set_cons_succ]
            refine takeH_at 2 40 (v := ?_) rfl rfl (by kernel_rfl) (by kernel_rfl) (by kernel_rfl) (fun _ _ _ h => h) (Or.inl ⟨by rfl, ?_⟩) (by assumption) ?_
            rotate_left
            · (intro wx hSw; clear hSw; go_simp) <;> with_reducible rfl
            simp only [Act.put, List.setIfInBounds_toArray, List.set_cons_zero, List.set_cons_succ]
            refine takeH_at 3 41 (v := .slice (some ⟨g5, 0, none⟩) a (a + 1)) rfl rfl (by kernel_rfl) (by kernel_rfl) (by kernel_rfl) (fun _ _ _ h => h) (Or.inl ⟨by rfl, ?_⟩) (by assumption) ?_
            · (intro wx hSw; clear hSw; go_simp) <;> (first | done | (intro hc; exfalso; omega) | (intro hc; omega) | omega)
            simp only [Act.put, List.setIfInBounds_toArray, List.set_cons_zero, List.set_cons_succ]
            refine takeH_at 5 43 (v := ?_) rfl rfl (by kernel_rfl) (by kernel_rfl) (by kernel_rfl) (fun _ _ _ h => h) (Or.inl ⟨by rfl, ?_⟩) (by assumption) ?_
            rotate_left
            · (intro wx hSw; clear hSw; go_simp) <;> with_reducible rfl
            simp only [Act.put, List.setIfInBounds_toArray, List.set_cons_zero, List.set_cons_succ]
            refine takeH_at 6 44 (v := ?_) rfl rfl (by kernel_rfl) (by kernel_rfl) (by kernel_rfl) (fun _ _ _ h => h) (Or.inl ⟨by rfl, ?_⟩) (by assumption) ?_
            rotate_left
            · (intro wx hSw; clear hSw; go_simp) <;> with_reducible rfl
            simp only [Act.put, List.setIfInBounds_toArray, List.set_cons_zero, List.set_cons_succ]
            refine takeH_at 7 45 (v := .int .i64 ((a : Int) + 1)) rfl rfl (by kernel_rfl) (by kernel_rfl) (by kernel_rfl) (fun _ _ _ h => h) (Or.inl ⟨by rfl, ?_⟩) (by assumption) ?_
            · (intro wx hSw; clear hSw; go_simp) <;> (first | done | rw [hwr])
            simp only [Act.put, List.setIfInBounds_toArray, List.set_cons_zero, List.set_cons_succ]
            refine takeH_at 8 46 (v := .slice (some ⟨g5, 0, none⟩) 0 0) rfl rfl (by kernel_rfl) (by kernel_rfl) (by kernel_rfl) (fun _ _ _ h => h) (Or.inl ⟨by rfl, ?_⟩) (by assumption) ?_
            · (intro wx hSw; clear hSw; go_simp) <;> (first | done | (intro hc; exfalso; omega) | (intro hc; omega) | omega)
            simp only [Act.put, List.setIfInBounds_toArray, List.set_cons_zero, List.set_cons_succ]
            refine wpAnyH_ready (rs := [0]) (by kernel_rfl) (by simp) (AllReadyH.cons rfl (fun K hK => ?_) AllReadyH.nil)
            refine step_noneI rfl 38 rfl rfl ?_
            have hb4 : Below w3.heap.size w3 (w3.drew.alloc (.cells #[] 3)) := HSa.out.alloc HSa.out.size _
            have HO4 : Hid ((w3.drew.alloc (.cells #[] 3)).ownsRow w3.heap.size 3 1 (.slice (some ⟨w3.drew.heap.size, 0, none⟩) 0 0) ([] : List Nat).length (intsL [])) := Lib.hid ⟨by simp [intsL], .inr ⟨w3.heap.size, 0, #[], rfl, Nat.le_refl _, heap_alloc_new w3.drew (.cells #[] 3), Nat.le_refl _, by simp [maxLen], rfl, rfl⟩⟩
            refine hK.out _ _ hb4 (fun _ => ?_)
            clear hK K
            simp only [Act.put, List.setIfInBounds_toArray, List.set_cons_zero, List.set_cons_succ]
            refine wpAnyH_ready (rs := [4]) (by kernel_rfl) (by simp) (AllReadyH.cons rfl (fun K hK => ?_) AllReadyH.nil)
            refine step_appI rfl 42 rfl (.tmp 38) (.tmp 41) rfl w3.heap.size _ [] rfl HO4.out _ T1 rfl (HS1.out _ hb4) HT1.out.2.2.1 hb4.size ?_
            intro v5 w5 ho5 hg5'
            have hb5 := own_belI HO4.out hb4 hb4.size hg5'
            refine hK.out _ _ hb5 (fun _ => ?_)
            clear hK K
            simp only [Act.put, List.setIfInBounds_toArray, List.set_cons_zero, List.set_cons_succ]
            refine wpAnyH_ready (rs := [9]) (by kernel_rfl) (by simp) (AllReadyH.cons rfl (fun K hK => ?_) AllReadyH.nil)
            refine step_appI rfl 47 rfl (.tmp 42) (.tmp 46) rfl w3.heap.size v5 ([] ++ T1) rfl ho5 _ [] rfl (HS2.out _ hb5 _ _) HT1.out.2.2.2 hb5.size ?_
            intro v6 w6 ho6 hg6
            have hb6 := own_belI ho5 hb5 hb5.size hg6
            refine hK.out _ _ hb6 (fun _ => ?_)
            clear hK K
            simp only [Act.put, List.setIfInBounds_toArray, List.set_cons_zero, List.set_cons_succ]
            refine takeH_at 10 5 (v := ?_) rfl rfl (by kernel_rfl) (by kernel_rfl) (by kernel_rfl) (fun _ _ _ h => h) (Or.inl ⟨by rfl, ?_⟩) (by assumption) ?_
            rotate_left
            · (intro wx hSw; clear hSw; go_simp) <;> with_reducible rfl
            simp only [Act.put, List.setIfInBounds_toArray, List.set_cons_zero, List.set_cons_succ]
            refine wpAnyH_done (by kernel_rfl) ?_ _
            refine NoPanic.normal ?_
            rw [List.nil_append] at ho6
            have HR6 := Lib.hid (HF3.out v6 w6 hb6 ho6)
            have HM6 := Lib.hid (HMEAS.out _ _ _ _ ho6)
            clear HF3 HMEAS HS1 HS2 HO4 HSa hb4 hb5 hb6 ho5 ho6 hg5' hg6 hHeld HI3 HZ3 HT1 HT2 HCB HE1
            go_wp2
            go_roundw
            case rel => exact HR6.out
            case measure => simp [lenV]; exact HM6.out
          · have HS2 : Hid (∀ W, Below w3.heap.size w3 W → Src Try.prog 1 43 (.slice (some ⟨g5, a + 1, none⟩) (k - (a + 1)) (c5 - (a + 1))) T2.length (intsL T2) W) := Lib.hid (fun W b => src_partI HT1.out.2.1 (HT2.out W (HCB.out w3 W HZ3.out b HI3.out)).2)
            refine wp_region_noPanic ?_
            refine wp_region_held_drew (S := fun w' => Below w3.heap.size w3 w') (by kernel_rfl) HSa.out (fun hHeld => ?_)
            refine takeH_at 1 39 (v := ?_) rfl rfl (by kernel_rfl) (by kernel_rfl) (by kernel_rfl) (fun _ _ _ h => h) (Or.inl ⟨by rfl, ?_⟩) (by assumption) ?_
            rotate_left
            · (intro wx hSw; clear hSw; go_simp) <;> with_reducible rfl
            simp only [Act.put, List.setIfInBounds_toArray, List.set_cons_zero, List.set_cons_succ]
            refine takeH_at 2 40 (v := ?_) rfl rfl (by kernel_rfl) (by kernel_rfl) (by kernel_rfl) (fun _ _ _ h => h) (Or.inl ⟨by rfl, ?_⟩) (by assumption) ?_
            rotate_left
            · (intro wx hSw; clear hSw; go_simp) <;> with_reducible rfl
            simp only [Act.put, List.setIfInBounds_toArray, List.set_cons_zero, List.set_cons_succ]
            refine takeH_at 3 41 (v := .slice (some ⟨g5, 0, none⟩) a c5) rfl rfl (by kernel_rfl) (by kernel_rfl) (by kernel_rfl) (fun _ _ _ h => h) (Or.inl ⟨by rfl, ?_⟩) (by assumption) ?_
            · (intro wx hSw; clear hSw; go_simp) <;> (first | done | (intro hc; exfalso; omega) | (intro hc; omega) | omega)
            simp only [Act.put, List.setIfInBounds_toArray, List.set_cons_zero, List.set_cons_succ]
            refine takeH_at 5 43 (v := ?_) rfl rfl (by kernel_rfl) (by kernel_rfl) (by kernel_rfl) (fun _ _ _ h => h) (Or.inl ⟨by rfl, ?_⟩) (by assumption) ?_
            rotate_left
            · (intro wx hSw; clear hSw; go_simp) <;> with_reducible rfl
            simp only [Act.put, List.setIfInBounds_toArray, List.set_cons_zero, List.set_cons_succ]
            refine takeH_at 6 44 (v := ?_) rfl rfl (by kernel_rfl) (by kernel_rfl) (by kernel_rfl) (fun _ _ _ h => h) (Or.inl ⟨by rfl, ?_⟩) (by assumption) ?_
            rotate_left
            · (intro wx hSw; clear hSw; go_simp) <;> with_reducible rfl
            simp only [Act.put, List.setIfInBounds_toArray, List.set_cons_zero, List.set_cons_succ]
            refine takeH_at 7 45 (v := .int .i64 ((a : Int) + 1)) rfl rfl (by kernel_rfl) (by kernel_rfl) (by kernel_rfl) (fun _ _ _ h => h) (Or.inl ⟨by rfl, ?_⟩) (by assumption) ?_
            · (intro wx hSw; clear hSw; go_simp) <;> (first | done | rw [hwr])
            simp only [Act.put, List.setIfInBounds_toArray, List.set_cons_zero, List.set_cons_succ]
            refine takeH_at 8 46 (v := .slice (some ⟨g5, a + 1, none⟩) (k - (a + 1)) (c5 - (a + 1))) rfl rfl (by kernel_rfl) (by kernel_rfl) (by kernel_rfl) (fun _ _ _ h => h) (Or.inl ⟨by rfl, ?_⟩) (by assumption) ?_
            · (intro wx hSw; clear hSw; go_simp) <;> (first | done | (intro hc; exfalso; omega) | (intro hc; omega) | omega)
            simp only [Act.put, List.setIfInBounds_toArray, List.set_cons_zero, List.set_cons_succ]
            refine wpAnyH_ready (rs := [0]) (by kernel_rfl) (by simp) (AllReadyH.cons rfl (fun K hK => ?_) AllReadyH.nil)
            refine step_noneI rfl 38 rfl rfl ?_
            have hb4 : Below w3.heap.size w3 (w3.drew.alloc (.cells #[] 3)) := HSa.out.alloc HSa.out.size _
            have HO4 : Hid ((w3.drew.alloc (.cells #[] 3)).ownsRow w3.heap.size 3 1 (.slice (some ⟨w3.drew.heap.size, 0, none⟩) 0 0) ([] : List Nat).length (intsL [])) := Lib.hid ⟨by simp [intsL], .inr ⟨w3.heap.size, 0, #[], rfl, Nat.le_refl _, heap_alloc_new w3.drew (.cells #[] 3), Nat.le_refl _, by simp [maxLen], rfl, rfl⟩⟩
            refine hK.out _ _ hb4 (fun _ => ?_)
            clear hK K
            simp only [Act.put, List.setIfInBounds_toArray, List.set_cons_zero, List.set_cons_succ]
            refine wpAnyH_ready (rs := [4]) (by kernel_rfl) (by simp) (AllReadyH.cons rfl (fun K hK => ?_) AllReadyH.nil)
            refine step_appI rfl 42 rfl (.tmp 38) (.tmp 41) rfl w3.heap.size _ [] rfl HO4.out _ T1 rfl (HS1.out _ hb4) HT1.out.2.2.1 hb4.size ?_
            intro v5 w5 ho5 hg5'
            have hb5 := own_belI HO4.out hb4 hb4.size hg5'
            refine hK.out _ _ hb5 (fun _ => ?_)
            clear hK K
            simp only [Act.put, List.setIfInBounds_toArray, List.set_cons_zero, List.set_cons_succ]
            refine wpAnyH_ready (rs := [9]) (by kernel_rfl) (by simp) (AllReadyH.cons rfl (fun K hK => ?_) AllReadyH.nil)
            refine step_appI rfl 47 rfl (.tmp 42) (.tmp 46) rfl w3.heap.size v5 ([] ++ T1) rfl ho5 _ T2 rfl (HS2.out _ hb5) HT1.out.2.2.2 hb5.size ?_
            intro v6 w6 ho6 hg6
            have hb6 := own_belI ho5 hb5 hb5.size hg6
            refine hK.out _ _ hb6 (fun _ => ?_)
            clear hK K
            simp only [Act.put, List.setIfInBounds_toArray, List.set_cons_zero, List.set_cons_succ]
            refine takeH_at 10 5 (v := ?_) rfl rfl (by kernel_rfl) (by kernel_rfl) (by kernel_rfl) (fun _ _ _ h => h) (Or.inl ⟨by rfl, ?_⟩) (by assumption) ?_
            rotate_left
            · (intro wx hSw; clear hSw; go_simp) <;> with_reducible rfl
            simp only [Act.put, List.setIfInBounds_toArray, List.set_cons_zero, List.set_cons_succ]
            refine wpAnyH_done (by kernel_rfl) ?_ _
            refine NoPanic.normal ?_
            rw [List.nil_append] at ho6
            have HR6 := Lib.hid (HF3.out v6 w6 hb6 ho6)
            have HM6 := Lib.hid (HMEAS.out _ _ _ _ ho6)
            clear HF3 HMEAS HS1 HS2 HO4 HSa hb4 hb5 hb6 ho5 ho6 hg5' hg6 hHeld HI3 HZ3 HT1 HT2 HCB HE1
            go_wp2
            go_roundw
            case rel => exact HR6.out
            case measure => simp [lenV]; exact HM6.out
        · have hl0 : l = [] := List.eq_nil_of_length_eq_zero (by omega)
          subst hl0
          have HF : Hid (SoIs w h A c xs r (j : Int) (.returned u7) wr) := by
            refine Lib.hid ⟨_, rfl, ?_, ?_, hg⟩
            · rw [HE.out, hord]
              simp only [List.length_nil, ordG, List.append_nil]
              exact hown7
            · rw [HE.out, hord]
              exact hs
          obtain ⟨A5, c5, rfl⟩ := own_slice hown5
          clear hs hg hown5 hown7 hord hdis hlo
          simp only [List.length_nil]
          go_wp2
          go_ret
          exact HF.out
theorem sorder_any (s : RS w h A c xs r) (n : Int) : Calls Try.prog 27 #[.pointer (some ⟨h, 0, none⟩), .int .i64 n] w (SoIs w h A c xs r n) := by
  by_cases h : 1 ≤ n ∧ n ≤ 1024
  · obtain ⟨N, rfl⟩ : ∃ N : Nat, n = (N : Int) := ⟨n.toNat, by omega⟩
    exact sorder_yes s N (by omega) (by omega)
  · exact sorder_no s n h
end
end Go.Proofs.Ytbfhfnbhfeedbaa
