/- Contract of the reference's laid of layer span. Conditions: an id has 20 bytes. -/
import Derived.Test.YtieeffebecghiaaPSra
namespace Go.Proofs.Ytieeffebecghiaa
set_option maxRecDepth 100000
set_option maxHeartbeats 1000000
open Go.RowKit Go.Lib Go.Great

theorem results_cell_tmpS {fn : Func} {p q : Tmp} {ty : TypeId} (h : fn.results = #[.cell p ty, .tmp q]) {P : Program} (tmps : Array Value) (w : World) (b o : Nat) (cs : List Value) (d : TypeDesc) (v : Value) (hp : tmps.getD p undef = .pointer (some ⟨b, o, none⟩)) (hq : tmps.getD q undef = v)
    (hc : w.rangeAt b o cs) (hu : P.underlying ty = some d) (hd : d.isRow = true) (hi : (P.info? ty).map (·.size) = some cs.length) : (results fn tmps).run P w = .ok (.tuple #[.agg cs.toArray, v]) w := by
  have h1 := run_loadVar_mid (P := P) w b o ty cs d hc hu hd hi
  have hp' : tmps[p]?.getD undef = .pointer (some ⟨b, o, none⟩) := by simpa using hp
  have hq' : tmps[q]?.getD undef = v := by simpa using hq
  simp [results, h, hp', hq', h1, asAddr]
/-- What the end of Next asks. -/
theorem yieldsIf_loadS {P : Program} {ops : Array Oper} {S : World → Prop} {op : Oper} {a : Act} (hw : Region.wanted op (yielded ops a.tmps) = true) (ty : TypeId) (x : Operand) (ho : op.op = .load ty x) (p : Addr) (hx : a.eval x = .pointer (some p)) (v : Value) (hl : ∀ w, S w → (loadVar ty p).run P w = .ok v w) : YieldsIf P ops S op v a :=
  .inl ⟨hw, fun w hw' => by
    unfold execOp
    simp only [ho, hx, Instr.loadAt, Instr.sureAddr, Sem.run_bind, Sem.run_pure, Result.andThen_ok, hl w hw']⟩
theorem LooseR.more {P : Program} {w : World} {S1 S : World → Prop} {X : Value → World → Prop} {r : Result Next} (hS : ∀ w, S1 w → S w) (h : LooseR P w S1 X r) : LooseR P w S (fun v w' => X v w' ∧ S1 w') r := by
  cases r with
  | halt x w' => exact h
  | ok n w' =>
    cases n <;> simp only [LooseR] at h ⊢
    case value v => exact ⟨hS _ h.1, h.2.1, h.2.2, h.1⟩
    case enter f args => exact ⟨h.1, h.2.mono (by rintro e w'' ⟨v, rfl, h1, h2, h3⟩; exact ⟨v, rfl, hS _ h1, h2, h3, h1⟩)⟩
theorem LooseR.wpD {P : Program} {o : Oper} {a : Act} {S : World → Prop} {X : Value → World → Prop} {w : World} (d : Nat) (hd : o.dst = some d) (h : LooseR P w S X ((execOp a.eval o).run P w)) {K : Act → World → Prop} {Q : Exit → Act → World → Prop}
    (hK : ∀ v w', S w' → Below w.heap.size w w' → X v w' → K (a.put (some d) v) w') : o.wp P a w K Q := LooseR.wp h (by rw [hd]; exact hK)
theorem built42s (W : World) : (Instr.build 26 #[]).run Try.prog W = .ok (.agg (bcells (List.replicate 20 0)).toArray) W := run_build W 26 #[] _ (by kernel_rfl)
theorem bc_size {x : List UInt8} (h : x.length = 20) : (bcells x).toArray.size = 20 := by rw [List.size_toArray, bcells_length, h]
theorem bc_info {x : List UInt8} (h : x.length = 20) : (Try.prog.info? 26).map (·.size) = some (bcells x).toArray.size := by rw [bc_size h]; exact size42
theorem bc_all (x : List UInt8) : (bcells x).toArray.all (·.oneCell') = true := all_oneCell_toArray (bcells_one _)

/-- What laid keeps but for the id that it turns. -/
structure LaS (w : World) (o : List UInt8) (wr : World) : Prop where
  bel : Below w.heap.size w wr
  own : wr.heap[w.heap.size]? = some (.cells (bcells o).toArray 26 (0, 0))
  res : wr.heap[w.heap.size + 1 + 1]? = some (.cells (bcells (List.replicate 20 0)).toArray 26 (0, 0))
  big : w.heap.size + 1 + 1 < wr.heap.size
theorem LaS.keep {w wr w' : World} {o : List UInt8} (h : LaS w o wr) (hb : Below wr.heap.size wr w') : LaS w o w' :=
  ⟨h.bel.trans (hb.mono h.bel.size), (hb.block _ (by have := h.big; omega)).trans h.own, (hb.block _ h.big).trans h.res, Nat.lt_of_lt_of_le h.big hb.size⟩
theorem LaS.set {w wr : World} {o : List UInt8} (h : LaS w o wr) (c : Array Value) : LaS w o (wr.setRow (w.heap.size + 1) c) :=
  ⟨below_setRow h.bel (by omega) _, by rw [setRow_other _ _ _ _ (by omega)]; exact h.own, by rw [setRow_other _ _ _ _ (by omega)]; exact h.res, by simpa using h.big⟩
def LaRel (w : World) (o f : List UInt8) (k : Nat) (i : Value) (wr : World) : Prop :=
  ∃ (j : Nat) (x : List UInt8), j ≤ k ∧ i = .int .i64 (j : Int) ∧ LaidTo o f x j ∧ LaS w o wr ∧ wr.heap[w.heap.size + 1]? = some (.cells (bcells x).toArray 26 (0, 0))
def LaPost (o : List UInt8) (k : Nat) (f : List UInt8) (e : Ending) : Prop := ∃ x, e = .returned (.tuple #[.agg (bcells x).toArray, .bool true]) ∧ Laid o k f x

theorem laid_no (o f : Array Value) (i : Int) (h : ¬ (0 ≤ i ∧ i < 160)) (w : World) :
    Calls Try.prog 26 #[.agg o, .int .i64 i, .agg f] w fun e w' => e = .returned (.tuple #[.agg (bcells (List.replicate 20 0)).toArray, .bool false]) ∧ Below w.heap.size w w' := by
  have hz1 := fun W => zero42 W
  have HBU := Lib.hid built42s
  have hl : (bcells (List.replicate 20 0)).length = 20 := by rw [bcells_length, List.length_replicate]
  have ha := bc_all (List.replicate 20 0)
  have hi := bc_info (List.length_replicate (n := 20) (a := (0 : UInt8)))
  generalize hZ : bcells (List.replicate 20 0) = Z at hz1 HBU hl ha hi ⊢
  obtain ⟨h1, h2, h3, hb⟩ := heap3 w (.cells o 26) (.cells f 26) (.cells Z.toArray 26)
  have HH := Lib.hid h3
  have HB := Lib.hid hb
  have HI := Lib.hid hi
  have HA := Lib.hid ha
  have HJ : Hid ((Try.prog.info? 26).map (·.size) = some Z.length) := Lib.hid (by rw [hl]; exact size42)
  clear h1 h2 h3 hb hZ hi ha hl
  have hq : i < 0 ∨ (¬ i < 0 ∧ 160 ≤ i) := by omega
  clear h
  rcases hq with h | ⟨h, h'⟩
  all_goals
    go_enter Try.func26, Try.ntmps26
    go_wp2_with (first
      | ((with_reducible refine wpList_buildV (o := ⟨some 15, _, _, _, _, _⟩) rfl 26 _ rfl _ ?_ _ (HBU.out _) ?_); (simp only [List.map_toArray, List.map_nil]))
      | ((with_reducible refine wpList_store_row rfl 26 (.tmp 6) (.tmp 15) rfl (w.heap.size + 1 + 1) Z.toArray ?_ ?_ 26 Z.toArray HH.out HI.out rfl HA.out ?_); rfl; rfl))
    have q1 := setRow_heap _ (w.heap.size + 1 + 1) _ Z.toArray 26 (0, 0) HH.out
    have q2 := below_setRow HB.out (g := w.heap.size + 1 + 1) (by omega) Z.toArray
    generalize ((((w.alloc (.cells o 26)).alloc (.cells f 26)).alloc (.cells Z.toArray 26)).setRow (w.heap.size + 1 + 1) Z.toArray) = W5 at q1 q2 ⊢
    refine bodyPost_ret (v := .tuple #[.agg Z.toArray, .bool false]) ?_ rfl ?_
    · exact results_cell_tmpS (p := 6) (ty := 26) (q := 7) rfl _ _ (w.heap.size + 1 + 1) 0 Z _ (.bool false) rfl rfl (row_range q1) Try.underlying26 rfl HJ.out
    · exact ⟨rfl, q2⟩

theorem laid_yes (o f : List UInt8) (ho : o.length = 20) (hf : f.length = 20) (k : Nat) (hk : k < 160) (w : World) :
    Calls Try.prog 26 #[.agg (bcells o).toArray, .int .i64 (k : Int), .agg (bcells f).toArray] w fun e w' => LaPost o k f e ∧ Below w.heap.size w w' := by
  have hz1 := fun W => zero42 W
  obtain ⟨h1, h2, h3, hb⟩ := heap3 w (.cells (bcells o).toArray 26) (.cells (bcells f).toArray 26) (.cells (bcells (List.replicate 20 0)).toArray 26)
  have R0 : Hid (LaRel w o f k (.int .i64 0) (((w.alloc (.cells (bcells o).toArray 26)).alloc (.cells (bcells f).toArray 26)).alloc (.cells (bcells (List.replicate 20 0)).toArray 26))) := Lib.hid ⟨0, f, by omega, rfl, LaidTo.start hf, ⟨hb, h1, h3, by simp⟩, h2⟩
  have HO : Hid (o.length = 20) := Lib.hid ho
  have HB := Lib.hid (fun (j : Nat) (hj : j < 160) W => rbit_yes o ho j hj W)
  have HL : Hid (∀ W, LaS w o W → (loadVar 26 ⟨w.heap.size, 0, none⟩).run Try.prog W = .ok (.agg (bcells o).toArray) W) := Lib.hid (fun W h => load42 ho h.own)
  have HL2 : Hid (∀ W, (Below w.heap.size w W ∧ W.heap[w.heap.size]? = some (.cells (bcells o).toArray 26 (0, 0))) → (loadVar 26 ⟨w.heap.size, 0, none⟩).run Try.prog W = .ok (.agg (bcells o).toArray) W) := Lib.hid (fun W h => load42 ho h.2)
  obtain ⟨A, hAA⟩ : ∃ A, A = (bcells o).toArray := ⟨_, rfl⟩
  rw [← hAA] at R0 HB ⊢
  have HL' : Hid (∀ W, LaS w o W → (loadVar 26 ⟨w.heap.size, 0, none⟩).run Try.prog W = .ok (.agg A) W) := Lib.hid (fun W h => by rw [hAA]; exact HL.out W h)
  have HL2' : Hid (∀ W, (Below w.heap.size w W ∧ W.heap[w.heap.size]? = some (.cells (bcells o).toArray 26 (0, 0))) → (loadVar 26 ⟨w.heap.size, 0, none⟩).run Try.prog W = .ok (.agg A) W) := Lib.hid (fun W h => by rw [hAA]; exact HL2.out W h)
  clear HL HL2 hAA
  generalize (bcells f).toArray = F at R0 ⊢
  generalize hZ : (bcells (List.replicate 20 0)).toArray = Z at hz1 R0
  clear h1 h2 h3 hb ho hf
  go_enter Try.func26, Try.ntmps26
  go_upto_region 4 with fail
  go_loopw [8] (LaRel w o f k) (fun i _ => k - (RowKit.intOf i).toNat)
  case atStart => exact R0.out
  case round =>
    obtain ⟨j, x, hj, rfl, hlt, hla, hrow⟩ := hrel
    clear R0
    have HLX : Hid (∀ W, Below wr.heap.size wr W → (loadVar 26 ⟨w.heap.size + 1, 0, none⟩).run Try.prog W = .ok (.agg (bcells x).toArray) W) := Lib.hid (fun W h => load42 hlt.len ((h.block _ (by have := hla.big; omega)).trans hrow))
    have hlad : LaS w o wr.drew := hla.keep (Below.refl _ wr).drew
    have HLA := Lib.hid hla
    have HLT := Lib.hid hlt
    have HROW := Lib.hid hrow
    by_cases hjk : j < k
    · obtain ⟨b, hbit⟩ : ∃ b, b = bitL o j := ⟨_, rfl⟩
      have HBJ := Lib.hid (HB.out j (by omega))
      rw [← hbit] at HBJ
      have HWI : Hid (∀ W, Calls Try.prog 36 #[.agg (bcells x).toArray, .int .i64 (j : Int), .int .i64 (if b then 1 else 0)] W fun e w' => e = .returned (.agg (bcells (withL x j b)).toArray) ∧ Below W.heap.size W w') := Lib.hid (fun W => by
        have h1 := rwith_any x HLT.out.len (j : Int) (if b then 1 else 0) W
        have h2 : withI x (j : Int) (if b then 1 else 0) = withL x j b := by
          unfold withI
          rw [if_pos (by omega), Int.toNat_natCast]
          cases b <;> rfl
        rwa [h2] at h1)
      have HST : Hid (LaidTo o f (withL x j b) (j + 1)) := Lib.hid (by rw [hbit]; exact HLT.out.step (by omega))
      generalize (if b then (1 : Int) else 0) = bi at HBJ HWI
      clear hbit hlt hla hrow
      go_upto_region 6 with fail
      refine wp_region_noPanic ?_
      refine wp_region_held_drew (S := fun w' => LaS w o w') (by kernel_rfl) hlad (fun hHeld => ?_)
      refine takeH_at 1 22 (v := ?_) rfl rfl (by kernel_rfl) (by kernel_rfl) (by kernel_rfl) (fun _ _ _ h => h) (Or.inl ⟨by rfl, ?_⟩) (by assumption) ?_
      rotate_left
      · (intro wx hSw; clear hSw; go_simp) <;> with_reducible rfl
      simp only [Act.put, List.setIfInBounds_toArray, List.set_cons_zero, List.set_cons_succ]
      refine takeH_at 2 23 (v := .agg A) rfl rfl (by kernel_rfl) (by kernel_rfl) (by kernel_rfl) (fun _ _ _ h => h) (yieldsIf_loadS (by rfl) 26 (.tmp 3) rfl _ rfl _ HL'.out) (by assumption) ?_
      simp only [Act.put, List.setIfInBounds_toArray, List.set_cons_zero, List.set_cons_succ]
      refine takeH_at 3 24 (v := ?_) rfl rfl (by kernel_rfl) (by kernel_rfl) (by kernel_rfl) (fun _ _ _ h => h) (Or.inl ⟨by rfl, ?_⟩) (by assumption) ?_
      rotate_left
      · (intro wx hSw; clear hSw; go_simp) <;> with_reducible rfl
      simp only [Act.put, List.setIfInBounds_toArray, List.set_cons_zero, List.set_cons_succ]
      refine diamond2 (fun w' => Below wr.heap.size wr w') (fun W h => HLA.out.keep h) 0 4 21 25 rfl rfl rfl rfl (by kernel_rfl) (by kernel_rfl) (by kernel_rfl) (by kernel_rfl) (by omega) (by kernel_rfl) (by kernel_rfl) (by rfl) (by rfl) (fun u _ => u = .agg (bcells x).toArray) (fun u _ => u = .int .i64 bi) (fun _ _ _ _ h => h) (fun _ _ _ _ h => h)
        (loose_load 26 (.tmp 5) rfl _ rfl _ HLX.out) (loose_call 31 rfl (enters_of Try.func31 (by kernel_rfl) rfl) _ (by simp only [List.map_toArray, List.map_cons, List.map_nil]; rfl) (fun W h => (HBJ.out W).mono (by rintro e w' ⟨rfl, q⟩; exact ⟨_, rfl, h.trans (q.mono h.size), q, rfl⟩))) (Below.refl _ wr).drew ?_
      intro u v wa hSa hba hu hv
      subst hu
      subst hv
      simp only [Act.put, List.setIfInBounds_toArray, List.set_cons_zero, List.set_cons_succ]
      have hLa := HLA.out.keep hSa
      refine single 5 26 rfl rfl (by kernel_rfl) (by rfl) (fun u w' => u = .agg (bcells (withL x j b)).toArray ∧ Below wr.heap.size wr w') (looseR_call 36 rfl (enters_of Try.func36 (by kernel_rfl) rfl) _ (by simp only [List.map_toArray, List.map_cons, List.map_nil]; rfl) ((HWI.out wa).mono (by rintro e w' ⟨rfl, q⟩; exact ⟨_, rfl, hLa.keep q, q, rfl, hSa.trans (q.mono hSa.size)⟩))) ?_
      intro u wb hSb hbb hu
      obtain ⟨rfl, hwb⟩ := hu
      simp only [Act.put, List.setIfInBounds_toArray, List.set_cons_zero, List.set_cons_succ]
      have hrb := (hwb.block (w.heap.size + 1) (by have := HLA.out.big; omega)).trans HROW.out
      refine single_store 6 rfl rfl (by kernel_rfl) (by rfl) 26 (.tmp 5) (.tmp 26) rfl (w.heap.size + 1) (bcells (withL x j b)).toArray rfl rfl 26 (bcells x).toArray hrb (bc_info HST.out.len) (by rw [bc_size HLT.out.len, bc_size HST.out.len]) (bc_all _) (hSb.set _) ?_
      refine wpAnyH_done (by kernel_rfl) ?_ _
      refine NoPanic.normal ?_
      have HREL : Hid (LaRel w o f k (.int .i64 ((j : Int) + 1)) (wb.setRow (w.heap.size + 1) (bcells (withL x j b)).toArray)) := Lib.hid ⟨j + 1, withL x j b, by omega, by go_num, HST.out, hSb.set _, setRow_heap _ _ _ _ 26 (0, 0) hrb⟩
      generalize wb.setRow (w.heap.size + 1) (bcells (withL x j b)).toArray = wz at HREL ⊢
      clear hrb hwb hSb hbb hSa hba hLa HST HWI HBJ HLT HROW HLX HLA hlad hHeld
      go_wp2
      go_roundw
      case rel => exact HREL.out
      case measure => simp [RowKit.intOf]; omega
    · obtain rfl : j = k := by omega
      obtain ⟨b, hbit⟩ : ∃ b, b = bitL o j := ⟨_, rfl⟩
      have HBJ := Lib.hid (HB.out j (by omega))
      rw [← hbit] at HBJ
      have HWI : Hid (∀ W, Calls Try.prog 36 #[.agg (bcells x).toArray, .int .i64 (j : Int), .int .i64 (1 - if b then 1 else 0)] W fun e w' => e = .returned (.agg (bcells (withL x j (!b))).toArray) ∧ Below W.heap.size W w') := Lib.hid (fun W => by
        have h1 := rwith_any x HLT.out.len (j : Int) (1 - if b then 1 else 0) W
        have h2 : withI x (j : Int) (1 - if b then 1 else 0) = withL x j (!b) := by
          unfold withI
          rw [if_pos (by omega), Int.toNat_natCast]
          cases b <;> rfl
        rwa [h2] at h1)
      have HST : Hid (Laid o j f (withL x j (!b))) := Lib.hid (by rw [hbit]; exact HLT.out.last (by omega))
      have hbi : (if b then (1 : Int) else 0) ≤ 1 ∧ 0 ≤ (if b then (1 : Int) else 0) := by cases b <;> simp
      generalize (if b then (1 : Int) else 0) = bi at HBJ HWI hbi
      obtain ⟨hbi1, hbi2⟩ := hbi
      have HWR : Hid (IntKind.i64.wrap (1 - bi) = 1 - bi) := Lib.hid (by rw [IntKind.wrap_i64]; omega)
      clear hbit hlt hla hrow
      go_upto_region 7 with fail
      refine wp_region_noPanic ?_
      refine wp_region_held_drew (S := fun w' => Below w.heap.size w w' ∧ w'.heap[w.heap.size]? = some (.cells (bcells o).toArray 26 (0, 0))) (by kernel_rfl) ⟨hlad.bel, hlad.own⟩ (fun hHeld => ?_)
      refine takeH_at 1 28 (v := ?_) rfl rfl (by kernel_rfl) (by kernel_rfl) (by kernel_rfl) (fun _ _ _ h => h) (Or.inl ⟨by rfl, ?_⟩) (by assumption) ?_
      rotate_left
      · (intro wx hSw; clear hSw; go_simp) <;> with_reducible rfl
      simp only [Act.put, List.setIfInBounds_toArray, List.set_cons_zero, List.set_cons_succ]
      refine takeH_at 2 29 (v := .agg A) rfl rfl (by kernel_rfl) (by kernel_rfl) (by kernel_rfl) (fun _ _ _ h => h) (yieldsIf_loadS (by rfl) 26 (.tmp 3) rfl _ rfl _ HL2'.out) (by assumption) ?_
      simp only [Act.put, List.setIfInBounds_toArray, List.set_cons_zero, List.set_cons_succ]
      refine takeH_at 3 30 (v := ?_) rfl rfl (by kernel_rfl) (by kernel_rfl) (by kernel_rfl) (fun _ _ _ h => h) (Or.inl ⟨by rfl, ?_⟩) (by assumption) ?_
      rotate_left
      · (intro wx hSw; clear hSw; go_simp) <;> with_reducible rfl
      simp only [Act.put, List.setIfInBounds_toArray, List.set_cons_zero, List.set_cons_succ]
      have hb0 : Below wr.heap.size wr wr.drew := (Below.refl _ wr).drew
      refine wpAnyH_ready (rs := [0, 4]) (by kernel_rfl) (by simp) (AllReadyH.cons rfl (fun K hK => ?_) (AllReadyH.cons rfl (fun K hK => ?_) AllReadyH.nil))
      · rw [if_pos (by rfl)]
        refine LooseR.wpD (S := fun w' => Below wr.heap.size wr w') 27 rfl (loose_load 26 (.tmp 5) rfl _ rfl _ HLX.out _ hb0) (fun u wa hSa hba hu => hK.out _ _ ⟨(HLA.out.keep hSa).bel, (HLA.out.keep hSa).own⟩ (fun hHa => ?_))
        subst hu
        simp only [Act.put, List.setIfInBounds_toArray, List.set_cons_zero, List.set_cons_succ]
        refine single 4 31 rfl rfl (by kernel_rfl) (by rfl) (fun u w' => u = .int .i64 bi ∧ Below wr.heap.size wr w') (looseR_call 31 rfl (enters_of Try.func31 (by kernel_rfl) rfl) _ (by simp only [List.map_toArray, List.map_cons, List.map_nil]; rfl) ((HBJ.out wa).mono (by rintro e w' ⟨rfl, q⟩; exact ⟨_, rfl, ⟨((HLA.out.keep hSa).keep q).bel, ((HLA.out.keep hSa).keep q).own⟩, q, rfl, hSa.trans (q.mono hSa.size)⟩))) ?_
        intro v wb hSb hbb hv
        obtain ⟨rfl, hwb⟩ := hv
        simp only [Act.put, List.setIfInBounds_toArray, List.set_cons_zero, List.set_cons_succ]
        refine takeH_at 5 32 (v := ?_) rfl rfl (by kernel_rfl) (by kernel_rfl) (by kernel_rfl) (fun _ _ _ h => h) (Or.inl ⟨by rfl, ?_⟩) (by assumption) ?_
        rotate_left
        · (intro wx hSw; clear hSw; go_simp) <;> with_reducible rfl
        simp only [Act.put, List.setIfInBounds_toArray, List.set_cons_zero, List.set_cons_succ]
        rw [HWR.out]
        have hLa := HLA.out.keep hwb
        refine single 6 33 rfl rfl (by kernel_rfl) (by rfl) (fun u w' => u = .agg (bcells (withL x j (!b))).toArray ∧ Below wr.heap.size wr w') (looseR_call 36 rfl (enters_of Try.func36 (by kernel_rfl) rfl) _ (by simp only [List.map_toArray, List.map_cons, List.map_nil]; rfl) ((HWI.out wb).mono (by rintro e w' ⟨rfl, q⟩; exact ⟨_, rfl, ⟨(hLa.keep q).bel, (hLa.keep q).own⟩, q, rfl, hwb.trans (q.mono hwb.size)⟩))) ?_
        intro u wc hSc hbc hu
        obtain ⟨rfl, hwc⟩ := hu
        simp only [Act.put, List.setIfInBounds_toArray, List.set_cons_zero, List.set_cons_succ]
        have hLb := HLA.out.keep hwc
        have hSd : Below w.heap.size w (wc.setRow (w.heap.size + 1 + 1) (bcells (withL x j (!b))).toArray) ∧ (wc.setRow (w.heap.size + 1 + 1) (bcells (withL x j (!b))).toArray).heap[w.heap.size]? = some (.cells (bcells o).toArray 26 (0, 0)) := ⟨below_setRow hLb.bel (by omega) _, by rw [setRow_other _ _ _ _ (by omega)]; exact hLb.own⟩
        refine single_store 7 rfl rfl (by kernel_rfl) (by rfl) 26 (.tmp 6) (.tmp 33) rfl (w.heap.size + 1 + 1) (bcells (withL x j (!b))).toArray rfl rfl 26 (bcells (List.replicate 20 0)).toArray hLb.res (bc_info HST.out.len) (by rw [bc_size HST.out.len, bc_size List.length_replicate]) (bc_all _) hSd ?_
        refine takeH_at 8 7 (v := ?_) rfl rfl (by kernel_rfl) (by kernel_rfl) (by kernel_rfl) (fun _ _ _ h => h) (Or.inl ⟨by rfl, ?_⟩) (by assumption) ?_
        rotate_left
        · (intro wx hSw; clear hSw; go_simp) <;> with_reducible rfl
        simp only [Act.put, List.setIfInBounds_toArray, List.set_cons_zero, List.set_cons_succ]
        refine wpAnyH_done (by kernel_rfl) ?_ _
        refine NoPanic.normal ?_
        have q1 := setRow_heap _ (w.heap.size + 1 + 1) _ (bcells (withL x j (!b))).toArray 26 (0, 0) hLb.res
        have HF := Lib.hid (below_setRow hLb.bel (g := w.heap.size + 1 + 1) (by omega) (bcells (withL x j (!b))).toArray)
        have HQ1 := Lib.hid (row_range q1)
        have HJ : Hid ((Try.prog.info? 26).map (·.size) = some (bcells (withL x j (!b))).length) := Lib.hid (by rw [bcells_length, HST.out.len]; exact size42)
        generalize wc.setRow (w.heap.size + 1 + 1) (bcells (withL x j (!b))).toArray = wz at HF HQ1 ⊢
        clear q1 hSd hLb hwb hSb hbb hSa hba hLa HWI HBJ HLT HROW HLX HLA hlad hHeld hHa hwc hSc hbc hb0 hK K
        go_wp2
        refine bodyPost_ret (v := .tuple #[.agg (bcells (withL x j (!b))).toArray, .bool true]) ?_ rfl ?_
        · exact results_cell_tmpS (p := 6) (ty := 26) (q := 7) rfl _ _ (w.heap.size + 1 + 1) 0 (bcells (withL x j (!b))) _ (.bool true) rfl rfl HQ1.out Try.underlying26 rfl HJ.out
        · exact ⟨⟨_, rfl, HST.out⟩, HF.out⟩
      · rw [if_pos (by rfl)]
        refine LooseR.wpD (S := fun w' => Below wr.heap.size wr w') (X := fun u _ => u = .int .i64 bi) 31 rfl (looseR_call 31 rfl (enters_of Try.func31 (by kernel_rfl) rfl) _ (by simp only [List.map_toArray, List.map_cons, List.map_nil]; rfl) ((HBJ.out _).mono (by rintro e w' ⟨rfl, q⟩; exact ⟨_, rfl, hb0.trans (q.mono hb0.size), q, rfl⟩))) (fun u wa hSa hba hu => hK.out _ _ ⟨(HLA.out.keep hSa).bel, (HLA.out.keep hSa).own⟩ (fun hHa => ?_))
        subst hu
        simp only [Act.put, List.setIfInBounds_toArray, List.set_cons_zero, List.set_cons_succ]
        refine takeH_at 5 32 (v := ?_) rfl rfl (by kernel_rfl) (by kernel_rfl) (by kernel_rfl) (fun _ _ _ h => h) (Or.inl ⟨by rfl, ?_⟩) (by assumption) ?_
        rotate_left
        · (intro wx hSw; clear hSw; go_simp) <;> with_reducible rfl
        simp only [Act.put, List.setIfInBounds_toArray, List.set_cons_zero, List.set_cons_succ]
        refine single 0 27 rfl rfl (by kernel_rfl) (by rfl) (fun u w' => u = .agg (bcells x).toArray ∧ Below wr.heap.size wr w') (LooseR.more (fun W h => ⟨(HLA.out.keep h).bel, (HLA.out.keep h).own⟩) (loose_load (S := fun w' => Below wr.heap.size wr w') 26 (.tmp 5) rfl _ rfl _ HLX.out wa hSa)) ?_
        intro v wb hSb hbb hv
        obtain ⟨rfl, hwb⟩ := hv
        simp only [Act.put, List.setIfInBounds_toArray, List.set_cons_zero, List.set_cons_succ]
        rw [HWR.out]
        have hLa := HLA.out.keep hwb
        refine single 6 33 rfl rfl (by kernel_rfl) (by rfl) (fun u w' => u = .agg (bcells (withL x j (!b))).toArray ∧ Below wr.heap.size wr w') (looseR_call 36 rfl (enters_of Try.func36 (by kernel_rfl) rfl) _ (by simp only [List.map_toArray, List.map_cons, List.map_nil]; rfl) ((HWI.out wb).mono (by rintro e w' ⟨rfl, q⟩; exact ⟨_, rfl, ⟨(hLa.keep q).bel, (hLa.keep q).own⟩, q, rfl, hwb.trans (q.mono hwb.size)⟩))) ?_
        intro u wc hSc hbc hu
        obtain ⟨rfl, hwc⟩ := hu
        simp only [Act.put, List.setIfInBounds_toArray, List.set_cons_zero, List.set_cons_succ]
        have hLb := HLA.out.keep hwc
        have hSd : Below w.heap.size w (wc.setRow (w.heap.size + 1 + 1) (bcells (withL x j (!b))).toArray) ∧ (wc.setRow (w.heap.size + 1 + 1) (bcells (withL x j (!b))).toArray).heap[w.heap.size]? = some (.cells (bcells o).toArray 26 (0, 0)) := ⟨below_setRow hLb.bel (by omega) _, by rw [setRow_other _ _ _ _ (by omega)]; exact hLb.own⟩
        refine single_store 7 rfl rfl (by kernel_rfl) (by rfl) 26 (.tmp 6) (.tmp 33) rfl (w.heap.size + 1 + 1) (bcells (withL x j (!b))).toArray rfl rfl 26 (bcells (List.replicate 20 0)).toArray hLb.res (bc_info HST.out.len) (by rw [bc_size HST.out.len, bc_size List.length_replicate]) (bc_all _) hSd ?_
        refine takeH_at 8 7 (v := ?_) rfl rfl (by kernel_rfl) (by kernel_rfl) (by kernel_rfl) (fun _ _ _ h => h) (Or.inl ⟨by rfl, ?_⟩) (by assumption) ?_
        rotate_left
        · (intro wx hSw; clear hSw; go_simp) <;> with_reducible rfl
        simp only [Act.put, List.setIfInBounds_toArray, List.set_cons_zero, List.set_cons_succ]
        refine wpAnyH_done (by kernel_rfl) ?_ _
        refine NoPanic.normal ?_
        have q1 := setRow_heap _ (w.heap.size + 1 + 1) _ (bcells (withL x j (!b))).toArray 26 (0, 0) hLb.res
        have HF := Lib.hid (below_setRow hLb.bel (g := w.heap.size + 1 + 1) (by omega) (bcells (withL x j (!b))).toArray)
        have HQ1 := Lib.hid (row_range q1)
        have HJ : Hid ((Try.prog.info? 26).map (·.size) = some (bcells (withL x j (!b))).length) := Lib.hid (by rw [bcells_length, HST.out.len]; exact size42)
        generalize wc.setRow (w.heap.size + 1 + 1) (bcells (withL x j (!b))).toArray = wz at HF HQ1 ⊢
        clear q1 hSd hLb hwb hSb hbb hSa hba hLa HWI HBJ HLT HROW HLX HLA hlad hHeld hHa hwc hSc hbc hb0 hK K
        go_wp2
        refine bodyPost_ret (v := .tuple #[.agg (bcells (withL x j (!b))).toArray, .bool true]) ?_ rfl ?_
        · exact results_cell_tmpS (p := 6) (ty := 26) (q := 7) rfl _ _ (w.heap.size + 1 + 1) 0 (bcells (withL x j (!b))) _ (.bool true) rfl rfl HQ1.out Try.underlying26 rfl HJ.out
        · exact ⟨⟨_, rfl, HST.out⟩, HF.out⟩
end Go.Proofs.Ytieeffebecghiaa
