/- Instances and bytes that come in. No condition. Walk of RosterReads; in a region that draws its order: a call that alone may come next, and one walk of what only reads behind it. No condition. Light of the statements. Condition: a length that an int holds. -/
import Derived.Test.YtkceipkgebgigaaXOhd
import Derived.Test.YtkceipkgebgigaaXIia
import Derived.Deep.Slices
import Derived.Deep.Strs
import Derived.SizedLaws
import Derived.Test.YtkceipkgebgigaaXOcc
import Derived.Test.YtkceipkgebgigaaXIyn
import Derived.Test.YtkceipkgebgigaaXIip
import Derived.Test.YtkceipkgebgigaaXObc
section
namespace Go.Proofs.Ytkceipkgebgigaa
set_option maxRecDepth 100000
open Go.ChangeShapes Go.WideShapes Go.ChangeAt Go.RowKit Go.Deep
theorem wf_u32 {n : Int} (h : (Lit.int .u32 n).wf = true) : 0 ≤ n ∧ n < 4294967296 := by
  simp [Lit.wf, IntKind.min, IntKind.max, IntKind.bits, IntKind.signed] at h
  omega
theorem wf_u16 {n : Int} (h : (Lit.int .u16 n).wf = true) : 0 ≤ n ∧ n < 65536 := by
  simp [Lit.wf, IntKind.min, IntKind.max, IntKind.bits, IntKind.signed] at h
  omega
section
variable {H : Type} {enc : TypeId × Value → H} {w : World} {base : Nat} {spare : Nat → Bool} {held : Bool}
theorem cells_bytes {fuel : Nat} {cs : List Value} {x : DataW H × List MemPlace} (h : DataW.trod enc Try.prog w base spare held fuel 23 cs = some x) : ∃ xs : List UInt8, xs.length = 20 ∧ cs = bcells xs := by
  have hu : Try.prog.underlying 23 = some (.array 20 5) := by kernel_rfl
  have hc5 : Try.prog.cellsOf 5 = 1 := by kernel_rfl
  have hc26 : Try.prog.cellsOf 23 = 20 := by kernel_rfl
  obtain ⟨ys, m, _, _, hl, hy, hi⟩ := DataW.trod_array hu h
  rw [hc26] at hl
  have hcell : ∀ i (hi20 : i < cs.length), ∃ n : Int, cs[i] = .int .u8 n ∧ 0 ≤ n ∧ n ≤ 255 := by
    intro i hi20
    have h1 := hi i (by omega)
    rw [hc5, Nat.mul_one] at h1
    rw [List.getElem?_eq_getElem (by omega)] at h1
    obtain ⟨n, he, _, hw⟩ := DataW.trod_int Try.underlying5 h1
    refine ⟨n, ?_, wf_u8 hw⟩
    rw [List.drop_eq_getElem_cons hi20, List.take_succ_cons, List.take_zero] at he
    injection he
  refine ⟨cs.map fun v => UInt8.ofNat (RowKit.intOf v).toNat, by simpa using hl, ?_⟩
  apply List.ext_getElem
  · simp [bcells]
  · intro i h1 h2
    obtain ⟨n, e, n0, n1⟩ := hcell i h1
    have e2 : (bcells (cs.map fun v => UInt8.ofNat (RowKit.intOf v).toNat))[i]'h2 = Value.int .u8 (((UInt8.ofNat (RowKit.intOf cs[i]).toNat).toNat : Nat) : Int) := by simp [bcells]
    rw [e2, e]
    have e3 : (UInt8.ofNat (RowKit.intOf (Value.int .u8 n)).toNat).toNat = n.toNat := by
      show (UInt8.ofNat n.toNat).toNat = n.toNat
      rw [UInt8.toNat_ofNat']
      omega
    rw [e3, Int.toNat_of_nonneg n0]
theorem one_cell {cs : List Value} {k : Nat} {v : Value} (h : (cs.drop k).take 1 = [v]) : cs[k]? = some v := by
  cases hd : cs.drop k with
  | nil => rw [hd] at h; simp at h
  | cons a r =>
    rw [hd] at h
    simp only [List.take_succ_cons, List.take_zero, List.cons.injEq, and_true] at h
    have := List.getElem?_drop (xs := cs) (i := k) (j := 0)
    rw [hd] at this
    simp only [List.getElem?_cons_zero, Nat.add_zero] at this
    rw [← this, h]
theorem cells_ins {fuel : Nat} {cs : List Value} {x : DataW H × List MemPlace} (h : DataW.trod enc Try.prog w base spare held fuel 28 cs = some x) : ∃ i : Ins, cs = encI i ∧ ∃ parts, x.1 = .agg parts ∧ parts[8]? = some (.lit (.string i.tgt)) := by
  have hu : Try.prog.underlying 28 = some (.struct #[⟨"Publisher", 23, 0, false, "", "", 0⟩, ⟨"Seq", 24, 20, false, "", "", 24⟩, ⟨"Born", 24, 21, false, "", "", 32⟩, ⟨"Life", 25, 22, false, "", "", 40⟩, ⟨"Gone", 4, 23, false, "", "", 44⟩, ⟨"Priority", 26, 24, false, "", "", 46⟩, ⟨"Weight", 26, 25, false, "", "", 48⟩, ⟨"Port", 26, 26, false, "", "", 50⟩, ⟨"Target", 9, 27, false, "", "", 56⟩]) := by kernel_rfl
  have c28 : Try.prog.cellsOf 28 = 28 := by kernel_rfl
  have c23 : Try.prog.cellsOf 23 = 20 := by kernel_rfl
  have c24 : Try.prog.cellsOf 24 = 1 := by kernel_rfl
  have c25 : Try.prog.cellsOf 25 = 1 := by kernel_rfl
  have c26 : Try.prog.cellsOf 26 = 1 := by kernel_rfl
  have c4 : Try.prog.cellsOf 4 = 1 := by kernel_rfl
  have c9 : Try.prog.cellsOf 9 = 1 := by kernel_rfl
  obtain ⟨ys, m, _, rfl, hl, hlen, hf⟩ := DataW.trod_struct hu h
  rw [c28] at hl
  have g : ∀ k (hk : k < 9), ∃ y, ys[k]? = some y := fun k hk => ⟨ys[k]'(by rw [hlen]; exact hk), List.getElem?_eq_getElem _⟩
  obtain ⟨y0, e0⟩ := g 0 (by omega)
  obtain ⟨y1, e1⟩ := g 1 (by omega)
  obtain ⟨y2, e2⟩ := g 2 (by omega)
  obtain ⟨y3, e3⟩ := g 3 (by omega)
  obtain ⟨y4, e4⟩ := g 4 (by omega)
  obtain ⟨y5, e5⟩ := g 5 (by omega)
  obtain ⟨y6, e6⟩ := g 6 (by omega)
  obtain ⟨y7, e7⟩ := g 7 (by omega)
  obtain ⟨y8, e8⟩ := g 8 (by omega)
  have t0 := (hf 0 ⟨"Publisher", 23, 0, false, "", "", 0⟩ rfl).trans e0
  have t1 := (hf 1 ⟨"Seq", 24, 20, false, "", "", 24⟩ rfl).trans e1
  have t2 := (hf 2 ⟨"Born", 24, 21, false, "", "", 32⟩ rfl).trans e2
  have t3 := (hf 3 ⟨"Life", 25, 22, false, "", "", 40⟩ rfl).trans e3
  have t4 := (hf 4 ⟨"Gone", 4, 23, false, "", "", 44⟩ rfl).trans e4
  have t5 := (hf 5 ⟨"Priority", 26, 24, false, "", "", 46⟩ rfl).trans e5
  have t6 := (hf 6 ⟨"Weight", 26, 25, false, "", "", 48⟩ rfl).trans e6
  have t7 := (hf 7 ⟨"Port", 26, 26, false, "", "", 50⟩ rfl).trans e7
  have t8 := (hf 8 ⟨"Target", 9, 27, false, "", "", 56⟩ rfl).trans e8
  simp only [c23, List.drop_zero] at t0
  simp only [c24] at t1 t2
  simp only [c25] at t3
  simp only [c4] at t4
  simp only [c26] at t5 t6 t7
  simp only [c9] at t8
  obtain ⟨xs, hx, q0⟩ := cells_bytes t0
  obtain ⟨n1, q1, _, w1⟩ := DataW.trod_int (k := .u64) (by kernel_rfl) t1
  obtain ⟨n2, q2, _, w2⟩ := DataW.trod_int (k := .u64) (by kernel_rfl) t2
  obtain ⟨n3, q3, _, w3⟩ := DataW.trod_int (k := .u32) (by kernel_rfl) t3
  obtain ⟨n4, q4, _⟩ := DataW.trod_bool (by kernel_rfl) t4
  obtain ⟨n5, q5, _, w5⟩ := DataW.trod_int (k := .u16) (by kernel_rfl) t5
  obtain ⟨n6, q6, _, w6⟩ := DataW.trod_int (k := .u16) (by kernel_rfl) t6
  obtain ⟨n7, q7, _, w7⟩ := DataW.trod_int (k := .u16) (by kernel_rfl) t7
  obtain ⟨n8, q8, r8, _⟩ := DataW.trod_string (by kernel_rfl) t8
  have v1 := wf_u64 w1
  have v2 := wf_u64 w2
  have v3 := wf_u32 w3
  have v5 := wf_u16 w5
  have v6 := wf_u16 w6
  have v7 := wf_u16 w7
  have p1 := one_cell q1
  have p2 := one_cell q2
  have p3 := one_cell q3
  have p4 := one_cell q4
  have p5 := one_cell q5
  have p6 := one_cell q6
  have p7 := one_cell q7
  have p8 := one_cell q8
  refine ⟨⟨xs, n1.toNat, n2.toNat, n3.toNat, n4, n5.toNat, n6.toNat, n7.toNat, n8.data.toList, hx, by omega, by omega, by omega, by omega, by omega, by omega⟩, ?_, ys.map (·.1), rfl, ?_⟩
  · have e1 : cs = cs.take 20 ++ cs.drop 20 := (List.take_append_drop 20 cs).symm
    rw [e1, q0]
    unfold encI
    congr 1
    have hb : (⟨n8.data.toList.toArray⟩ : ByteArray) = n8 := by simp
    have hb2 : bstr n8.data.toList = n8 := by unfold bstr; exact hb
    apply List.ext_getElem?
    intro k
    rw [List.getElem?_drop]
    unfold tailI
    simp only [Int.toNat_of_nonneg v1.1, Int.toNat_of_nonneg v2.1, Int.toNat_of_nonneg v3.1, Int.toNat_of_nonneg v5.1, Int.toNat_of_nonneg v6.1, Int.toNat_of_nonneg v7.1, hb2]
    match k with
    | 0 => exact p1
    | 1 => exact p2
    | 2 => exact p3
    | 3 => exact p4
    | 4 => exact p5
    | 5 => exact p6
    | 6 => exact p7
    | 7 => exact p8
    | k + 8 => rw [List.getElem?_eq_none (by rw [hl]; omega)]; rfl
  · rw [List.getElem?_map, e8]
    simp only [Option.map_some]
    rw [r8]
theorem open_ins {b0 : Nat} {r : Reach} {v : Value} {d : DataW H} {ps : List MemPlace} (hval : Value.okWide Try.prog w r b0 28 v) (hd : DataW.Trod enc Try.prog w base spare held 28 v d ps) :
    ∃ i : Ins, v = .agg (encI i).toArray ∧ ∃ parts, d = .agg parts ∧ parts[8]? = some (.lit (.string i.tgt)) := by
  obtain ⟨cs, rfl, _⟩ := okWide_struct Try.underlying28 hval
  obtain ⟨fuel, hf⟩ := hd
  obtain ⟨c, he, parts, hp, h8⟩ := cells_ins hf
  refine ⟨c, ?_, parts, hp, h8⟩
  have : cs.toList = encI c := by simpa [Value.cells] using he
  rw [← this]
theorem sized_ins {ts : List TypeId} {ds : List (DataW H)} (h : (DataW.weightsEach Try.prog ts ds).all (· ≤ reachBytes) = true) {j : Nat} {parts : List (DataW H)} {i : Ins} (ht : ts[j]? = some 28) (hd : ds[j]? = some (.agg parts)) (h8 : parts[8]? = some (.lit (.string i.tgt))) : i.tgt.length ≤ reachBytes := by
  have hm : i.tgt.length ∈ (DataW.agg parts).weights Try.prog 28 := by
    have hu : Try.prog.underlying 28 = some (.struct #[⟨"Publisher", 23, 0, false, "", "", 0⟩, ⟨"Seq", 24, 20, false, "", "", 24⟩, ⟨"Born", 24, 21, false, "", "", 32⟩, ⟨"Life", 25, 22, false, "", "", 40⟩, ⟨"Gone", 4, 23, false, "", "", 44⟩, ⟨"Priority", 26, 24, false, "", "", 46⟩, ⟨"Weight", 26, 25, false, "", "", 48⟩, ⟨"Port", 26, 26, false, "", "", 50⟩, ⟨"Target", 9, 27, false, "", "", 56⟩]) := by kernel_rfl
    simp only [DataW.weights, hu]
    exact DataW.weights_mem_each (j := 8) (t := 9) rfl h8 _ (by simp [DataW.weights])
  have := List.all_eq_true.1 h _ (DataW.weights_mem_each ht hd _ hm)
  simpa using this
end
end Go.Proofs.Ytkceipkgebgigaa
end
section
namespace Go.Proofs.Ytkceipkgebgigaa
open Go.Shelf Go.RowKit Go.Lib Go.Great
set_option maxRecDepth 100000
set_option maxHeartbeats 400000
/-- A call that alone may come next. -/
theorem any_call {P : Program} {md : Region.Mode} {ops : Array Oper} {Q : Exit → Act → World → Prop} (i di f : Nat) {oi : Oper} {fuel : Nat} {listed : Array Bool} {a : Act} {w : World}
    (hi : ops[i]? = some oi) (hdi : oi.dst = some di) (hr : Region.ready md ops listed = [i]) (wi : Region.wanted oi (yielded ops a.tmps) = true)
    {xs : Array Operand} {ts : Array TypeId} (ho : oi.op = .call { callee := .value (.func f), args := xs, argTypes := ts })
    (eg : ∀ args w, (callFunc f args).run P w = .ok (.enter f args) w) (args : Array Value) (hargs : xs.map a.eval = args) (X : Value → World → Prop)
    (h : Calls P f args w fun e w'' => ∃ v, e = .returned v ∧ X v w'')
    (hk : ∀ v w', X v w' → wpAny P md ops Q fuel (listed.setIfInBounds i true) (a.put (some di) v) w') : wpAny P md ops Q (fuel + 1) listed a w := by
  refine wpAny_all hr (by simp) (fun j hj => ?_)
  obtain rfl := List.mem_singleton.1 hj
  unfold wpOp
  simp only [hi, wi, if_true]
  left
  unfold Oper.wp
  have he : (execOp a.eval oi).run P w = .ok (.enter f args) w := by
    unfold execOp
    simp only [ho, resolve, invoke, hargs, Sem.run_bind]
    rw [show a.eval (.func f) = .func (.func f) #[] #[] from rfl]
    simp only [Deferred.ofValue, Sem.run_pure, Result.andThen_ok, Array.empty_append, Array.append_empty, eg]
  rw [he]
  simp only [Oper.upon]
  exact h.mono (by rintro e w'' ⟨v, rfl, hx⟩; rw [hdi]; exact hk v w'' hx)
/-- A move that may come now is taken first. -/
theorem any_move {P : Program} {md : Region.Mode} {ops : Array Oper} {Q : Exit → Act → World → Prop} (i di : Nat) (x : Operand) (v : Value) {oi : Oper} {fuel : Nat} {listed : Array Bool} {a : Act} {w : World}
    (hi : ops[i]? = some oi) (hdi : oi.dst = some di) (ho : oi.op = .move x) (hv : a.eval x = v) (hs : Region.noSelect ops = true) (hf : Region.free md ops listed i = true) (hr : (Region.ready md ops listed).contains i = true) (wi : Region.wanted oi (yielded ops a.tmps) = true)
    (hQ : ∀ c a w, Q (.panic c) (a.put (some di) v) w → Q (.panic c) a w)
    (h : wpAny P md ops Q fuel (listed.setIfInBounds i true) (a.put (some di) v) w) : wpAny P md ops Q (fuel + 1) listed a w := by
  rw [← hdi] at h hQ
  refine wpAny_take hi hs hf hr hQ (.inl ⟨wi, fun w => ?_⟩) h
  unfold execOp
  simp only [ho, hv, Sem.run_pure]
/-- What is left of a region only reads. -/
theorem any_rest {P : Program} {L0 : List Oper} {Q : Exit → Act → World → Prop} {w : World} (B : Nat) (W0 : World) (k n : Nat) (l : List Oper) {listed : Array Bool} {a : Act} (hl : L0.drop k = l) (hn : l.length = n) (hs : Region.noSelect L0.toArray = true) (hx : Region.lexFrom .any L0.toArray n k listed = true) (hC : Below B W0 w)
    (h : wpQuiet P L0.toArray (fun w' => ∃ n : Kept B W0, w' = n.val) (fun a' => ∀ w', (∃ n : Kept B W0, w' = n.val) → Q .normal a' w') l a) : wpAny P .any L0.toArray Q n listed a w := by
  subst hn
  exact wpAny_of_quiet (C := fun w' => ∃ n : Kept B W0, w' = n.val) (Q := fun a' => ∀ w', (∃ n : Kept B W0, w' = n.val) → Q .normal a' w') (fun _ w' hw' h => h w' hw') _ _ _ _ ⟨⟨w, hC⟩, rfl⟩ (wpAnyQ_lex hs l k listed a (fun j => by rw [← hl]; simp) hx h)
/-- The row lies in no block of h. -/
def NewA (h : Nat) (A : Option Addr) : Prop := A = none ∨ ∃ g off, A = some ⟨g, off, none⟩ ∧ h < g
theorem IAt.grownN {w w' : World} {B h : Nat} {A : Option Addr} {L : List Ins} (hA : IAt w B A L) (hB : B ≤ w.heap.size) (hn : NewA h A) (hg : w.grownBy w' (some h)) : IAt w' B A L := by
  rcases hA with e | ⟨g, off, rfl, hgB, hr⟩
  · exact .inl e
  · refine .inr ⟨g, off, rfl, hgB, rangeAt_below hr (hg.block g (by omega) ?_)⟩
    rcases hn with e | ⟨g', off', e, hlt⟩
    · cases e
    · injection e with e
      injection e with e1
      intro e2
      injection e2 with e2
      omega
theorem rosL_len (s : St) : (rosL s).length ≤ 16 := by
  unfold rosL
  split
  · rename_i h
    exact ((goodR_iff _).1 h).1
  · simp
theorem rreads_big (A : Option Addr) (c n : Nat) (w : World) (h : 6000 < n) : Calls Try.prog 7 #[.slice A n c] w fun e w' => e = .returned (.bool true) ∧ Below w.heap.size w w' := by
  have HLI := Lib.hid (rlives_any w)
  have h' : (6000 : Int) < (n : Int) := by omega
  go_enter Try.func7, Try.ntmps7
  go_wp2_with (go_at_call 34; (with_reducible refine HLI.out.mono ?_); rintro e w1 ⟨rfl, hb1⟩)
  go_ret
  exact ⟨rfl, hb1⟩
theorem rreads_small (A : Option Addr) (c : Nat) (xs : List UInt8) (w : World) (hA : BAt w w.heap.size A xs) (hc : xs.length ≤ c) (h : xs.length ≤ 6000) : Calls Try.prog 7 #[.slice A xs.length c] w fun e w' => e = .returned (.bool true) ∧ Below w.heap.size w w' := by
  have h3 : ¬ (6000 : Int) < (xs.length : Int) := by omega
  have H28 : Hid (Calls Try.prog 28 #[.slice A xs.length c] w fun e w' => ∃ g, e = .returned (.pointer (some ⟨g, 0, none⟩)) ∧ Pair w g w'.heap.size A c xs (w'.alloc (.cells #[.slice A xs.length c, .int .i64 0, .bool false] 47)) ⟨xs, false⟩ ⟨xs, false⟩) := Lib.hid ((open_any A c xs w hA (by omega)).mono (by
    rintro e w' ⟨g, rfl, hg, hr, hb⟩
    have a4 : Below w'.heap.size w' (w'.alloc (.cells #[.slice A xs.length c, .int .i64 0, .bool false] 47)) := (Below.refl _ w').alloc (Nat.le_refl _) _
    have b5 := hb.trans (a4.mono hb.size)
    have hs := hb.size
    have glt := hr.lt
    exact ⟨g, rfl, hr.below a4 (Nat.le_refl _), ⟨0, ⟨heap_alloc_new w' _, (hA.below b5).more b5.size, Nat.zero_le _, hc, by omega, fun h => by cases h⟩, rfl⟩, b5, by omega, by omega, by omega⟩))
  obtain ⟨s0, hs0⟩ : ∃ s, s = (⟨xs, false⟩ : St) := ⟨_, rfl⟩
  rw [← hs0] at H28
  obtain ⟨L, hL⟩ : ∃ L, L = rosL s0 := ⟨_, rfl⟩
  obtain ⟨s', hs'⟩ : ∃ s, s = rosS s0 := ⟨_, rfl⟩
  have hL16 : L.length ≤ 16 := by rw [hL]; exact rosL_len s0
  obtain ⟨m, hm⟩ : ∃ m, m = L.length := ⟨_, rfl⟩
  have H36 : Hid (∀ W g h, Pair w g h A c xs W s0 s0 → Calls Try.prog 36 #[.pointer (some ⟨g, 0, none⟩)] W fun e w' => ∃ v, e = .returned v ∧ ∃ A7 c7, v = .slice A7 m c7 ∧ IAt w' w'.heap.size A7 L ∧ NewA h A7 ∧ Pair w g h A c xs w' s' s0) := Lib.hid (fun W g h r => (rosread_any r.1.rb (Nat.le_refl _)).mono (by
    rintro e w' ⟨A7, c7, rfl, hi, hn, hr, hg⟩
    rw [← hL] at hi ⊢
    rw [← hs'] at hr
    refine ⟨_, rfl, A7, c7, by rw [hm], hi, ?_, r.left hr.rs hg⟩
    have := r.2.1.rb.lt
    rcases hn with e | ⟨g', off, e, hle⟩
    · exact .inl e
    · exact .inr ⟨g', off, e, by omega⟩))
  have H37 : Hid (∀ W g h A7, Pair w g h A c xs W s' s0 → IAt W W.heap.size A7 L → NewA h A7 → Calls Try.prog 37 #[.pointer (some ⟨h, 0, none⟩)] W fun e w' => ∃ v, e = .returned v ∧ ∃ A8 c8, v = .slice A8 m c8 ∧ IAt w' w'.heap.size A8 L ∧ IAt w' w'.heap.size A7 L ∧ Pair w g h A c xs w' s' s') := Lib.hid (fun W g h A7 r h7 hn => (rosrread_any r.2.1.rb).mono (by
    rintro e w' ⟨A8, c8, rfl, hi, hr, hg⟩
    rw [← hL] at hi ⊢
    rw [← hs'] at hr
    exact ⟨_, rfl, A8, c8, by rw [hm], hi, (h7.grownN (Nat.le_refl _) hn hg).more hg.size, r.right hr.rs hg⟩))
  have H35 : Hid (∀ W A7 c7 A8 c8, IAt W W.heap.size A7 L → IAt W W.heap.size A8 L → ∀ n : Kept W.heap.size W, Calls Try.prog 35 #[.slice A7 m c7, .slice A8 m c8] n.val fun e w' => e = .returned (.bool true) ∧ Below n.val.heap.size n.val w') := Lib.hid (fun W A7 c7 A8 c8 h7 h8 n => by
    have := rsame_any A7 A8 c7 c8 L L n.val (by omega) ((h7.below n.property).more n.property.size) ((h8.below n.property).more n.property.size)
    rw [(sameR_iff L L).2 rfl, ← hm] at this
    exact this)
  obtain ⟨lo, hlo⟩ : ∃ n, n = s'.ys.length := ⟨_, rfl⟩
  obtain ⟨bb, hbb⟩ : ∃ b, b = s'.bad := ⟨_, rfl⟩
  have H31 : Hid (∀ W g h, Pair w g h A c xs W s' s' → ∀ n : Kept W.heap.size W, Calls Try.prog 31 #[.pointer (some ⟨g, 0, none⟩)] n.val fun e w' => e = .returned (.int .i64 (lo : Int)) ∧ Below n.val.heap.size n.val w') := Lib.hid (fun W g h r n => (left_pair (r.below n.property (Nat.le_refl _))).mono (by rintro e w' ⟨rfl, rfl⟩; exact ⟨by rw [hlo], Below.refl _ _⟩))
  have H32 : Hid (∀ W g h, Pair w g h A c xs W s' s' → ∀ n : Kept W.heap.size W, Calls Try.prog 32 #[.pointer (some ⟨h, 0, none⟩)] n.val fun e w' => e = .returned (.int .i64 (lo : Int)) ∧ Below n.val.heap.size n.val w') := Lib.hid (fun W g h r n => (rleft_pair (r.below n.property (Nat.le_refl _))).mono (by rintro e w' ⟨rfl, q, rfl⟩; exact ⟨by rw [hlo], ⟨rfl, rfl, rfl, Nat.le_refl _, fun _ _ => rfl⟩⟩))
  have H33 : Hid (∀ W g h, Pair w g h A c xs W s' s' → ∀ n : Kept W.heap.size W, Calls Try.prog 33 #[.pointer (some ⟨g, 0, none⟩)] n.val fun e w' => e = .returned (.bool bb) ∧ Below n.val.heap.size n.val w') := Lib.hid (fun W g h r n => (bad_pair (r.below n.property (Nat.le_refl _))).mono (by rintro e w' ⟨rfl, rfl⟩; exact ⟨by rw [hbb], Below.refl _ _⟩))
  have HL4 : Hid (∀ W g h, Pair w g h A c xs W s' s' → ∀ n : Kept W.heap.size W, (loadVar 4 ⟨h, 2, none⟩).run Try.prog n.val = .ok (.bool bb) n.val) := Lib.hid (fun W g h r n => by
    have hx : n.val.cell? ⟨h, 2, none⟩ = some (.bool bb) := by rw [hbb]; exact rbad_pair (r.below n.property (Nat.le_refl _))
    go_simp)
  have HLI := Lib.hid rlives_any
  have HNIL := Lib.hid rosread_nil
  obtain ⟨n, hn⟩ : ∃ n, n = xs.length := ⟨_, rfl⟩
  rw [← hn] at H28 h3 ⊢
  clear hA hc h hs0 hs' hlo hbb hn hL hL16 hm
  go_enter Try.func7, Try.ntmps7
  go_upto_region 6 with (first
    | (go_at_call 28; (with_reducible refine H28.out.mono ?_); rintro e w1 ⟨g, rfl, R1⟩))
  have eg36 : ∀ args w, (callFunc 36 args).run Try.prog w = .ok (.enter 36 args) w := enters_of Try.func36 (by kernel_rfl) rfl
  have eg37 : ∀ args w, (callFunc 37 args).run Try.prog w = .ok (.enter 37 args) w := enters_of Try.func37 (by kernel_rfl) rfl
  generalize w1.alloc (.cells #[.slice A n c, .int .i64 0, .bool false] 47) = w2 at *
  generalize w1.heap.size = h at *
  refine wp_region_any (by kernel_rfl) ?_
  have R2 : Pair w g h A c xs { w2 with drawn := w2.drawn + 1 } s0 s0 := R1.below (B := w2.heap.size) ⟨rfl, rfl, rfl, Nat.le_refl _, fun _ _ => rfl⟩ (Nat.le_refl _)
  generalize { w2 with drawn := w2.drawn + 1 } = w3 at *
  clear R1
  show wpAny _ _ _ _ 30 _ _ _
  refine any_move 0 16 (.tmp 3) (.pointer (some ⟨g, 0, none⟩)) rfl rfl rfl rfl (by kernel_rfl) (by kernel_rfl) (by kernel_rfl) (by kernel_rfl) (fun _ _ _ h => h) ?_
  refine any_move 2 18 (.tmp 4) (.pointer (some ⟨h, 0, none⟩)) rfl rfl rfl rfl (by kernel_rfl) (by kernel_rfl) (by kernel_rfl) (by kernel_rfl) (fun _ _ _ h => h) ?_
  simp only [Act.put, List.setIfInBounds_toArray, List.set_cons_zero, List.set_cons_succ]
  refine any_call (xs := #[.tmp 16]) (ts := #[43]) 1 17 36 rfl rfl (by kernel_rfl) (by kernel_rfl) rfl eg36 #[.pointer (some ⟨g, 0, none⟩)] (by simp only [List.map_toArray, List.map_cons, List.map_nil]; rfl) _ (H36.out _ _ _ R2) ?_
  rintro v7 w7 ⟨A7, c7, rfl, i7, n7, R7⟩
  simp only [Act.put, List.setIfInBounds_toArray, List.set_cons_zero, List.set_cons_succ]
  refine any_call (xs := #[.tmp 18]) (ts := #[45]) 3 19 37 rfl rfl (by kernel_rfl) (by kernel_rfl) rfl eg37 #[.pointer (some ⟨h, 0, none⟩)] (by simp only [List.map_toArray, List.map_cons, List.map_nil]; rfl) _ (H37.out _ _ _ _ R7 i7 n7) ?_
  rintro v8 w8 ⟨A8, c8, rfl, i8, i78, R8⟩
  simp only [Act.put, List.setIfInBounds_toArray, List.set_cons_zero, List.set_cons_succ]
  have Q35 := Lib.hid (H35.out _ A7 c7 A8 c8 i78 i8)
  have Q31 := Lib.hid (H31.out _ _ _ R8)
  have Q32 := Lib.hid (H32.out _ _ _ R8)
  have Q33 := Lib.hid (H33.out _ _ _ R8)
  have QL4 := Lib.hid (HL4.out _ _ _ R8)
  have HBE := Lib.hid R8.2.2.1
  clear R8 R7 R2 i7 n7 i8 i78 H28 H36 H37 H35 H31 H32 H33 HL4
  refine any_rest w8.heap.size w8 4 26 _ (by simp only [List.drop_succ_cons, List.drop_zero]; rfl) rfl (by kernel_rfl) (by kernel_rfl) (Below.refl _ _) ?_
  repeat (first
    | (go_big_quiet_want; (with_reducible refine quiet_loadV 4 (.tmp 33) rfl _ ?_ _ QL4.out ?_); rfl; simp only [Act.put, List.setIfInBounds_toArray, List.set_cons_zero, List.set_cons_succ]; go_big_quiet_on)
    | go_big_quiet_step (first | (go_at_call 35; with_reducible exact kept_ofS (Nat.le_refl _) Q35.out _) | (go_at_call 31; with_reducible exact kept_ofS (Nat.le_refl _) Q31.out _) | (go_at_call 32; with_reducible exact kept_ofS (Nat.le_refl _) Q32.out _) | (go_at_call 33; with_reducible exact kept_ofS (Nat.le_refl _) Q33.out _) | (go_at_call 36; with_reducible exact kept_of (Nat.le_refl _) HNIL.out _) | (go_at_call 34; with_reducible exact kept_of (Nat.le_refl _) HLI.out _)))
  refine wpQuiet_nil ?_
  rintro wk ⟨⟨_, hwk⟩, rfl⟩
  go_wp2
  go_ret
  exact ⟨by simp, HBE.out.trans (hwk.mono HBE.out.size)⟩
theorem rreads_walk (A : Option Addr) (c : Nat) (xs : List UInt8) (w : World) (hA : BAt w w.heap.size A xs) (hc : xs.length ≤ c) : Calls Try.prog 7 #[.slice A xs.length c] w fun e w' => e = .returned (.bool true) ∧ Below w.heap.size w w' := by
  by_cases h : 6000 < xs.length
  · exact rreads_big A c xs.length w h
  · exact rreads_small A c xs w hA hc (by omega)
end Go.Proofs.Ytkceipkgebgigaa
end
section
namespace Go.Proofs.Ytkceipkgebgigaa
open Go.Shelf Go.RowKit Go.Lib Go.Great
set_option maxRecDepth 100000
set_option maxHeartbeats 400000
/-- Instances that are not more than are looked at. -/
def lightR (L : List Ins) : Bool := L.all (fun i => decide (i.tgt.length ≤ 300)) && decide (L.length ≤ 40)
theorem light_of {L : List Ins} {k : Nat} (hk : k < L.length) (h : ¬ L[k]!.tgt.length ≤ 300) : lightR L = false := by
  unfold lightR
  rw [Bool.and_eq_false_iff]
  left
  rw [List.all_eq_false]
  refine ⟨L[k]!, ?_, by simpa using h⟩
  rw [getElem!_pos L k hk]
  exact List.getElem_mem hk
theorem light_end {L : List Ins} (h : ∀ k, k < L.length → L[k]!.tgt.length ≤ 300) : lightR L = decide (L.length ≤ 40) := by
  unfold lightR
  have : L.all (fun i => decide (i.tgt.length ≤ 300)) = true := by
    rw [List.all_eq_true]
    intro x hx
    obtain ⟨k, hk, rfl⟩ := List.getElem_of_mem hx
    have := h k hk
    rw [getElem!_pos L k hk] at this
    simpa using this
  rw [this, Bool.true_and]
theorem light_iff {L : List Ins} (h : lightR L = true) : (∀ y ∈ L, y.tgt.length ≤ 300) ∧ L.length ≤ 40 := by
  unfold lightR at h
  rw [Bool.and_eq_true, List.all_eq_true, decide_eq_true_eq] at h
  exact ⟨fun y hy => by simpa using h.1 y hy, h.2⟩
theorem light_none (A : Option Addr) (c : Nat) (w : World) : Calls Try.prog 38 #[.slice A 0 c] w fun e w' => e = .returned (.bool true) ∧ w' = w := by
  go_enter Try.func38, Try.ntmps38
  go_wp2
  go_loopg [7] 0 (fun _ s wr => s = .int .i64 0 ∧ wr = w)
  case atStart => exact ⟨rfl, rfl⟩
  case round =>
    obtain ⟨rfl, rfl⟩ := hrel
    go_wp2
    go_ret
    exact ⟨rfl, rfl⟩
theorem light_some (b off c n : Nat) (L : List Ins) (w : World) (hn : L.length = n) (hL : n ≤ 9223372036854775807) (hb : b < w.heap.size) (hr : w.rangeAt b off (flatE encI L)) :
    Calls Try.prog 38 #[.slice (some ⟨b, off, none⟩) n c] w fun e w' => e = .returned (.bool (lightR L)) ∧ Below w.heap.size w w' := by
  have HLD : Hid (∀ k, k < n → ∀ W, Below w.heap.size w W → (loadVar 28 ⟨b, off + k * 28, none⟩).run Try.prog W = .ok (.agg (encI L[k]!).toArray) W) := Lib.hid (fun k hk W hW => row_load hr hb hW (by omega))
  have HF : Hid (∀ k, k < n → ¬ L[k]!.tgt.length ≤ 300 → lightR L = false) := Lib.hid (fun k hk h => light_of (by omega) h)
  have HE : Hid ((∀ k, k < n → L[k]!.tgt.length ≤ 300) → lightR L = decide (n ≤ 40)) := Lib.hid (fun h => by rw [← hn]; exact light_end (fun k hk => h k (by omega)))
  clear hr hn
  generalize lightR L = r at *
  go_enter Try.func38, Try.ntmps38
  go_wp2
  go_loopw [7] (fun i wr => ∃ k : Nat, i = .int .i64 (k : Int) ∧ k ≤ n ∧ (∀ j, j < k → L[j]!.tgt.length ≤ 300) ∧ Below w.heap.size w wr) (fun i _ => n - (RowKit.intOf i).toNat)
  case atStart => exact ⟨0, rfl, by omega, fun j hj => by omega, Below.refl _ _⟩
  case round =>
    obtain ⟨k, rfl, hk, hF, hbr⟩ := hrel
    have HD := Lib.hid hF
    clear hF
    by_cases hlt : k < n
    · have hlt' : (k : Int) < (n : Int) := by omega
      have hbn : Below w.heap.size w (wr.alloc (.cells (encI L[k]!).toArray 28)) := hbr.alloc hbr.size _
      have HBN := Lib.hid hbn
      have hfl := (fldB (heap_alloc_new wr (.cells (encI L[k]!).toArray 28))).tgt
      have hld := Lib.hid (HLD.out k hlt wr hbr)
      have HFK := HF.out k hlt
      have HDK : Hid (L[k]!.tgt.length ≤ 300 → ∀ j, j < k + 1 → L[j]!.tgt.length ≤ 300) := Lib.hid (fun h j hj => by
        rcases Nat.lt_or_ge j k with h' | h'
        · exact HD.out j h'
        · obtain rfl : j = k := by omega
          exact h)
      clear HD HF HE HLD hbn
      generalize L[k]! = Y at *
      have hsz : (bstr Y.tgt).size = Y.tgt.length := by show Y.tgt.toArray.size = _; simp
      generalize bstr Y.tgt = S at *
      by_cases hs : Y.tgt.length ≤ 300
      · have hs1 : ¬ (S.size : Int) > 300 := by omega
        have HX := Lib.hid (HDK.out hs)
        clear HFK hs hsz HDK
        go_wp2_with (first
          | ((with_reducible refine wpList_loadV (op := ⟨some 10, _, _, _, _, _⟩) rfl 28 (.tmp 9) rfl _ ?_ _ hld.out ?_); rfl)
          | (with_reducible refine wpList_alloc28 (o := ⟨some 4, _, _, _, _, _⟩) wr.heap.size rfl rfl 4 rfl rfl ?_)
          | ((with_reducible refine wpList_store28n (o := ⟨none, _, _, _, _, _⟩) rfl (.tmp 4) (.tmp 10) rfl wr.heap.size rfl zeroI Y ?_ ?_ ?_); rfl; rfl))
        go_roundw
        case rel => exact ⟨k + 1, by go_num, by omega, HX.out, HBN.out⟩
        case measure => simp [RowKit.intOf]; omega
      · have hs1 : (S.size : Int) > 300 := by omega
        have HX := Lib.hid (HFK hs)
        clear HFK hs hsz HDK
        go_wp2_with (first
          | ((with_reducible refine wpList_loadV (op := ⟨some 10, _, _, _, _, _⟩) rfl 28 (.tmp 9) rfl _ ?_ _ hld.out ?_); rfl)
          | (with_reducible refine wpList_alloc28 (o := ⟨some 4, _, _, _, _, _⟩) wr.heap.size rfl rfl 4 rfl rfl ?_)
          | ((with_reducible refine wpList_store28n (o := ⟨none, _, _, _, _, _⟩) rfl (.tmp 4) (.tmp 10) rfl wr.heap.size rfl zeroI Y ?_ ?_ ?_); rfl; rfl))
        go_ret
        exact ⟨by rw [HX.out]; rfl, HBN.out⟩
    · obtain rfl : k = n := by omega
      have HX := Lib.hid (HE.out HD.out)
      have HB := Lib.hid hbr
      clear HD HF HE HLD hbr
      by_cases h4 : k ≤ 40
      · have h4' : (k : Int) ≤ 40 := by omega
        go_wp2
        go_ret
        exact ⟨by rw [HX.out]; simp [h4], HB.out⟩
      · have h4' : ¬ (k : Int) ≤ 40 := by omega
        go_wp2
        go_ret
        exact ⟨by rw [HX.out]; simp [h4], HB.out⟩
theorem light_any (A : Option Addr) (c : Nat) (L : List Ins) (w : World) (hL : L.length ≤ 9223372036854775807) (hA : IAt w w.heap.size A L) :
    Calls Try.prog 38 #[.slice A L.length c] w fun e w' => e = .returned (.bool (lightR L)) ∧ Below w.heap.size w w' := by
  rcases hA with rfl | ⟨g, off, rfl, hg, hr⟩
  · exact (light_none A c w).mono (by rintro e w' ⟨rfl, rfl⟩; exact ⟨rfl, Below.refl _ _⟩)
  · exact light_some g off c L.length L w rfl hL hg hr
end Go.Proofs.Ytkceipkgebgigaa
end
