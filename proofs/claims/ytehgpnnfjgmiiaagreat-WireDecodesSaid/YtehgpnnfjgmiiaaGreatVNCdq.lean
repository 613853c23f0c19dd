/- Contract of Read of package contact. Conditions: at most 900,000 bytes. Read of the reference. Conditions: at most 900,000 bytes. Contract of lives of the statements on contact. No condition. -/
import Derived.Test.YtehgpnnfjgmiiaaGreatVOja
import Derived.Test.YtehgpnnfjgmiiaaGreatVObd
import Derived.Test.YtehgpnnfjgmiiaaGreatVIiv
import Derived.Test.YtehgpnnfjgmiiaaGreatVObc
import Derived.Test.YtehgpnnfjgmiiaaGreatVROcc
import Derived.Test.YtehgpnnfjgmiiaaGreatVRERefb
import Derived.Test.YtehgpnnfjgmiiaaGreatVRKCdk
import Derived.Test.YtehgpnnfjgmiiaaGreatVRIip
import Derived.Test.YtehgpnnfjgmiiaaGreatVREOctc
import Derived.Test.YtehgpnnfjgmiiaaGreatVNCra
import Derived.Test.YtehgpnnfjgmiiaaGreatVNCdm
import Derived.Test.YtehgpnnfjgmiiaaGreatVWau
import Derived.Test.YtehgpnnfjgmiiaaGreatVNCsa
import Derived.Lib.ConvBytes
section
namespace Go.Proofs.YtehgpnnfjgmiiaaGreat
open Go.Shelf Go.RowKit Go.Lib Go.Sort Go.Great
set_option maxRecDepth 100000
set_option maxHeartbeats 1000000
/-- Bytes that are a contact; the contact, or the zero one; the error. -/
def rdOk (xs : List UInt8) : Prop := xs.length = 26 ∧ getN ((xs.drop 20).take 4) ≠ 0 ∧ getN (((xs.drop 20).drop 4).take 2) ≠ 0
instance (xs : List UInt8) : Decidable (rdOk xs) := by unfold rdOk; exact inferInstance
def rdK (xs : List UInt8) : Con := if h : rdOk xs then ⟨(xs.take 20, getN ((xs.drop 20).take 4), getN (((xs.drop 20).drop 4).take 2)), ⟨by rw [List.length_take]; have := h.1; omega, getN_lt' _ 4 (by rw [List.length_take]; omega), getN_lt' _ 2 (by rw [List.length_take]; omega)⟩⟩ else default
def rdE (xs : List UInt8) : Int := if rdOk xs then 0 else 10
theorem nx_take (xs : List UInt8) (h : 20 ≤ xs.length) : takeV ⟨xs, false⟩ 20 = xs.take 20 ∧ takeS ⟨xs, false⟩ 20 = ⟨xs.drop 20, false⟩ := by
  have hk : takeOk ⟨xs, false⟩ 20 := ⟨rfl, by omega, by show (20 : Int) ≤ (xs.length : Int); omega⟩
  unfold takeV takeS
  rw [if_pos hk, if_pos hk]
  exact ⟨rfl, rfl⟩
theorem nx_take6 (xs : List UInt8) (h : 6 ≤ xs.length) : takeV ⟨xs, false⟩ 6 = xs.take 6 ∧ takeS ⟨xs, false⟩ 6 = ⟨xs.drop 6, false⟩ := by
  have hk : takeOk ⟨xs, false⟩ 6 := ⟨rfl, by omega, by show (6 : Int) ≤ (xs.length : Int); omega⟩
  unfold takeV takeS
  rw [if_pos hk, if_pos hk]
  exact ⟨rfl, rfl⟩
theorem take_no (xs : List UInt8) (k : Int) (h : (xs.length : Int) < k) : takeV ⟨xs, false⟩ k = [] ∧ takeS ⟨xs, false⟩ k = ⟨[], true⟩ := by
  have hk : ¬ takeOk ⟨xs, false⟩ k := fun hk => by
    have := hk.2.2
    change k ≤ (xs.length : Int) at this
    omega
  unfold takeV takeS
  rw [if_neg hk, if_neg hk]
  exact ⟨rfl, rfl⟩
theorem nx_long (xs : List UInt8) (h : 26 ≤ xs.length) : (takeV ⟨xs, false⟩ 20 = xs.take 20 ∧ takeV (takeS ⟨xs, false⟩ 20) 6 = (xs.drop 20).take 6) ∧ nxS ⟨xs, false⟩ = ⟨xs.drop 26, false⟩ := by
  obtain ⟨a, b⟩ := nx_take xs (by omega)
  obtain ⟨c, d⟩ := nx_take6 (xs.drop 20) (by rw [List.length_drop]; omega)
  unfold nxS
  rw [a, b, c, d, List.drop_drop]
  exact ⟨⟨rfl, rfl⟩, rfl⟩
theorem nx_short (xs : List UInt8) (h : xs.length < 26) : ¬ nxOk ⟨xs, false⟩ ∧ nxS ⟨xs, false⟩ = ⟨[], true⟩ := by
  by_cases h20 : 20 ≤ xs.length
  · obtain ⟨a, b⟩ := nx_take xs h20
    obtain ⟨c, d⟩ := take_no (xs.drop 20) 6 (by rw [List.length_drop]; omega)
    refine ⟨fun hk => ?_, ?_⟩
    · have := hk.2.1
      rw [b, c] at this
      cases this
    · unfold nxS
      rw [b, d]
  · obtain ⟨a, b⟩ := take_no xs 20 (by omega)
    refine ⟨fun hk => ?_, ?_⟩
    · have := hk.1
      rw [a] at this
      cases this
    · unfold nxS
      rw [b]
      unfold takeS
      rw [if_neg (fun hk => by cases hk.1)]
theorem take26 (xs : List UInt8) : (xs.take 26).drop 20 = (xs.drop 20).take 6 ∧ (xs.take 26).take 20 = xs.take 20 := by
  rw [List.drop_take, List.take_take]
  exact ⟨rfl, rfl⟩
theorem nx_ok (xs : List UInt8) (h : 26 ≤ xs.length) : nxOk ⟨xs, false⟩ ↔ rdOk (xs.take 26) := by
  obtain ⟨⟨a, b⟩, _⟩ := nx_long xs h
  have h1 : (xs.take 26).length = 26 := by rw [List.length_take]; omega
  have h2 : (xs.take 20).length = 20 := by rw [List.length_take]; omega
  have h3 : ((xs.drop 20).take 6).length = 6 := by rw [List.length_take, List.length_drop]; omega
  unfold nxOk rdOk
  rw [a, b, (take26 xs).1]
  constructor
  · rintro ⟨_, _, c, d⟩
    exact ⟨h1, c, d⟩
  · rintro ⟨_, c, d⟩
    exact ⟨h2, h3, c, d⟩
theorem nx_con (xs : List UInt8) (h : 26 ≤ xs.length) : nxC ⟨xs, false⟩ = rdK (xs.take 26) := by
  unfold nxC rdK
  by_cases hk : nxOk ⟨xs, false⟩
  · rw [dif_pos hk, dif_pos ((nx_ok xs h).1 hk)]
    obtain ⟨⟨a, b⟩, _⟩ := nx_long xs h
    refine Subtype.ext ?_
    simp only
    rw [a, b, (take26 xs).1, (take26 xs).2]
  · rw [dif_neg hk, dif_neg (fun h2 => hk ((nx_ok xs h).2 h2))]
section
variable {w W W' : World} {g : Nat} {s : St}
end
end Go.Proofs.YtehgpnnfjgmiiaaGreat
end
section
namespace Go.Proofs.YtehgpnnfjgmiiaaGreat
set_option maxRecDepth 100000
open Go.Shelf Go.RowKit Go.Lib Go.Sort Go.Great
set_option maxRecDepth 1000000
set_option maxHeartbeats 2000000
theorem build73 (W : World) : (Instr.build 90 #[]).run Tryz.prog W = .ok (.agg (encC default).toArray) W := by kernel_rfl
theorem wpList_alloc73a {w : World} {ops : Array Oper} {rest : List Oper} {o : Oper} {a : Act} {Q : Exit → Act → World → Prop} (hgd : o.guard = none) (d : Nat) (hd : o.dst = some d) (ho : o.op = .alloc 90)
    (h : wpList Tryz.prog ops Q rest (a.put (some d) (.pointer (some ⟨w.heap.size, 0, none⟩))) (w.alloc (.cells (encC default).toArray 90))) : wpList Tryz.prog ops Q (o :: rest) a w :=
  wpList_plain hgd fun _ hK => by
    have hz := fun W => zV73 W
    generalize (encC default).toArray = Z at hz h
    unfold Oper.wp execOp
    simp only [ho, Instr.alloc, Sem.run_bind, hz, Result.andThen_ok, Value.cells]
    simp [Oper.upon, hd]
    exact hK _ _ h
theorem wpList_store73a {w : World} {ops : Array Oper} {rest : List Oper} {o : Oper} {a : Act} {Q : Exit → Act → World → Prop} (hgd : o.guard = none) (x y : Operand) (ho : o.op = .store 90 x y) (z c : Con) (hx : a.eval x = .pointer (some ⟨w.heap.size, 0, none⟩)) (hy : a.eval y = .agg (encC c).toArray)
    (h : wpList Tryz.prog ops Q rest (a.put o.dst undef) (w.alloc (.cells (encC c).toArray 90))) : wpList Tryz.prog ops Q (o :: rest) a (w.alloc (.cells (encC z).toArray 90)) := by
  have hsz : (encC c).toArray.size = 22 := by rw [List.size_toArray, encC_length]
  refine wpList_store_mid (P := Tryz.prog) hgd 90 x y ho w.heap.size 0 (encC c).toArray hx hy ?_ (by rw [hsz]; exact size73) ?_ ?_
  · have := there_new w 90 (encC z)
    rw [encC_length] at this
    rw [hsz]
    exact this
  · rw [Array.all_eq_true_iff_forall_mem]
    intro v hv
    exact encC_one c v (by simpa using hv)
  · rw [show (encC c).toArray.toList = encC c from rfl, setCells_all w 90 (encC z) (encC c) (by rw [encC_length, encC_length])]
    exact h
theorem wpList_store73at {w : World} {ops : Array Oper} {rest : List Oper} {o : Oper} {a : Act} {Q : Exit → Act → World → Prop} (hgd : o.guard = none) (x y : Operand) (ho : o.op = .store 90 x y) (g f : Nat) (c : Con) (hx : a.eval x = .pointer (some ⟨g, f, none⟩)) (hy : a.eval y = .agg (encC c).toArray) (hth : w.there g f 22)
    (h : wpList Tryz.prog ops Q rest (a.put o.dst undef) (w.setCells g f (encC c))) : wpList Tryz.prog ops Q (o :: rest) a w := by
  have hsz : (encC c).toArray.size = 22 := by rw [List.size_toArray, encC_length]
  refine wpList_store_mid (P := Tryz.prog) hgd 90 x y ho g f (encC c).toArray hx hy (by rw [hsz]; exact hth) (by rw [hsz]; exact size73) ?_ h
  rw [Array.all_eq_true_iff_forall_mem]
  intro v hv
  exact encC_one c v (by simpa using hv)
theorem size71a {h p : Nat} : (Tryz.prog.info? 88).map (·.size) = some (adr h p).size := by show _ = some 2; kernel_rfl
/-- While Read of the reference runs. -/
structure RWx (w : World) (cq : List Value) (W : World) : Prop where
  hr : W.heap[w.heap.size]? = some (.cells (encC default).toArray 90 (0, 0))
  hq : W.heap[w.heap.size + 1]? = some (.cells cq.toArray 90 (0, 0))
  be : Below w.heap.size w W
section
variable {w W W' : World} {cq cq' : List Value}
theorem RWx.lt (r : RWx w cq W) : w.heap.size < W.heap.size ∧ w.heap.size + 1 < W.heap.size := ⟨(Array.getElem?_eq_some_iff.1 r.hr).1, (Array.getElem?_eq_some_iff.1 r.hq).1⟩
theorem RWx.bel (r : RWx w cq W) (hb : Below W.heap.size W W') : RWx w cq W' := ⟨(hb.block _ r.lt.1).trans r.hr, (hb.block _ r.lt.2).trans r.hq, r.be.trans (hb.mono r.be.size)⟩
theorem RWx.put (r : RWx w cq W) (hq : W'.heap[w.heap.size + 1]? = some (.cells cq'.toArray 90 (0, 0))) (hg : W.grownBy W' (some (w.heap.size + 1))) : RWx w cq' W' :=
  ⟨(hg.block _ r.lt.1 (by intro e; injection e with e; omega)).trans r.hr, hq, below_ownB r.be r.be.size hg (fun k hk => by injection hk with hk; omega)⟩
theorem RWx.fin (r : RWx w cq W) (c : Con) : W.there w.heap.size 0 22 ∧ (W.setCells w.heap.size 0 (encC c)).rangeAt w.heap.size 0 (encC c) ∧ Below w.heap.size w (W.setCells w.heap.size 0 (encC c)) := by
  have ht : W.there w.heap.size 0 22 := by
    have := row_there r.hr
    rw [encC_length] at this
    exact this
  exact ⟨ht, World.rangeAt_setCells_same W w.heap.size 0 (encC c) (by rw [encC_length]; exact ht), below_cellsE (Nat.le_refl _) _ _ _ r.be⟩
end
theorem rcread_len (A : Option Addr) (n c : Nat) (hn : n ≠ 26) (w : World) : Calls Tryz.prog 75 #[.slice A n c] w fun e w' => e = .returned (.tuple #[.agg (encC default).toArray, .int .i64 10]) ∧ Below w.heap.size w w' := by
  have hn' : ((n : Int) == 26) = false := by simp; omega
  have hn2 : ¬ (n : Int) = 26 := by omega
  have HBU := Lib.hid (fun W => build73 W)
  have HR := Lib.hid (row_range (heap_alloc_new w (.cells (encC default).toArray 90)))
  have HB : Hid (Below w.heap.size w (w.alloc (.cells (encC default).toArray 90))) := Lib.hid ((Below.refl _ w).alloc (Nat.le_refl _) _)
  have hl := encC_length default
  go_enter Tryz.func75, Tryz.ntmps75
  go_wp2_with (first
    | (with_reducible refine wpList_alloc73a (o := ⟨some 2, _, _, _, _, _⟩) rfl 2 rfl rfl ?_)
    | ((with_reducible refine wpList_buildG (o := ⟨some 10, _, _, _, _, _⟩) ?_ 90 rfl _ (HBU.out _) ?_); rfl)
    | ((with_reducible refine wpList_store73a (o := ⟨none, _, _, _, _, _⟩) rfl (.tmp 2) (.tmp 10) rfl default default ?_ ?_ ?_); rfl; rfl))
  refine bodyPost_ret (v := .tuple #[.agg (encC default).toArray, .int .i64 10]) ?_ rfl ?_
  · exact results_cell_tmpS (p := 2) (ty := 90) (q := 3) rfl _ _ w.heap.size 0 (encC default) _ (.int .i64 10) rfl rfl HR.out Tryz.underlying90 rfl (by rw [hl]; exact size73)
  · exact ⟨rfl, HB.out⟩
theorem rcread_six (g0 off0 c : Nat) (xs : List UInt8) (hx : xs.length = 26) (hc : 26 ≤ c) (w : World) (hA : BAt w w.heap.size (some ⟨g0, off0, none⟩) xs) :
    Calls Tryz.prog 75 #[.slice (some ⟨g0, off0, none⟩) 26 c] w fun e w' => e = .returned (.tuple #[.agg (encC (rdK xs)).toArray, .int .i64 (rdE xs)]) ∧ Below w.heap.size w w' := by
  obtain ⟨hr0, hq0, hb0⟩ := heap2 w (.cells (encC default).toArray 90) (.cells (encC default).toArray 90)
  obtain ⟨W0, hW0⟩ : ∃ W0, W0 = (w.alloc (.cells (encC default).toArray 90)).alloc (.cells (encC default).toArray 90) := ⟨_, rfl⟩
  rw [← hW0] at hr0 hq0 hb0
  have N0 : Hid (RWx w (encC default) W0.drew) := Lib.hid ⟨hr0, hq0, hb0.drew⟩
  obtain ⟨V1, hV1⟩ : ∃ V, V = xs.take 20 := ⟨_, rfl⟩
  obtain ⟨V2, hV2⟩ : ∃ V, V = xs.drop 20 := ⟨_, rfl⟩
  have hv1 : V1.length = 20 := by rw [hV1, List.length_take]; omega
  have hv2 : V2.length = 6 := by rw [hV2, List.length_drop]; omega
  have HV1 : Hid (∀ W, Below w.heap.size w W → ∀ j v, (bcells V1)[j]? = some v → W.cell? ((⟨g0, off0, none⟩ : Addr).add j) = some v) := Lib.hid (fun W hW j v hv => by
    have h1 := (hA.below hW).head (k := 20) (c := c) (by omega)
    have e1 : headA (some (⟨g0, off0, none⟩ : Addr)) c = some ⟨g0, off0, none⟩ := by unfold headA; rw [if_neg (by omega)]; simp [addr_add]
    rw [e1, ← hV1] at h1
    obtain ⟨ad, ha, h2⟩ := h1.cells (by rw [bcells_length]; omega)
    injection ha with ha
    subst ha
    exact h2 j v hv)
  have H80 : Hid (∀ W, Below w.heap.size w W → Calls Tryz.prog 95 #[.slice (some ⟨g0, off0 + 20, none⟩) 6 (c - 20)] W fun e w' => e = .returned (readV V2) ∧ Below W.heap.size W w') := Lib.hid (fun W hW => by
    have h1 := (hA.below hW).cut (k := 20) (c := c) (by omega) (by omega)
    have e1 : cutA (some (⟨g0, off0, none⟩ : Addr)) c 20 = some ⟨g0, off0 + 20, none⟩ := by unfold cutA; rw [if_neg (by omega)]; simp [addr_add]
    rw [e1, ← hV2] at h1
    have := rread_any (some ⟨g0, off0 + 20, none⟩) (c - 20) V2 W (h1.more hW.size)
    rwa [hv2] at this)
  obtain ⟨cq, hcq⟩ : ∃ cq, cq = splice (encC default) 0 (bcells V1) := ⟨_, rfl⟩
  have H3 : Hid (∀ w2 w3, RWx w (encC default) w2 → w3.heap[w.heap.size + 1]? = some (.cells (splice (encC default) 0 (bcells V1)).toArray 90 (0, 0)) → w2.grownBy w3 (some (w.heap.size + 1)) → RWx w cq w3) := Lib.hid (fun w2 w3 n hq hg => by rw [hcq]; exact n.put hq hg)
  have HL1 : Hid ((bcells V1).length = Nat.min 20 20 ∧ 0 + (bcells V1).length ≤ (encC default).length ∧ (0 < (bcells V1).length → ∃ ad, some (⟨g0, off0, none⟩ : Addr) = some ad)) := Lib.hid ⟨by rw [bcells_length, hv1]; rfl, by rw [bcells_length, hv1, encC_length]; omega, fun _ => ⟨_, rfl⟩⟩
  have HBU := Lib.hid (fun W => build73 W)
  have HW := Lib.hid hW0
  have HLEN := Lib.hid encC_length
  have h26 : (26 : Int) ≤ (c : Int) := by omega
  have h20 : (20 : Int) ≤ (c : Int) := by omega
  have hc20 : ¬ c = 20 := by omega
  have hc0 : ¬ c = 0 := by omega
  have hrk : rdOk xs ↔ getN (V2.take 4) ≠ 0 ∧ getN ((V2.drop 4).take 2) ≠ 0 := by
    unfold rdOk
    rw [← hV2]
    constructor
    · rintro ⟨_, a, b⟩; exact ⟨a, b⟩
    · rintro ⟨a, b⟩; exact ⟨hx, a, b⟩
  by_cases hok : rdOk xs
  · obtain ⟨ho, hho⟩ : ∃ n, n = getN (V2.take 4) := ⟨_, rfl⟩
    obtain ⟨po, hpo⟩ : ∃ n, n = getN ((V2.drop 4).take 2) := ⟨_, rfl⟩
    have hrv : readV V2 = .tuple #[.agg #[.int .u32 (ho : Int), .int .u16 (po : Int)], .int .i64 0] := by
      unfold readV
      rw [if_pos ⟨hv2, hrk.1 hok⟩, ← hho, ← hpo]
      rfl
    obtain ⟨K, hK⟩ : ∃ K, K = rdK xs := ⟨_, rfl⟩
    have henc : encC K = bcells V1 ++ [.int .u32 (ho : Int), .int .u16 (po : Int)] := by
      rw [hK]
      unfold rdK
      rw [dif_pos hok]
      unfold encC
      simp only
      rw [← hV1, ← hV2, ← hho, ← hpo]
    have hE : rdE xs = 0 := by unfold rdE; rw [if_pos hok]
    have H7 : Hid (∀ W, RWx w cq W → W.there (w.heap.size + 1) 20 (adr ho po).size ∧ RWx w (encC K) (W.setCells (w.heap.size + 1) 20 (adr ho po).toList)) := by
      refine Lib.hid (fun W n => ?_)
      have hcl : cq = bcells V1 ++ [.int .u32 0, .int .u16 0] := by
        rw [hcq]
        unfold splice
        rw [List.take_zero, List.nil_append, bcells_length, hv1]
        rfl
      have hlen : cq.length = 22 := by rw [hcl, List.length_append, bcells_length, hv1]; rfl
      have hth := row_there n.hq
      rw [hlen] at hth
      refine ⟨fun j hj => ?_, ?_⟩
      · have hj2 : j < 2 := hj
        have := hth (20 + j) (by omega)
        rwa [Nat.zero_add] at this
      · refine n.put ?_ (grown_cells _ _ _ (World.grownBy.refl W _))
        have := heap_setCells_row (w.heap.size + 1) 90 [.int .u32 (ho : Int), .int .u16 (po : Int)] 20 cq W n.hq (by rw [hlen]; simp)
        show (W.setCells (w.heap.size + 1) 20 [.int .u32 (ho : Int), .int .u16 (po : Int)]).heap[w.heap.size + 1]? = _
        rw [this, henc]
        refine congrArg (fun l : List Value => some (Obj.cells l.toArray 90 (0, 0))) ?_
        rw [List.drop_of_length_le (by rw [hlen]; simp), List.append_nil, hcl, List.take_append_of_le_length (by rw [bcells_length, hv1]; omega), List.take_of_length_le (by rw [bcells_length, hv1]; omega)]
    rw [hrv] at H80
    rw [hE, ← hK]
    clear hr0 hq0 hb0 hW0 hV1 hV2 hcq hok hrv henc hho hpo hA hrk hK hE hv1 hv2 hx
    go_enter Tryz.func75, Tryz.ntmps75
    go_upto_region 4 with (first
      | (with_reducible refine wpList_alloc73a (o := ⟨some 2, _, _, _, _, _⟩) rfl 2 rfl rfl ?_)
      | (with_reducible refine wpList_alloc73 (o := ⟨some 4, _, _, _, _, _⟩) rfl 4 rfl rfl ?_))
    rw [← HW.out]
    clear HW
    refine wp_region_noPanic ?_
    refine wp_region_held_drew (S := fun _ => True) (by kernel_rfl) trivial (fun hHeld => ?_)
    refine takeH_at 0 11 (v := ?_) rfl rfl (by kernel_rfl) (by kernel_rfl) (by kernel_rfl) (fun _ _ _ h => h) (Or.inl ⟨by rfl, ?_⟩) (by trivial) ?_
    rotate_left
    · (intro wx hSw; (try dsimp only at hSw); go_simp) <;> with_reducible rfl
    simp only [Act.put, List.setIfInBounds_toArray, List.set_cons_zero, List.set_cons_succ]
    refine takeH_at 1 12 (v := ?_) rfl rfl (by kernel_rfl) (by kernel_rfl) (by kernel_rfl) (fun _ _ _ h => h) (Or.inl ⟨by rfl, ?_⟩) (by trivial) ?_
    rotate_left
    · (intro wx hSw; (try dsimp only at hSw); go_simp) <;> with_reducible rfl
    simp only [Act.put, List.setIfInBounds_toArray, List.set_cons_zero, List.set_cons_succ]
    refine takeH_at 2 13 (v := ?_) rfl rfl (by kernel_rfl) (by kernel_rfl) (by kernel_rfl) (fun _ _ _ h => h) (Or.inl ⟨by rfl, ?_⟩) (by trivial) ?_
    rotate_left
    · (intro wx hSw; (try dsimp only at hSw); go_simp) <;> with_reducible rfl
    simp only [Act.put, List.setIfInBounds_toArray, List.set_cons_zero, List.set_cons_succ]
    refine takeH_at 3 14 (v := .slice (some ⟨g0, off0, none⟩) 20 c) rfl rfl (by kernel_rfl) (by kernel_rfl) (by kernel_rfl) (fun _ _ _ h => h) (Or.inl ⟨by rfl, ?_⟩) (by trivial) ?_
    · (intro wx hSw; clear hSw; go_simp) <;> (first | done | (intro hcc; exfalso; omega) | (intro hcc; omega) | omega)
    simp only [Act.put, List.setIfInBounds_toArray, List.set_cons_zero, List.set_cons_succ]
    refine wpAnyH_ready (rs := [4]) (by kernel_rfl) (by simp) ?_
    refine AllReadyH.cons rfl (fun K2 hK2 => ?_) AllReadyH.nil
    refine step_copy_row rfl 15 rfl (.tmp 12) (.tmp 14) 31 31 rfl 5 Tryz.underlying31 size5c (some ⟨w.heap.size + 1, 0, none⟩) _ 20 20 20 c rfl rfl (w.heap.size + 1) 0 (encC default) 90 N0.out.hq (bcells V1) HL1.out.1 (fun hp => ⟨rfl, ⟨g0, off0, none⟩, rfl, HV1.out _ N0.out.be⟩) HL1.out.2.1 (bcells_oneC _) ?_
    intro w3 hq3 hg3
    refine hK2.out _ _ (by trivial) (fun hHeld => ?_)
    clear hK2 K2
    refine wpAnyH_done (by kernel_rfl) ?_ _
    refine NoPanic.normal ?_
    simp only [Act.put, List.setIfInBounds_toArray, List.set_cons_zero, List.set_cons_succ]
    have n3 := H3.out _ _ N0.out hq3 hg3
    clear hq3 hg3 H3 N0 HV1 HL1
    go_upto_region 6 with (first
      | (go_at_call 95; (with_reducible refine (H80.out _ n3.be).mono ?_); rintro e5 w5 ⟨rfl, hb5⟩))
    have n5 := n3.bel hb5
    have n6 := n5.bel ((Below.refl _ w5).alloc (Nat.le_refl _) (.cells #[.int .u32 (ho : Int), .int .u16 (po : Int)] 88))
    have HLD4 := Lib.hid (load71 (row_range (cs := [.int .u32 (ho : Int), .int .u16 (po : Int)]) (heap_alloc_new w5 (.cells #[.int .u32 (ho : Int), .int .u16 (po : Int)] 88))))
    generalize w5.alloc (.cells #[.int .u32 (ho : Int), .int .u16 (po : Int)] 88) = W6 at n6 HLD4 ⊢
    generalize w5.heap.size = b5 at HLD4 ⊢
    obtain ⟨h71, n7⟩ := H7.out _ n6
    obtain ⟨h91, h92, h93⟩ := n7.fin K
    have HLD7 := Lib.hid (load73 (row_range n7.hq))
    have H71 := Lib.hid h71
    have H91 := Lib.hid h91
    have H92 := Lib.hid h92
    have H93 := Lib.hid h93
    clear h71 n7 h91 h92 h93 n6 n5 n3 hb5 H80 H7
    generalize hW8 : (W6.setCells (w.heap.size + 1) 20 (adr ho po).toList) = W7 at *
    go_wp2_with (first
      | ((with_reducible refine wpList_loadV (op := ⟨some 25, _, _, _, _, _⟩) rfl 88 (.tmp 5) rfl ⟨b5, 0, none⟩ ?_ _ HLD4.out ?_); rfl)
      | ((with_reducible refine wpList_store_mid (op := ⟨none, _, _, _, _, _⟩) rfl 88 (.tmp 26) (.tmp 25) rfl (w.heap.size + 1) 20 (adr ho po) ?_ ?_ H71.out size71a (adr_all ho po) ?_); rfl; rfl; rw [hW8])
      | ((with_reducible refine wpList_loadV (op := ⟨some 27, _, _, _, _, _⟩) rfl 90 (.tmp 4) rfl ⟨w.heap.size + 1, 0, none⟩ ?_ _ HLD7.out ?_); rfl)
      | ((with_reducible refine wpList_store73at (o := ⟨none, _, _, _, _, _⟩) rfl (.tmp 2) (.tmp 27) rfl w.heap.size 0 K ?_ ?_ H91.out ?_); rfl; rfl))
    refine bodyPost_ret (v := .tuple #[.agg (encC K).toArray, .int .i64 0]) ?_ rfl ?_
    · exact results_cell_tmpS (p := 2) (ty := 90) (q := 3) rfl _ _ w.heap.size 0 (encC K) _ (.int .i64 0) rfl rfl H92.out Tryz.underlying90 rfl (by rw [HLEN.out]; exact size73)
    · exact ⟨rfl, H93.out⟩
  · have hrv : readV V2 = .tuple #[.agg #[.int .u32 0, .int .u16 0], .int .i64 10] := by
      unfold readV
      rw [if_neg (fun h => hok (hrk.2 h.2))]
      rfl
    have hE : rdE xs = 10 := by unfold rdE; rw [if_neg hok]
    have hK : rdK xs = default := by unfold rdK; rw [dif_neg hok]
    rw [hrv] at H80
    rw [hE, hK]
    clear hr0 hq0 hb0 hW0 hV1 hV2 hcq hok hrv hA hrk hK hE hv1 hv2 hx
    go_enter Tryz.func75, Tryz.ntmps75
    go_upto_region 4 with (first
      | (with_reducible refine wpList_alloc73a (o := ⟨some 2, _, _, _, _, _⟩) rfl 2 rfl rfl ?_)
      | (with_reducible refine wpList_alloc73 (o := ⟨some 4, _, _, _, _, _⟩) rfl 4 rfl rfl ?_))
    rw [← HW.out]
    clear HW
    refine wp_region_noPanic ?_
    refine wp_region_held_drew (S := fun _ => True) (by kernel_rfl) trivial (fun hHeld => ?_)
    refine takeH_at 0 11 (v := ?_) rfl rfl (by kernel_rfl) (by kernel_rfl) (by kernel_rfl) (fun _ _ _ h => h) (Or.inl ⟨by rfl, ?_⟩) (by trivial) ?_
    rotate_left
    · (intro wx hSw; (try dsimp only at hSw); go_simp) <;> with_reducible rfl
    simp only [Act.put, List.setIfInBounds_toArray, List.set_cons_zero, List.set_cons_succ]
    refine takeH_at 1 12 (v := ?_) rfl rfl (by kernel_rfl) (by kernel_rfl) (by kernel_rfl) (fun _ _ _ h => h) (Or.inl ⟨by rfl, ?_⟩) (by trivial) ?_
    rotate_left
    · (intro wx hSw; (try dsimp only at hSw); go_simp) <;> with_reducible rfl
    simp only [Act.put, List.setIfInBounds_toArray, List.set_cons_zero, List.set_cons_succ]
    refine takeH_at 2 13 (v := ?_) rfl rfl (by kernel_rfl) (by kernel_rfl) (by kernel_rfl) (fun _ _ _ h => h) (Or.inl ⟨by rfl, ?_⟩) (by trivial) ?_
    rotate_left
    · (intro wx hSw; (try dsimp only at hSw); go_simp) <;> with_reducible rfl
    simp only [Act.put, List.setIfInBounds_toArray, List.set_cons_zero, List.set_cons_succ]
    refine takeH_at 3 14 (v := .slice (some ⟨g0, off0, none⟩) 20 c) rfl rfl (by kernel_rfl) (by kernel_rfl) (by kernel_rfl) (fun _ _ _ h => h) (Or.inl ⟨by rfl, ?_⟩) (by trivial) ?_
    · (intro wx hSw; clear hSw; go_simp) <;> (first | done | (intro hcc; exfalso; omega) | (intro hcc; omega) | omega)
    simp only [Act.put, List.setIfInBounds_toArray, List.set_cons_zero, List.set_cons_succ]
    refine wpAnyH_ready (rs := [4]) (by kernel_rfl) (by simp) ?_
    refine AllReadyH.cons rfl (fun K2 hK2 => ?_) AllReadyH.nil
    refine step_copy_row rfl 15 rfl (.tmp 12) (.tmp 14) 31 31 rfl 5 Tryz.underlying31 size5c (some ⟨w.heap.size + 1, 0, none⟩) _ 20 20 20 c rfl rfl (w.heap.size + 1) 0 (encC default) 90 N0.out.hq (bcells V1) HL1.out.1 (fun hp => ⟨rfl, ⟨g0, off0, none⟩, rfl, HV1.out _ N0.out.be⟩) HL1.out.2.1 (bcells_oneC _) ?_
    intro w3 hq3 hg3
    refine hK2.out _ _ (by trivial) (fun hHeld => ?_)
    clear hK2 K2
    refine wpAnyH_done (by kernel_rfl) ?_ _
    refine NoPanic.normal ?_
    simp only [Act.put, List.setIfInBounds_toArray, List.set_cons_zero, List.set_cons_succ]
    have n3 := H3.out _ _ N0.out hq3 hg3
    clear hq3 hg3 H3 N0 HV1 HL1
    go_upto_region 6 with (first
      | (go_at_call 95; (with_reducible refine (H80.out _ n3.be).mono ?_); rintro e5 w5 ⟨rfl, hb5⟩))
    have n5 := n3.bel hb5
    have n6 := n5.bel ((Below.refl _ w5).alloc (Nat.le_refl _) (.cells #[.int .u32 0, .int .u16 0] 88))
    generalize w5.alloc (.cells #[.int .u32 0, .int .u16 0] 88) = W6 at n6 ⊢
    obtain ⟨h91, h92, h93⟩ := n6.fin default
    have H91 := Lib.hid h91
    have H92 := Lib.hid h92
    have H93 := Lib.hid h93
    clear h91 h92 h93 n6 n5 n3 hb5 H80
    go_wp2_with (first
      | ((with_reducible refine wpList_buildG (o := ⟨some 24, _, _, _, _, _⟩) ?_ 90 rfl _ (HBU.out _) ?_); rfl)
      | ((with_reducible refine wpList_store73at (o := ⟨none, _, _, _, _, _⟩) rfl (.tmp 2) (.tmp 24) rfl w.heap.size 0 default ?_ ?_ H91.out ?_); rfl; rfl))
    refine bodyPost_ret (v := .tuple #[.agg (encC default).toArray, .int .i64 10]) ?_ rfl ?_
    · exact results_cell_tmpS (p := 2) (ty := 90) (q := 3) rfl _ _ w.heap.size 0 (encC default) _ (.int .i64 10) rfl rfl H92.out Tryz.underlying90 rfl (by rw [HLEN.out]; exact size73)
    · exact ⟨rfl, H93.out⟩
theorem rcread_any (A : Option Addr) (c : Nat) (xs : List UInt8) (w : World) (hA : BAt w w.heap.size A xs) (hc : xs.length ≤ c) :
    Calls Tryz.prog 75 #[.slice A xs.length c] w fun e w' => e = .returned (.tuple #[.agg (encC (rdK xs)).toArray, .int .i64 (rdE xs)]) ∧ Below w.heap.size w w' := by
  by_cases hx : xs.length = 26
  · rcases hA with rfl | ⟨g0, off0, rfl, hg, hcell⟩
    · cases hx
    · have := rcread_six g0 off0 c xs hx (by omega) w (.inr ⟨g0, off0, rfl, hg, hcell⟩)
      rwa [← hx] at this
  · have h : ¬ rdOk xs := fun h => hx h.1
    have hE : rdE xs = 10 := by unfold rdE; rw [if_neg h]
    have hK : rdK xs = default := by unfold rdK; rw [dif_neg h]
    rw [hE, hK]
    exact rcread_len A xs.length c hx w
end Go.Proofs.YtehgpnnfjgmiiaaGreat
end
section
namespace Go.Proofs.YtehgpnnfjgmiiaaGreat
open Go.Shelf Go.RowKit Go.Lib Go.Sort Go.Great
set_option maxRecDepth 100000
set_option maxHeartbeats 1000000
end Go.Proofs.YtehgpnnfjgmiiaaGreat
end
