/- slices.AppendSeq and slices.Collect over a sequence of the program's that yields the instances of a list. Condition: at most 10,000 instances. Live and Sweep of the program: whatever roster. Condition: at most 10,000 instances. Walk of InstBack. Conditions: the lengths together of at most 4611686018427387904 bytes. roster.Bytes of the program. Conditions: at most 10,000 instances, targets of at most 100,000 bytes. -/
import Derived.Test.YtkceipkgebgigaaGreatXZai
import Derived.Test.YtkceipkgebgigaaGreatXOsc
import Derived.Test.YtkceipkgebgigaaGreatXOqb
import Derived.Test.YtkceipkgebgigaaGreatProg
import Derived.Test.YtkceipkgebgigaaGreatXOfb
import Derived.Test.YtkceipkgebgigaaGreatXOha
import Derived.Test.YtkceipkgebgigaaGreatXIix
import Derived.Test.YtkceipkgebgigaaGreatXIil
import Derived.Deep.CutRange
import Derived.Test.YtkceipkgebgigaaGreatXObc
section
namespace Go.Proofs.YtkceipkgebgigaaGreat
open Go.Shelf Go.RowKit Go.Lib Go.Great
set_option maxRecDepth 100000
set_option maxHeartbeats 400000
theorem load22 {w : World} {a : Addr} {v : Value} (h : w.cell? a = some v) : (loadVar 22 a).run Tryz.prog w = .ok v w := by simp [loadVar, h]
/-- Behind pre: the box holds a slice that owns pre's instances. -/
def SeqI (w : World) (pre : List Ins) (W : World) : Prop := Below w.heap.size w W ∧ ∃ v, Boxed W w.heap.size 22 v ∧ W.ownsRow w.heap.size 29 28 v pre.length (flatE encI pre)
theorem seqI_own (w : World) (B : Nat) (hB : w.heap.size ≤ B) : OwnFrom B (SeqI w) := fun s X Y row h hg hr =>
  ⟨ownFrom_below (β := Unit) (Nat.le_refl _) hB () X Y row h.1 hg hr, by
    have := holdsRow_own (β := List Ins) w.heap.size w.heap.size 22 29 28 List.length (flatE encI) (fun _ _ => True)
    obtain ⟨v, h1, h2⟩ := h.2
    obtain ⟨v', h1', h2', _⟩ := this s X Y row ⟨v, h1, h2, trivial⟩ hg (fun r e => (hr r e).2)
    exact ⟨v', h1', h2'⟩⟩
theorem SeqI.of_le {w W : World} {pre : List Ins} (h : SeqI w pre W) : w.heap.size ≤ W.heap.size := h.1.size
theorem SeqI.box {w W : World} {pre : List Ins} (h : SeqI w pre W) : ∃ v, Boxed W w.heap.size 22 v ∧ W.ownsRow w.heap.size 29 28 v pre.length (flatE encI pre) := h.2
def SeqM (w : World) (T : Ins → Nat → Array Value) (pre : List Ins) (x : Ins) (a : Act) (W : World) : Prop := SeqI w pre W ∧ ∃ b5, a = { tmps := T x b5, defers := [] } ∧ W.heap[b5]? = some (.cells (encI x).toArray 29 (0, 0))
theorem appseq_any (L : List Ins) (lb : Array Value) (Sp : List Ins → Prop) (w : World) (hN : L.length ≤ 10000)
    (hseq : ∀ w', Below w.heap.size w w' → SeqStopsK Fence.wide (20 - 1) Tryz.prog 73 lb (fun x : Ins => #[.agg (encI x).toArray]) (Below w.heap.size) (fun xs => xs = L) Sp L.length w') :
    Calls Tryz.prog 74 #[.slice none 0 0, .func (.func 73) #[] lb] w fun e w' => ∃ v, e = .returned v ∧ OwnR w L w' v := by
  have HSEQ := Lib.hid hseq
  have HN := Lib.hid hN
  have hb0 : Below w.heap.size w (w.alloc (.cells #[.slice none 0 0] 22)) := (Below.refl _ w).alloc (Nat.le_refl _) _
  have hbx := Boxed.new w 22 (.slice none 0 0)
  have hsz : w.heap.size ≤ (w.alloc (.cells #[.slice none 0 0] 22)).heap.size := hb0.size
  have hi0 : SeqI w [] (w.alloc (.cells #[.slice none 0 0] 22)) := ⟨hb0, _, hbx, World.ownsRow_nil _ _ _ _⟩
  obtain ⟨W1, hW1⟩ : ∃ W1, W1 = w.alloc (.cells #[.slice none 0 0] 22) := ⟨_, rfl⟩
  have HW1 := Lib.hid hW1
  rw [← hW1] at hb0 hsz hi0
  have HI0 := Lib.hid hi0
  have HB0 := Lib.hid hb0
  have HSZ0 := Lib.hid hsz
  clear hb0 hbx hseq hN hsz hi0 hW1
  refine (callsIn_wide (n := 20)).1 ?_
  refine callsIn_of_wp_marks Tryz.func74 rfl trivial ?_ rfl
  simp only [Tryz.ntmps74, List.size_toArray, List.length_cons, List.length_nil, Nat.reduceAdd, Nat.reduceSub, Array.replicate_succ, Array.replicate_zero, List.push_toArray, List.append_toArray, List.nil_append, List.cons_append]
  gi_wp2
  rw [← HW1.out]
  have hsz := HSZ0.out
  refine wpIn_each (encs := fun x => #[.agg (encI x).toArray]) (n₀ := w.heap.size) rfl (by omega) (gf := 73) (lb := lb) rfl trivial (enters_of Tryz.func73 (by kernel_rfl) rfl) hsz
    (HSEQ.out W1 HB0.out) (Below.refl _ _) (fun _ => rfl)
    (fun x => #[.slice none 0 0, .func (.func 73) #[] lb, .pointer (some ⟨w.heap.size, 0, none⟩), undef, .slice none 0 0, undef, .func (.func 73) #[] lb, .agg (encI x).toArray, undef, undef, undef, undef, undef]) (fun x => by simp) (SeqI w)
    (SeqM w (fun x b5 => #[.slice none 0 0, .func (.func 73) #[] lb, .pointer (some ⟨w.heap.size, 0, none⟩), undef, .slice none 0 0, .pointer (some ⟨b5, 0, none⟩), .func (.func 73) #[] lb, .agg (encI x).toArray, undef, undef, undef, undef, undef]))
    (seqI_own w _ hsz)
    (fun q A B row h hg hr => by
      obtain ⟨h1, b6, e6, h6⟩ := h
      exact ⟨seqI_own w _ hsz _ _ _ _ h1 hg hr, b6, e6, (grownBy_keeps_cells hg (fun r e => (hr r e).2) h6 rfl).trans h6⟩)
    HI0.out ?assign ?body ?done
  case assign =>
    intro l pre x W K hI hK
    have hsem := Oper.semAt_some l
    have HI := Lib.hid hI
    have HKK := Lib.hid hK
    clear hI hK
    gi_wp2_with (first
      | (with_reducible refine wpListIn_alloc28 (o := ⟨some 5, _, _, _, _, _⟩) W.heap.size rfl rfl 5 rfl rfl ?_)
      | ((with_reducible refine wpListIn_store28n (o := ⟨none, _, _, _, _, _⟩) rfl (.tmp 5) (.tmp 7) rfl W.heap.size rfl zeroI x ?_ ?_ ?_); rfl; rfl))
    exact HKK.out _ _ ⟨(seqI_own w _ (Nat.le_refl _)).alloc _ HI.out, W.heap.size, rfl, heap_alloc_new W _⟩ (KeepsOthers.alloc W _) ((Below.refl _ W).alloc HI.out.of_le _)
  case body =>
    rintro l pre x a1 W hlt ⟨hi, b5, rfl, h5⟩
    have hsem := Oper.semAt_some l
    obtain ⟨v, hv, hrow⟩ := hi.box
    have HLE := Lib.hid hi.of_le
    have HBL := Lib.hid hi.1
    have HC := Lib.hid (load22 hv.cell)
    have H5 := Lib.hid (load28 (row_range h5))
    have HV := Lib.hid hv
    have HR := Lib.hid hrow
    have HS := Lib.hid (src_newI insT x W)
    have HLT : Hid (pre.length + [x].length ≤ 1000000) := Lib.hid (by have := HN.out; simp; omega)
    have HSZ : Hid (w.heap.size ≤ (W.alloc (.cells (encI x).toArray 29)).heap.size) := Lib.hid (by have := hi.of_le; simp; omega)
    clear hi hv hrow h5 hlt
    gi_wp2_with (first
      | ((with_reducible refine wpListIn_loadV (o := ⟨some 8, _, _, _, _, _⟩) rfl 22 (.tmp 2) rfl _ ?_ _ HC.out ?_); rfl)
      | ((with_reducible refine wpListIn_loadV (o := ⟨some 9, _, _, _, _, _⟩) rfl 29 (.tmp 5) rfl _ ?_ _ H5.out ?_); rfl)
      | ((with_reducible refine wpListIn_build_oneI (o := ⟨some 10, _, _, _, _, _⟩) insT x rfl (.tmp 9) rfl ?_ ?_); rfl)
      | (gi_at_builtin; (refine wpListIn_append_ins (o := ⟨some 11, _, _, _, _, _⟩) insT rfl (.tmp 8) (.tmp 10) rfl w.heap.size v pre [x] ?_ (HR.out.alloc _) _ ?_ HS.out HLT.out HSZ.out ?_); rfl; rfl; intro v' w1 hown' hgrow; rw [List.length_append] at hown'; obtain ⟨g', cap', rfl⟩ := ownsRow_succ hown'; obtain ⟨hv1, hv2, hr2, hk2, hb2⟩ := HV.out.appended (by decide) HR.out HLE.out (Nat.le_refl _) hown' hgrow; have hc1 := hv1.cell; have hf1 := hv1.frozen))
    exact ⟨HBL.out.trans hb2, _, hv2, by rw [List.length_append]; exact hr2⟩
  case done =>
    rintro D xs W hD rfl hi hK
    obtain ⟨v, hv, hrow⟩ := hi.box
    have HC := Lib.hid (load22 hv.cell)
    have HR := Lib.hid hrow
    have HKD := Lib.hid hK
    have HBL := Lib.hid hi.1
    clear hi hv hrow hK
    gi_wp2_with (first
      | ((with_reducible refine wpListIn_loadV (o := ⟨some 12, _, _, _, _, _⟩) rfl 22 (.tmp 2) rfl _ ?_ _ HC.out ?_); rfl))
    refine ⟨by simp, .inl ⟨_, _, rfl, run_takeDeferred HKD.out, ?_⟩⟩
    exact ⟨_, results_tmp rfl _ _ _, v, rfl, ownsRow_putObj HR.out _ HKD.out rfl, HBL.out.trans (belowK_b (w := w) (Nat.le_refl _) W D _ _ (by omega) HKD.out rfl rfl)⟩
theorem collect_any (L : List Ins) (lb : Array Value) (Sp : List Ins → Prop) (w : World) (hN : L.length ≤ 10000)
    (hseq : ∀ w', Below w.heap.size w w' → SeqStopsK Fence.wide (20 - 1) Tryz.prog 73 lb (fun x : Ins => #[.agg (encI x).toArray]) (Below w.heap.size) (fun xs => xs = L) Sp L.length w') :
    Calls Tryz.prog 40 #[.func (.func 73) #[] lb] w fun e w' => ∃ v, e = .returned v ∧ OwnR w L w' v := by
  have HA := Lib.hid (appseq_any L lb Sp w hN hseq)
  clear hseq hN
  go_enter Tryz.func40, Tryz.ntmps40
  go_wp2_with (first
    | (go_at_call 74; (with_reducible refine HA.out.mono ?_); rintro e w1 ⟨v, rfl, ho⟩; have HO := Lib.hid ho; obtain ⟨A1, c1, rfl, -⟩ := OwnR.form ho; clear ho))
  go_ret
  exact ⟨_, rfl, HO.out⟩
end Go.Proofs.YtkceipkgebgigaaGreat
end
section
namespace Go.Proofs.YtkceipkgebgigaaGreat
open Go.Shelf Go.RowKit Go.Lib Go.Great
set_option maxRecDepth 100000
set_option maxHeartbeats 400000
theorem heap3 (w : World) (a b c : Obj) : ((((w.alloc a).alloc b).alloc c)).heap[w.heap.size]? = some a ∧ ((((w.alloc a).alloc b).alloc c)).heap[w.heap.size + 1]? = some b ∧ ((((w.alloc a).alloc b).alloc c)).heap[w.heap.size + 1 + 1]? = some c ∧ Below w.heap.size w ((((w.alloc a).alloc b).alloc c)) ∧ ((((w.alloc a).alloc b).alloc c)).heap.size = w.heap.size + 3 := by
  refine ⟨?_, ?_, ?_, (((Below.refl _ w).alloc (Nat.le_refl _) _).alloc (by simp) _).alloc (by simp; omega) _, by simp⟩
  all_goals
    show (((w.heap.push a).push b).push c)[_]? = _
    simp only [Array.getElem?_push, Array.size_push]
    repeat (first | rw [if_pos trivial] | rw [if_pos (by omega)] | rw [if_neg (by omega)])
theorem live_any (A : Option Addr) (c : Nat) (L : List Ins) (now : Nat) (w : World) (hl : L.length ≤ 10000) (hA : IAt w w.heap.size A L) :
    Calls Tryz.prog 18 #[.slice A L.length c, .int .u64 (now : Int)] w fun e w' => ∃ v, e = .returned v ∧ OwnR w (L.filter (liveI now)) w' v := by
  have HCH := Lib.hid (chosen_any A L.length c (.func (.func 41) #[] #[.pointer (some ⟨w.heap.size, 0, none⟩)]) ⟨_, _, rfl⟩ (w.alloc (.cells #[.int .u64 (now : Int)] 25)))
  obtain ⟨k1, k2, k3, kb, ks⟩ := heap3 w (.cells #[.int .u64 (now : Int)] 25) (.cells #[.slice A L.length c] 22) (.cells #[.func (.func 41) #[] #[.pointer (some ⟨w.heap.size, 0, none⟩)]] 47)
  obtain ⟨W3, hW3⟩ : ∃ W3, W3 = (((w.alloc (.cells #[.int .u64 (now : Int)] 25)).alloc (.cells #[.slice A L.length c] 22)).alloc (.cells #[.func (.func 41) #[] #[.pointer (some ⟨w.heap.size, 0, none⟩)]] 47)) := ⟨_, rfl⟩
  have HW3 := Lib.hid hW3
  rw [← hW3] at k1 k2 k3 kb ks
  have hlf : (L.filter (liveI now)).length ≤ 10000 := Nat.le_trans (List.length_filter_le _ _) hl
  have hsz : w.heap.size ≤ W3.heap.size := kb.size
  have hA3 : IAt W3 W3.heap.size A L := (hA.below kb).more hsz
  have HCO : Hid (Calls Tryz.prog 40 #[.func (.func 73) #[] #[.pointer (some ⟨w.heap.size + 1, 0, none⟩), .pointer (some ⟨w.heap.size + 1 + 1, 0, none⟩)]] W3 fun e w' => ∃ v, e = .returned v ∧ OwnR W3 (L.filter (liveI now)) w' v) :=
    Lib.hid (collect_any (L.filter (liveI now)) _ (fun pre => pre <+: L.filter (liveI now)) W3 hlf (fun w' hw' =>
      chosen_stops_live (20 - 1) (by omega) A c L (liveI now) #[.pointer (some ⟨w.heap.size, 0, none⟩)] (w.heap.size + 1) (w.heap.size + 1 + 1) W3.heap.size w' (by omega) hw'.size (by omega) (by omega)
        (Boxed.cell ((hw'.block _ (by omega)).trans k2)) (Boxed.cell ((hw'.block _ (by omega)).trans k3)) (hA3.below hw')
        (fun x W hW => live1_any x now w.heap.size W ((hW.block _ (by omega)).trans ((hw'.block _ (by omega)).trans k1)))))
  have HKB := Lib.hid kb
  clear k1 k2 k3 kb ks hW3 hlf hA3 hA hl hsz
  generalize L.filter (liveI now) = M at *
  generalize L.length = n at *
  go_enter Tryz.func18, Tryz.ntmps18
  go_wp2_with (first
    | (go_at_call 36; (with_reducible refine HCH.out.mono ?_); rintro e w1 ⟨rfl, hw1⟩; (have e3 : w1 = W3 := hw1.trans (by rw [HW3.out]); clear hw1; subst e3))
    | (go_at_call 40; (with_reducible refine HCO.out.mono ?_); rintro e w4 ⟨v, rfl, ho⟩; have HO := Lib.hid ho; obtain ⟨A1, c1, rfl, -⟩ := OwnR.form ho; clear ho))
  go_ret
  exact ⟨_, rfl, HO.out.weak HKB.out⟩
theorem sweep_any (A : Option Addr) (c : Nat) (L : List Ins) (now : Nat) (w : World) (hl : L.length ≤ 10000) (hA : IAt w w.heap.size A L) :
    Calls Tryz.prog 20 #[.slice A L.length c, .int .u64 (now : Int)] w fun e w' => ∃ v, e = .returned v ∧ OwnR w (L.filter (swepI now)) w' v := by
  have HCH := Lib.hid (chosen_any A L.length c (.func (.func 44) #[] #[.pointer (some ⟨w.heap.size, 0, none⟩)]) ⟨_, _, rfl⟩ (w.alloc (.cells #[.int .u64 (now : Int)] 25)))
  obtain ⟨k1, k2, k3, kb, ks⟩ := heap3 w (.cells #[.int .u64 (now : Int)] 25) (.cells #[.slice A L.length c] 22) (.cells #[.func (.func 44) #[] #[.pointer (some ⟨w.heap.size, 0, none⟩)]] 47)
  obtain ⟨W3, hW3⟩ : ∃ W3, W3 = (((w.alloc (.cells #[.int .u64 (now : Int)] 25)).alloc (.cells #[.slice A L.length c] 22)).alloc (.cells #[.func (.func 44) #[] #[.pointer (some ⟨w.heap.size, 0, none⟩)]] 47)) := ⟨_, rfl⟩
  have HW3 := Lib.hid hW3
  rw [← hW3] at k1 k2 k3 kb ks
  have hlf : (L.filter (swepI now)).length ≤ 10000 := Nat.le_trans (List.length_filter_le _ _) hl
  have hsz : w.heap.size ≤ W3.heap.size := kb.size
  have hA3 : IAt W3 W3.heap.size A L := (hA.below kb).more hsz
  have HCO : Hid (Calls Tryz.prog 40 #[.func (.func 73) #[] #[.pointer (some ⟨w.heap.size + 1, 0, none⟩), .pointer (some ⟨w.heap.size + 1 + 1, 0, none⟩)]] W3 fun e w' => ∃ v, e = .returned v ∧ OwnR W3 (L.filter (swepI now)) w' v) :=
    Lib.hid (collect_any (L.filter (swepI now)) _ (fun pre => pre <+: L.filter (swepI now)) W3 hlf (fun w' hw' =>
      chosen_stops_sweep (20 - 1) (by omega) A c L (swepI now) #[.pointer (some ⟨w.heap.size, 0, none⟩)] (w.heap.size + 1) (w.heap.size + 1 + 1) W3.heap.size w' (by omega) hw'.size (by omega) (by omega)
        (Boxed.cell ((hw'.block _ (by omega)).trans k2)) (Boxed.cell ((hw'.block _ (by omega)).trans k3)) (hA3.below hw')
        (fun x W hW => sweep1_any x now w.heap.size W ((hW.block _ (by omega)).trans ((hw'.block _ (by omega)).trans k1)))))
  have HKB := Lib.hid kb
  clear k1 k2 k3 kb ks hW3 hlf hA3 hA hl hsz
  generalize L.filter (swepI now) = M at *
  generalize L.length = n at *
  go_enter Tryz.func20, Tryz.ntmps20
  go_wp2_with (first
    | (go_at_call 36; (with_reducible refine HCH.out.mono ?_); rintro e w1 ⟨rfl, hw1⟩; (have e3 : w1 = W3 := hw1.trans (by rw [HW3.out]); clear hw1; subst e3))
    | (go_at_call 40; (with_reducible refine HCO.out.mono ?_); rintro e w4 ⟨v, rfl, ho⟩; have HO := Lib.hid ho; obtain ⟨A1, c1, rfl, -⟩ := OwnR.form ho; clear ho))
  go_ret
  exact ⟨_, rfl, HO.out.weak HKB.out⟩
end Go.Proofs.YtkceipkgebgigaaGreat
end
section
namespace Go.Proofs.YtkceipkgebgigaaGreat
open Go.Shelf Go.RowKit Go.Lib Go.Great
set_option maxRecDepth 100000
set_option maxHeartbeats 4000000
theorem wpList_appN {ops : Array Oper} {rest : List Oper} {o : Oper} {a : Act} {w : World} {Q : Exit → Act → World → Prop} (hgd : o.guard = none) (d : Nat) (hd : o.dst = some d) (s x : Operand)
    (ho : o.op = .call { callee := .builtin .append, args := #[s, x], argTypes := #[34, 34] })
    (base : Nat) (v : Value) (L : List UInt8) (hs : a.eval s = v) (hown : w.ownsRow base 5 1 v L.length (bcells L)) (y : Value) (M : List UInt8) (hx : a.eval x = y) (hr : Src Tryz.prog 1 34 y M.length (bcells M) w) (h63 : L.length + M.length ≤ 10000000) (hbase : base ≤ w.heap.size)
    (N : List UInt8) (m : Nat) (hN : L ++ M = N) (hm : N.length = m)
    (h : ∀ A' c' w', w'.ownsRow base 5 1 (.slice A' m c') N.length (bcells N) → w.grownBy w' v.ownBlock → wpList Tryz.prog ops Q rest (a.put (some d) (.slice A' m c')) w') :
    wpList Tryz.prog ops Q (o :: rest) a w := by
  subst hN hm
  exact wpList_appB hgd d hd s x ho base v L hs hown y M hx hr h63 hbase h
end Go.Proofs.YtkceipkgebgigaaGreat
end
section
namespace Go.Proofs.YtkceipkgebgigaaGreat
open Go.Shelf Go.RowKit Go.Lib Go.Great
set_option maxRecDepth 100000
set_option maxHeartbeats 400000
/-- The bytes of the first k of a roster. -/
def upR (L : List Ins) (k : Nat) : List UInt8 := putB L.length 1 ++ (L.take k).flatMap byI
/-- The bytes of a roster. -/
def byR (L : List Ins) : List UInt8 := if goodR L then upR L L.length else []
def errR (L : List Ins) : Int := if goodR L then 0 else 2
theorem upR_succ (L : List Ins) (k : Nat) (h : k < L.length) : upR L k ++ byI L[k]! = upR L (k + 1) := by
  unfold upR
  have e : L.take (k + 1) = L.take k ++ [L[k]] := by rw [List.take_add_one, List.getElem?_eq_getElem h]; rfl
  rw [e, getElem!_pos L k h, List.flatMap_append]
  simp
theorem byI_len4 (i : Ins) : (byI i).length ≤ 400 := by
  unfold byI
  split
  · rename_i h
    have := goodI_len h
    unfold bytesI headB
    split <;> simp [putB_length, i.hp] <;> omega
  · simp
theorem upR_len (L : List Ins) (k : Nat) : (upR L k).length ≤ 1 + k * 400 := by
  unfold upR
  rw [List.length_append, putB_length]
  have : ∀ M : List Ins, (M.flatMap byI).length ≤ M.length * 400 := fun M => by
    induction M with
    | nil => simp
    | cons y M ih => rw [List.flatMap_cons, List.length_append, List.length_cons]; have := byI_len4 y; omega
  have h := this (L.take k)
  rw [List.length_take] at h
  have : min k L.length * 400 ≤ k * 400 := Nat.mul_le_mul_right _ (Nat.min_le_left _ _)
  omega
theorem rbytes_bad (A : Option Addr) (c : Nat) (L : List Ins) (w : World) (ht : ∀ y ∈ L, y.tgt.length ≤ 100000) (hA : IAt w w.heap.size A L) (hg : goodR L = false) :
    Calls Tryz.prog 8 #[.slice A L.length c] w fun e w' => ∃ v, e = .returned (.tuple #[v, .int .i64 (errR L)]) ∧ IsB v (byR L) w' ∧ Below w.heap.size w w' := by
  have HG := Lib.hid (gd_any A c L w ht hA)
  rw [hg] at HG
  have HN : Hid (errR L = 2 ∧ byR L = []) := Lib.hid (by unfold errR byR; rw [hg]; exact ⟨rfl, rfl⟩)
  rw [HN.out.1, HN.out.2]
  clear ht hA hg
  go_enter Tryz.func8, Tryz.ntmps8
  go_wp2_with (first | (go_at_call 13; (with_reducible refine HG.out.mono ?_); rintro e w1 ⟨rfl, hb1⟩))
  go_ret2
  exact ⟨_, rfl, IsB.nil _, hb1⟩
theorem byI_good {i : Ins} (h : goodI i = true) : errI i = 0 := by unfold errI; rw [if_pos h]
theorem rbytes_good (A : Option Addr) (c : Nat) (L : List Ins) (w : World) (ht : ∀ y ∈ L, y.tgt.length ≤ 100000) (hA : IAt w w.heap.size A L) (hg : goodR L = true) :
    Calls Tryz.prog 8 #[.slice A L.length c] w fun e w' => ∃ v, e = .returned (.tuple #[v, .int .i64 (errR L)]) ∧ IsB v (byR L) w' ∧ Below w.heap.size w w' := by
  have hl := ((goodR_iff L).1 hg).1
  have HG := Lib.hid (gd_any A c L w ht hA)
  rw [hg] at HG
  have HN : Hid (errR L = 0 ∧ byR L = upR L L.length) := Lib.hid (by unfold errR byR; rw [hg]; exact ⟨rfl, rfl⟩)
  rw [HN.out.1, HN.out.2]
  have HPUT : Hid (∀ W, Below w.heap.size w W → Calls Tryz.prog 33 #[.slice none 0 0, .int .u64 (L.length : Int), .int .i64 1] W fun e w' => ∃ v, e = .returned v ∧ w'.ownsRow w.heap.size 5 1 v (upR L 0).length (bcells (upR L 0)) ∧ Below w.heap.size w w') := Lib.hid (fun W hW => by
    refine (put_yes none 0 L.length 1 [] W (.inl rfl) (by simp) (by omega) (by omega) (by omega)).mono ?_
    rintro e w' ⟨v, rfl, ho, hb⟩
    have e0 : upR L 0 = [] ++ putB L.length 1 := by unfold upR; simp
    rw [e0]
    exact ⟨v, rfl, own_baseC ho hW.size, hW.trans (hb.mono hW.size)⟩)
  have HLD : Hid (∀ k, k < L.length → ∃ g off, A = some ⟨g, off, none⟩ ∧ ∀ W, Below w.heap.size w W → (loadVar 29 ⟨g, off + k * 28, none⟩).run Tryz.prog W = .ok (.agg (encI L[k]!).toArray) W) := Lib.hid (fun k hk => by
    rcases hA with e | ⟨g, off, e, hgl, hr⟩
    · rw [e] at hk; simp at hk
    · exact ⟨g, off, e, fun W hW => row_load hr hgl hW hk⟩)
  have HBY : Hid (∀ k, k < L.length → ∀ W, Calls Tryz.prog 34 #[.agg (encI L[k]!).toArray] W fun e w' => ∃ v, e = .returned (.tuple #[v, .int .i64 0]) ∧ IsB v (byI L[k]!) w' ∧ Below W.heap.size W w') := Lib.hid (fun k hk W => by
    have hgk : goodI L[k]! = true := by
      have := ((goodR_iff L).1 hg).2 k hk
      unfold okAt at this
      rw [Bool.and_eq_true] at this
      exact this.1
    have := ibytes_any L[k]! (ht _ (by rw [getElem!_pos L k hk]; exact List.getElem_mem hk)) W
    rw [byI_good hgk] at this
    exact this)
  have HUP : Hid (∀ k, k < L.length → upR L k ++ byI L[k]! = upR L (k + 1) ∧ (upR L k).length + (byI L[k]!).length ≤ 10000000) := Lib.hid (fun k hk => ⟨upR_succ L k hk, by have := upR_len L k; have := byI_len4 L[k]!; omega⟩)
  clear HN
  generalize hn : L.length = n at *
  have hnu : (n : Int) % 18446744073709551616 = (n : Int) := by omega
  clear hA ht hg
  go_enter Tryz.func8, Tryz.ntmps8
  go_upto_region 5 with (first
    | (go_at_call 13; (with_reducible refine HG.out.mono ?_); rintro e w1 ⟨rfl, hb1⟩)
    | (go_at_call 33; (with_reducible refine (HPUT.out _ hb1).mono ?_); rintro e2 w2 ⟨v, rfl, ho2, hb2⟩))
  have HO2 := Lib.hid ho2
  have HB2 := Lib.hid hb2
  clear ho2 hb2 hb1 HG HPUT
  go_loopw [4, 18] (fun v0 i wr => ∃ (k : Nat) (v : Value), v0 = v ∧ i = .int .i64 (k : Int) ∧ k ≤ n ∧ wr.ownsRow w.heap.size 5 1 v (upR L k).length (bcells (upR L k)) ∧ Below w.heap.size w wr) (fun _ i _ => n - (RowKit.intOf i).toNat)
  case atStart => exact ⟨0, _, rfl, rfl, by omega, HO2.out, HB2.out⟩
  case round =>
    obtain ⟨k, v4, hv4, rfl, hk, ho, hbr⟩ := hrel
    obtain rfl := hv4.symm
    clear HO2 HB2
    by_cases hlt : k < n
    · have hlt' : (k : Int) < (n : Int) := by omega
      obtain ⟨g, off, rfl, hld⟩ := HLD.out k hlt
      have HLV := Lib.hid (hld wr hbr)
      have HB := Lib.hid (HBY.out k hlt)
      obtain ⟨hup, hul⟩ := HUP.out k hlt
      obtain ⟨Y, hY⟩ : ∃ Y : Ins, Y = L[k]! := ⟨_, rfl⟩
      rw [← hY] at HLV HB hup hul
      have HUPk := Lib.hid hup
      have HULk := Lib.hid hul
      have hbn : Below wr.heap.size wr (wr.alloc (.cells (encI Y).toArray 29)) := (Below.refl _ wr).alloc (Nat.le_refl _) _
      have HLK : Hid ((loadVar 29 ⟨wr.heap.size, 0, none⟩).run Tryz.prog (wr.alloc (.cells (encI Y).toArray 29)) = .ok (.agg (encI Y).toArray) (wr.alloc (.cells (encI Y).toArray 29))) := Lib.hid (load28 (row_range (heap_alloc_new wr _)))
      have HOW : Hid (∀ W, Below (wr.alloc (.cells (encI Y).toArray 29)).heap.size (wr.alloc (.cells (encI Y).toArray 29)) W → W.ownsRow w.heap.size 5 1 v4 (upR L k).length (bcells (upR L k)) ∧ Below w.heap.size w W ∧ w.heap.size ≤ W.heap.size) := Lib.hid (fun W hW => by
        have h1 := hbn.trans (hW.mono hbn.size)
        exact ⟨ho.kept (grown_of_bel h1 none) (by cases v4.ownBlock <;> simp), hbr.trans (h1.mono hbr.size), Nat.le_trans hbr.size h1.size⟩)
      have HOB : Hid (∀ q, v4.ownBlock = some q → w.heap.size ≤ q) := Lib.hid (fun q hq => (ho.lt q hq).1)
      have HSRC : Hid (∀ W v, IsB v (byI Y) W → Src Tryz.prog 1 34 v (byI Y).length (bcells (byI Y)) W) := Lib.hid (fun W v hi => by
        obtain ⟨A', c', rfl, _, hA'⟩ := hi
        exact hA'.src Tryz.underlying34 c')
      have HNX : Hid (∀ W A' c' w', Below (wr.alloc (.cells (encI Y).toArray 29)).heap.size (wr.alloc (.cells (encI Y).toArray 29)) W → w'.ownsRow w.heap.size 5 1 (.slice A' (upR L (k + 1)).length c') (upR L (k + 1)).length (bcells (upR L (k + 1))) → W.grownBy w' v4.ownBlock → ∃ (k' : Nat) (v : Value), Value.slice A' (upR L (k + 1)).length c' = v ∧ Value.int .i64 ((k : Int) + 1) = .int .i64 (k' : Int) ∧ k' ≤ n ∧ w'.ownsRow w.heap.size 5 1 v (upR L k').length (bcells (upR L k')) ∧ Below w.heap.size w w') := Lib.hid (fun W A' c' w' hW ho' hg' => by
        obtain ⟨_, q2, q3⟩ := HOW.out W hW
        exact ⟨k + 1, _, rfl, by simp, by omega, ho', below_ownB q2 q3 hg' HOB.out⟩)
      clear hY hld hup hul hbn ho hbr HLD HBY HUP
      go_wp2_with (first
        | ((with_reducible refine wpList_loadV (op := ⟨some 21, _, _, _, _, _⟩) rfl 29 (.tmp 20) rfl _ ?_ _ HLV.out ?_); rfl)
        | (with_reducible refine wpList_alloc28 (o := ⟨some 6, _, _, _, _, _⟩) wr.heap.size rfl rfl 6 rfl rfl ?_)
        | ((with_reducible refine wpList_store28n (o := ⟨none, _, _, _, _, _⟩) rfl (.tmp 6) (.tmp 21) rfl wr.heap.size rfl zeroI Y ?_ ?_ ?_); rfl; rfl)
        | ((with_reducible refine wpList_loadV (op := ⟨some 23, _, _, _, _, _⟩) rfl 29 (.tmp 6) rfl _ ?_ _ HLK.out ?_); rfl)
        | (go_at_call 34; (with_reducible refine (HB.out _).mono ?_); rintro e5 w5 ⟨v5, rfl, hi5, hb5⟩)
        | (at_builtin; (refine wpList_appN (o := ⟨some 29, _, _, _, _, _⟩) rfl 29 rfl (.tmp 27) (.tmp 28) rfl w.heap.size v4 (upR L k) ?_ (HOW.out _ hb5).1 v5 (byI Y) ?_ (HSRC.out _ _ hi5) HULk.out (HOW.out _ hb5).2.2 (upR L (k + 1)) (upR L (k + 1)).length HUPk.out rfl ?_); rfl; rfl; intro A6 c6 w6 ho6 hg6))
      go_roundw
      case rel => exact HNX.out _ _ _ _ hb5 ho6 hg6
      case measure => simp [RowKit.intOf]; omega
    · obtain rfl : k = n := by omega
      have hlt' : ¬ (k : Int) < (k : Int) := by omega
      have HI := Lib.hid (IsB.of_own ho)
      have HBR := Lib.hid hbr
      clear HLD HBY HUP ho hbr
      go_wp2
      go_ret2
      exact ⟨_, rfl, HI.out, HBR.out⟩
/-- Bytes of the program. -/
theorem rosbytes_any (A : Option Addr) (c : Nat) (L : List Ins) (w : World) (ht : ∀ y ∈ L, y.tgt.length ≤ 100000) (hA : IAt w w.heap.size A L) :
    Calls Tryz.prog 8 #[.slice A L.length c] w fun e w' => ∃ v, e = .returned (.tuple #[v, .int .i64 (errR L)]) ∧ IsB v (byR L) w' ∧ Below w.heap.size w w' := by
  cases hg : goodR L with
  | false => exact rbytes_bad A c L w ht hA hg
  | true => exact rbytes_good A c L w ht hA hg
end Go.Proofs.YtkceipkgebgigaaGreat
end
