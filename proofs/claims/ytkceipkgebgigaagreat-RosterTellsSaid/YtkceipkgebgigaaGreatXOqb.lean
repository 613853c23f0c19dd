/- Walk of RosterMerges. Condition: lengths that an int holds. Rows that grow; with of the reference, plain. No condition. first of the reference. Condition: at least one instance, a length that an int holds. Good of the reference: rosters. Conditions: at most 10,000 instances, targets of at most 100,000 bytes. -/
import Derived.Test.YtkceipkgebgigaaGreatProg
import Derived.Test.YtkceipkgebgigaaGreatXOhd
import Derived.Test.YtkceipkgebgigaaGreatXIix
import Derived.Test.YtkceipkgebgigaaGreatXIil
import Derived.Test.YtkceipkgebgigaaGreatXOsc
import Derived.Test.YtkceipkgebgigaaGreatXOpb
import Derived.Test.YtkceipkgebgigaaGreatXIig
import Derived.Test.YtkceipkgebgigaaGreatXObc
section
namespace Go.Proofs.YtkceipkgebgigaaGreat
open Go.Shelf Go.RowKit Go.Lib Go.Great
set_option maxRecDepth 100000
set_option maxHeartbeats 400000
theorem IAt.src {w : World} {B : Nat} {A : Option Addr} {L : List Ins} {t e : TypeId} (hT : InsT t e) (h : IAt w B A L) (c : Nat) : Src Tryz.prog 28 t (.slice A L.length c) L.length (flatE encI L) w := by
  cases A with
  | none =>
    rcases h with rfl | ⟨g, off, e, _⟩
    · exact Src.ofNil w hT.und c
    · cases e
  | some x =>
    refine Src.ofSlice w hT.und x L.length c (flatE encI L) (by rw [flatE_length encI_length]) (fun j u hu => ?_) (flatE_one _)
    rcases h with rfl | ⟨g, off, e, _, hr⟩
    · simp [flatE] at hu
    · injection e with e
      subst e
      rw [Addr.add_mid]
      exact hr j u hu
theorem wpList_build_noneI {t e : TypeId} (hT : InsT t e) {w : World} {ops : Array Oper} {rest : List Oper} {o : Oper} {a : Act} {Q : Exit → Act → World → Prop} (hgd : o.guard = none) (ho : o.op = .buildSlice t 0 #[])
    (h : wpList Tryz.prog ops Q rest (a.put o.dst (.slice (some ⟨w.heap.size, 0, none⟩) 0 0)) (w.alloc (.cells #[] e))) : wpList Tryz.prog ops Q (o :: rest) a w :=
  wpList_plain hgd fun _ hK => by
    unfold Oper.wp execOp
    simp only [ho, List.map_toArray, List.map_nil, Sem.run_bind, run_build_noneI hT, Result.andThen_ok, Sem.run_pure]
    exact hK _ _ h
theorem OwnR.be {w W : World} {M : List Ins} {v : Value} (h : OwnR w M W v) : Below w.heap.size w W := h.2
theorem OwnR.weak {w W W' : World} {M : List Ins} {v : Value} (h : OwnR W M W' v) (hb : Below w.heap.size w W) : OwnR w M W' v := ⟨own_baseC h.1 hb.size, hb.trans (h.2.mono hb.size)⟩
/-- A function of the program tells b, whatever has been made, and makes only what is its own. -/
def Tells (w : World) (f : Nat) (args : Array Value) (b : Bool) : Prop := ∀ W, Below w.heap.size w W → Calls Tryz.prog f args W fun e w' => e = .returned (.bool b) ∧ Below w.heap.size w w'
theorem light_tells (A : Option Addr) (c : Nat) (L : List Ins) (w : World) (hL : L.length ≤ 9223372036854775807) (hA : IAt w w.heap.size A L) : Tells w 4 #[.slice A L.length c] (lightR L) := fun W hW =>
  (light_any A c L W hL ((hA.below hW).more hW.size)).mono (by rintro e w' ⟨rfl, hb⟩; exact ⟨rfl, hW.trans (hb.mono hW.size)⟩)
theorem gd_tells (A : Option Addr) (c : Nat) (L : List Ins) (w : World) (ht : ∀ y ∈ L, y.tgt.length ≤ 300) (hA : IAt w w.heap.size A L) : Tells w 13 #[.slice A L.length c] (goodR L) := fun W hW =>
  (gd_any A c L W (fun y hy => by have := ht y hy; omega) ((hA.below hW).more hW.size)).mono (by rintro e w' ⟨rfl, hb⟩; exact ⟨rfl, hW.trans (hb.mono hW.size)⟩)
end Go.Proofs.YtkceipkgebgigaaGreat
end
section
namespace Go.Proofs.YtkceipkgebgigaaGreat
open Go.Shelf Go.RowKit Go.Lib Go.Great
set_option maxRecDepth 100000
set_option maxHeartbeats 400000
theorem src_newI {t e : TypeId} (hT : InsT t e) (x : Ins) (w : World) : Src Tryz.prog 28 t (.slice (some ⟨w.heap.size, 0, none⟩) 1 1) 1 (flatE encI [x]) (w.alloc (.cells (encI x).toArray e)) := by
  refine Src.ofSlice _ hT.und _ 1 1 (flatE encI [x]) (by rw [flatE_length encI_length]; rfl) (fun j u hu => ?_) (flatE_one _)
  rw [Addr.add_mid]
  have e1 : flatE encI [x] = encI x := by unfold flatE; simp
  rw [e1] at hu
  exact row_range (heap_alloc_new w (.cells (encI x).toArray e)) j u hu
/-- A row of its own beyond what was there. -/
structure GroR (w1 : World) (W : World) (v : Value) (o : List Ins) : Prop where
  be : Below w1.heap.size w1 W
  own : W.ownsRow w1.heap.size 29 28 v o.length (flatE encI o)
section
variable {w1 W W' : World} {v v' : Value} {o : List Ins}
theorem GroR.start (w1 : World) : GroR w1 w1 (.slice none 0 0) [] := ⟨Below.refl _ _, World.ownsRow_nil w1 _ 29 28⟩
theorem GroR.bel (h : GroR w1 W v o) (hb : Below W.heap.size W W') : GroR w1 W' v o := ⟨h.be.trans (hb.mono h.be.size), own_bel h.own hb⟩
theorem GroR.lay (h : GroR w1 W v o) (x : Ins) : GroR w1 (W.alloc (.cells (encI x).toArray 29)) v o ∧ w1.heap.size ≤ (W.alloc (.cells (encI x).toArray 29)).heap.size := by
  have h2 := h.bel ((Below.refl _ W).alloc (Nat.le_refl _) (.cells (encI x).toArray 29))
  exact ⟨h2, h2.be.size⟩
theorem GroR.push (h : GroR w1 W v o) (M : List Ins) (hg : W.grownBy W' v.ownBlock) (ho : W'.ownsRow w1.heap.size 29 28 v' (o ++ M).length (flatE encI (o ++ M))) : GroR w1 W' v' (o ++ M) :=
  ⟨below_ownB h.be h.be.size hg (fun k hk => (h.own.lt k hk).1), ho⟩
theorem GroR.out {w : World} (h : GroR w1 W v o) (hb : Below w.heap.size w w1) : OwnR w o W v := ⟨own_baseC h.own hb.size, hb.trans (h.be.mono hb.size)⟩
end
/-- What with has, and whether the new one is there, when k have been looked at. -/
def wthK (L : List Ins) (x : Ins) : Nat → List Ins × Bool
  | 0 => ([], false)
  | k + 1 => ((if L[k]!.pub == x.pub then (if !(wthK L x k).2 && !decide (cmpP L[k]! x < 0) then (wthK L x k).1 ++ [x] else (wthK L x k).1) else (if !(wthK L x k).2 && !decide (cmpP L[k]! x < 0) then (wthK L x k).1 ++ [x] else (wthK L x k).1) ++ [L[k]!]), (wthK L x k).2 || !decide (cmpP L[k]! x < 0))
def withL (L : List Ins) (x : Ins) : List Ins := if (wthK L x L.length).2 then (wthK L x L.length).1 else (wthK L x L.length).1 ++ [x]
theorem wthK_lo {L : List Ins} {x : Ins} : ∀ k, k ≤ lowR L x → wthK L x k = (L.take k, false)
  | 0, _ => rfl
  | k + 1, hk => by
    have hl := lowP_le L x
    have hc : cmpP L[k]! x < 0 := lowR_take L x _ (by
      rw [getElem!_pos L k (by omega)]
      exact List.mem_iff_getElem.2 ⟨k, by rw [List.length_take]; omega, List.getElem_take⟩)
    have hne : (L[k]!.pub == x.pub) = false := by
      rw [beq_eq_false_iff_ne]
      intro e
      rw [cmpP_zero.2 e] at hc
      omega
    unfold wthK
    rw [wthK_lo k (by omega)]
    simp only [hne, decide_eq_true hc, Bool.not_true, Bool.and_false, Bool.false_eq_true, if_false, Bool.or_self]
    rw [List.take_add_one, List.getElem?_eq_getElem (by omega), getElem!_pos L k (by omega)]
    rfl
theorem wthK_hi {L : List Ins} {x : Ins} (ha : Asc L) : ∀ d, lowR L x + d < L.length → wthK L x (lowR L x + d + 1) = (L.take (lowR L x) ++ x :: ((L.drop (lowR L x)).take (d + 1)).filter (fun y => !(y.pub == x.pub)), true)
  | 0, h => by
    have hl : lowR L x < L.length := by omega
    have hc : ¬ cmpP L[lowR L x]! x < 0 := lowR_drop L x ha _ (by rw [getElem!_pos L _ hl, List.drop_eq_getElem_cons hl]; exact List.mem_cons_self)
    unfold wthK
    rw [Nat.add_zero, wthK_lo _ (Nat.le_refl _)]
    simp only [decide_eq_false hc, Bool.not_false, Bool.and_self, if_true, Bool.or_true]
    have e1 : (L.drop (lowR L x)).take (0 + 1) = [L[lowR L x]!] := by rw [List.drop_eq_getElem_cons hl, List.take_succ_cons, List.take_zero, getElem!_pos L _ hl]
    rw [e1]
    generalize L[lowR L x]! = Y
    cases he : (Y.pub == x.pub)
    · simp [he]
    · simp [he]
  | d + 1, h => by
    unfold wthK
    have e0 : lowR L x + (d + 1) = lowR L x + d + 1 := by omega
    rw [e0, wthK_hi ha d (by omega)]
    simp only [Bool.not_true, Bool.false_and, Bool.false_eq_true, if_false, Bool.true_or]
    have e1 : (L.drop (lowR L x)).take (d + 1 + 1) = (L.drop (lowR L x)).take (d + 1) ++ [L[lowR L x + d + 1]!] := by
      rw [List.take_add_one (i := d + 1), List.getElem?_drop, List.getElem?_eq_getElem (by omega), getElem!_pos L _ (by omega)]
      rfl
    rw [e1, List.filter_append]
    generalize L[lowR L x + d + 1]! = Y
    cases he : (Y.pub == x.pub)
    · simp [he]
    · simp [he]
theorem with_is {L : List Ins} {x : Ins} (ha : Asc L) : withL L x = L.take (lowR L x) ++ x :: (L.drop (lowR L x)).filter (fun y => !(y.pub == x.pub)) := by
  have hl := lowP_le L x
  unfold withL
  rcases Nat.lt_or_ge (lowR L x) L.length with h | h
  · obtain ⟨d, hd⟩ : ∃ d, L.length = lowR L x + d + 1 := ⟨L.length - lowR L x - 1, by omega⟩
    have e := wthK_hi ha d (x := x) (by omega)
    rw [← hd] at e
    rw [e]
    simp only [if_true]
    have e2 : (L.drop (lowR L x)).take (d + 1) = L.drop (lowR L x) := List.take_of_length_le (by rw [List.length_drop]; omega)
    rw [e2]
  · have he : lowR L x = L.length := by omega
    rw [wthK_lo _ (by omega)]
    simp only [Bool.false_eq_true, if_false]
    rw [he, List.drop_length, List.filter_nil, List.take_length]
theorem with_set {L : List Ins} {x : Ins} (ha : Asc L) (hf : foundAt L x (lowR L x) = true) : withL L x = L.set (lowR L x) x := by
  obtain ⟨hl, he⟩ := (found_iff ha x).1 hf
  rw [with_is ha, List.set_eq_take_append_cons_drop, if_pos hl, List.drop_eq_getElem_cons hl, List.filter_cons]
  rw [getElem!_pos L _ hl] at he
  rw [he]
  simp only [beq_self_eq_true, Bool.not_true, Bool.false_eq_true, if_false]
  congr 2
  rw [List.filter_eq_self]
  intro y hy
  rw [Bool.not_eq_true', beq_eq_false_iff_ne]
  intro e
  obtain ⟨j, hj, rfl⟩ := List.getElem_of_mem hy
  rw [List.length_drop] at hj
  rw [List.getElem_drop] at e
  have := List.pairwise_iff_getElem.1 ha (lowR L x) (lowR L x + 1 + j) hl (by omega) (by omega)
  rw [cmpP_zero.2 (he.trans e.symm)] at this
  omega
theorem with_ins {L : List Ins} {x : Ins} (ha : Asc L) (hf : ¬ foundAt L x (lowR L x) = true) : withL L x = L.take (lowR L x) ++ x :: L.drop (lowR L x) := by
  rw [with_is ha]
  congr 2
  rw [List.filter_eq_self]
  intro y hy
  rw [Bool.not_eq_true', beq_eq_false_iff_ne]
  exact found_none ha x hf y (List.mem_of_mem_drop hy)
/-- Put of the reference, taken apart. -/
theorem put_split {L : List Ins} (h : goodR L = true) {x : Ins} (hx : goodI x = true) :
    ((getV L x.pub).2 = true ∧ cmpI x (getV L x.pub).1 ≤ 0 ∧ putL L x = L ∧ putOk L x = false) ∨
    (¬ ((getV L x.pub).2 = true ∧ cmpI x (getV L x.pub).1 ≤ 0) ∧ putL L x = fitL (withL L x) ∧ putOk L x = !sameR (fitL (withL L x)) L ∧ (withL L x).length ≤ 17) := by
  obtain ⟨h1, h2, h3⟩ := (good_iff L).1 h
  have eP : putL L x = putG L x := by unfold putL; rw [h, hx]; rfl
  have eO : putOk L x = !sameR (putG L x) L := by unfold putOk; rw [h, hx]; rfl
  by_cases hf : foundAt L x (lowR L x) = true
  · obtain ⟨hl, he⟩ := (found_iff h3 x).1 hf
    have hg : getV L x.pub = (L[lowR L x]!, true) := by
      rw [← he]
      exact getV_of h (by rw [getElem!_pos L _ hl]; exact List.getElem_mem hl)
    rw [hg]
    by_cases hc : cmpI x L[lowR L x]! > 0
    · right
      have eG : putG L x = withL L x := by unfold putG; rw [if_pos hf, if_pos hc, with_set h3 hf]
      have hlen : (withL L x).length ≤ 16 := by rw [with_set h3 hf, List.length_set]; exact h1
      have eF : fitL (withL L x) = withL L x := by unfold fitL; rw [if_pos hlen]
      refine ⟨fun ⟨_, hle⟩ => by simp only at hle; omega, by rw [eP, eG, eF], by rw [eO, eG, eF], by omega⟩
    · left
      have eG : putG L x = L := by unfold putG; rw [if_pos hf, if_neg hc]
      refine ⟨rfl, by simp only; omega, by rw [eP, eG], by rw [eO, eG, (sameR_iff L L).2 rfl]; rfl⟩
  · right
    have hg : getV L x.pub = (zeroI, false) := getV_none (fun j hj => by
      rw [beq_eq_false_iff_ne]
      exact found_none h3 x hf _ (by rw [getElem!_pos L j hj]; exact List.getElem_mem hj))
    have hle := lowP_le L x
    have eG : putG L x = fitL (withL L x) := by unfold putG; rw [if_neg hf, with_ins h3 hf]
    rw [hg]
    refine ⟨(fun ⟨hq, _⟩ => absurd hq (by simp)), by rw [eP, eG], by rw [eO, eG], ?_⟩
    rw [with_ins h3 hf]
    simp
    omega
end Go.Proofs.YtkceipkgebgigaaGreat
end
section
namespace Go.Proofs.YtkceipkgebgigaaGreat
open Go.Shelf Go.RowKit Go.Lib Go.Great
set_option maxRecDepth 100000
set_option maxHeartbeats 400000
theorem rfirst_any (g off c n : Nat) (L : List Ins) (w : World) (hn : L.length = n) (h1 : 1 ≤ n) (hL : n ≤ 10000) (hg : g < w.heap.size) (hr : w.rangeAt g off (flatE encI L)) :
    Calls Tryz.prog 32 #[.slice (some ⟨g, off, none⟩) n c] w fun e w' => e = .returned (.int .i64 (lastMin L n : Int)) ∧ Below w.heap.size w w' := by
  have HLD : Hid (∀ k, k < n → ∀ W, Below w.heap.size w W → (loadVar 29 ⟨g, off + k * 28, none⟩).run Tryz.prog W = .ok (.agg (encI L[k]!).toArray) W) := Lib.hid (fun k hk W hW => row_load hr hg hW (by omega))
  have HEN : Hid (∀ (k : Nat) (W : World), Calls Tryz.prog 65 #[.agg (encI L[k]!).toArray] W fun e w' => e = .returned (.int .u64 (endI L[k]! : Int)) ∧ Below W.heap.size W w') := Lib.hid (fun k W => (rend_any L[k]! W).mono (by rintro e w' ⟨rfl, rfl⟩; exact ⟨rfl, (Below.refl _ W).alloc (Nat.le_refl _) _⟩))
  have HLM : Hid (∀ k, k ≤ n → lastMin L k < n) := Lib.hid (fun k hk => lastMin_le L k n hk (by omega))
  have HM1 : Hid (lastMin L 1 = 0) := Lib.hid (by unfold lastMin; rw [show lastMin L 0 = 0 from rfl]; simp)
  have HMS : Hid (∀ k, lastMin L (k + 1) = if endI L[k]! ≤ endI L[lastMin L k]! then k else lastMin L k) := Lib.hid (fun k => rfl)
  clear hr hn hg
  generalize lastMin L = F at *
  go_enter Tryz.func32, Tryz.ntmps32
  go_wp2
  go_loopw [3, 4] (fun f i wr => ∃ k : Nat, f = .int .i64 (F k : Int) ∧ i = .int .i64 (k : Int) ∧ 1 ≤ k ∧ k ≤ n ∧ Below w.heap.size w wr) (fun _ i _ => n - (RowKit.intOf i).toNat)
  case atStart => exact ⟨1, by rw [HM1.out]; rfl, rfl, by omega, h1, Below.refl _ _⟩
  case round =>
    obtain ⟨k, rfl, rfl, hk1, hk, hbr⟩ := hrel
    by_cases hlt : k < n
    · have hlt' : (k : Int) < (n : Int) := by omega
      have hfn := HLM.out k hk
      have HQY : Hid (∀ q : Kept wr.heap.size wr, (loadVar 29 ⟨g, off + k * 28, none⟩).run Tryz.prog q.val = .ok (.agg (encI L[k]!).toArray) q.val) := Lib.hid (fun q => HLD.out _ hlt _ (hbr.trans (q.property.mono hbr.size)))
      have HQZ : Hid (∀ q : Kept wr.heap.size wr, (loadVar 29 ⟨g, off + F k * 28, none⟩).run Tryz.prog q.val = .ok (.agg (encI L[F k]!).toArray) q.val) := Lib.hid (fun q => HLD.out _ hfn _ (hbr.trans (q.property.mono hbr.size)))
      have HE1 := Lib.hid (HEN.out k)
      have HE2 := Lib.hid (HEN.out (F k))
      have hms := HMS.out k
      have HB : Hid (∀ W, Below wr.heap.size wr W → Below w.heap.size w W) := Lib.hid (fun W hW => hbr.trans (hW.mono hbr.size))
      have hfi : (F k : Int) < (n : Int) := by omega
      clear HLD HEN HLM HM1 HMS hbr
      generalize L[k]! = Y at *
      generalize hfk : F k = f at *
      generalize L[f]! = Z at *
      clear hfk
      by_cases hle : endI Y ≤ endI Z
      · have hle' : (endI Y : Int) ≤ (endI Z : Int) := by omega
        rw [if_pos hle] at hms
        have HM := Lib.hid hms
        clear hle hms
        generalize (encI Y).toArray = YA at *
        generalize (encI Z).toArray = ZA at *
        go_upto_region 5 with fail
        refine wp_region_kept wr.heap.size wr (Below.refl _ _) (by kernel_rfl) (by kernel_rfl) ?_
        repeat (first
          | (go_big_quiet_want; (with_reducible refine quiet_loadV 29 (.tmp 13) rfl _ ?_ _ HQY.out ?_); rfl; simp only [Act.put, List.setIfInBounds_toArray, List.set_cons_zero, List.set_cons_succ]; go_big_quiet_on)
          | (go_big_quiet_want; (with_reducible refine quiet_loadV 29 (.tmp 18) rfl _ ?_ _ HQZ.out ?_); rfl; simp only [Act.put, List.setIfInBounds_toArray, List.set_cons_zero, List.set_cons_succ]; go_big_quiet_on)
          | go_big_quiet_step (first | (go_at_call 65; with_reducible exact kept_of (Nat.le_refl _) HE1.out _) | (go_at_call 65; with_reducible exact kept_of (Nat.le_refl _) HE2.out _)))
        refine wpQuiet_nil ?_
        rintro wk ⟨⟨_, hwk⟩, rfl⟩
        have HBW := Lib.hid (HB.out _ hwk)
        clear hwk
        go_wp2
        go_roundw
        case rel => exact ⟨k + 1, by rw [HM.out], by go_num, by omega, by omega, HBW.out⟩
        case measure => simp [RowKit.intOf]; omega
      · have hle' : ¬ (endI Y : Int) ≤ (endI Z : Int) := by omega
        rw [if_neg hle] at hms
        have HM := Lib.hid hms
        clear hle hms
        generalize (encI Y).toArray = YA at *
        generalize (encI Z).toArray = ZA at *
        go_upto_region 5 with fail
        refine wp_region_kept wr.heap.size wr (Below.refl _ _) (by kernel_rfl) (by kernel_rfl) ?_
        repeat (first
          | (go_big_quiet_want; (with_reducible refine quiet_loadV 29 (.tmp 13) rfl _ ?_ _ HQY.out ?_); rfl; simp only [Act.put, List.setIfInBounds_toArray, List.set_cons_zero, List.set_cons_succ]; go_big_quiet_on)
          | (go_big_quiet_want; (with_reducible refine quiet_loadV 29 (.tmp 18) rfl _ ?_ _ HQZ.out ?_); rfl; simp only [Act.put, List.setIfInBounds_toArray, List.set_cons_zero, List.set_cons_succ]; go_big_quiet_on)
          | go_big_quiet_step (first | (go_at_call 65; with_reducible exact kept_of (Nat.le_refl _) HE1.out _) | (go_at_call 65; with_reducible exact kept_of (Nat.le_refl _) HE2.out _)))
        refine wpQuiet_nil ?_
        rintro wk ⟨⟨_, hwk⟩, rfl⟩
        have HBW := Lib.hid (HB.out _ hwk)
        clear hwk
        go_wp2
        go_roundw
        case rel => exact ⟨k + 1, by rw [HM.out], by go_num, by omega, by omega, HBW.out⟩
        case measure => simp [RowKit.intOf]; omega
    · obtain rfl : k = n := by omega
      have HB := Lib.hid hbr
      clear HLD HEN HLM HM1 HMS hbr
      go_wp2
      go_ret
      exact ⟨rfl, HB.out⟩
end Go.Proofs.YtkceipkgebgigaaGreat
end
section
namespace Go.Proofs.YtkceipkgebgigaaGreat
open Go.Shelf Go.RowKit Go.Lib Go.Great
set_option maxRecDepth 100000
set_option maxHeartbeats 2000000
theorem rgd_none (A : Option Addr) (c : Nat) (w : World) : Calls Tryz.prog 14 #[.slice A 0 c] w fun e w' => e = .returned (.bool true) ∧ w' = w := by
  go_enter Tryz.func14, Tryz.ntmps14
  go_wp2
  go_loopg [3] 0 (fun _ s wr => s = .int .i64 0 ∧ wr = w)
  case atStart => exact ⟨rfl, rfl⟩
  case round =>
    obtain ⟨rfl, rfl⟩ := hrel
    go_wp2
    go_ret
    exact ⟨rfl, rfl⟩
theorem rgd_some (b off c : Nat) (L : List Ins) (w : World) (hL : L.length ≤ 10000) (ht : ∀ k, k < L.length → L[k]!.tgt.length ≤ 100000) (hb : b < w.heap.size) (hr : w.rangeAt b off (flatE encI L)) :
    Calls Tryz.prog 14 #[.slice (some ⟨b, off, none⟩) L.length c] w fun e w' => e = .returned (.bool (goodR L)) ∧ Below w.heap.size w w' := by
  have HLD : Hid (∀ k, k < L.length → ∀ W, Below w.heap.size w W → (loadVar 29 ⟨b, off + k * 28, none⟩).run Tryz.prog W = .ok (.agg (encI L[k]!).toArray) W) := Lib.hid (fun k hk W hW => row_load hr hb hW hk)
  have HGD : Hid (∀ k, k < L.length → ∀ W, Calls Tryz.prog 29 #[.agg (encI L[k]!).toArray] W fun e w' => e = .returned (.bool (goodI L[k]!)) ∧ Below W.heap.size W w') := Lib.hid (fun k hk W => rgoodI_any _ (ht k hk) W)
  have HBP : Hid (∀ (i j : Nat) (W : World), Calls Tryz.prog 38 #[.agg (encI L[i]!).toArray, .agg (encI L[j]!).toArray] W fun e w' => e = .returned (.bool (decide (cmpP L[i]! L[j]! < 0))) ∧ Below W.heap.size W w') := Lib.hid (fun i j W => before_any _ _ W)
  have HT : Hid ((∀ k, k < L.length → okAt L k = true) → goodR L = decide (L.length ≤ 16)) := Lib.hid (fun h => by
    by_cases hl : L.length ≤ 16
    · rw [decide_eq_true hl]; exact (goodR_iff L).2 ⟨hl, h⟩
    · rw [decide_eq_false hl]; exact goodR_long (by omega))
  have HF : Hid (∀ k, k < L.length → okAt L k = false → goodR L = false) := Lib.hid (fun k hk h => by
    cases hg : goodR L with
    | false => rfl
    | true => rw [((goodR_iff L).1 hg).2 k hk] at h; cases h)
  have HO : Hid (∀ k, okAt L k = (goodI L[k]! && (decide (k = 0) || decide (cmpP L[k - 1]! L[k]! < 0)))) := Lib.hid (fun k => rfl)
  generalize goodR L = r at *
  generalize hn : L.length = n at *
  clear hr ht
  go_enter Tryz.func14, Tryz.ntmps14
  go_wp2
  go_loopw [3] (fun i wr => ∃ k : Nat, i = .int .i64 (k : Int) ∧ k ≤ n ∧ (∀ j, j < k → okAt L j = true) ∧ Below w.heap.size w wr) (fun i _ => n - (RowKit.intOf i).toNat)
  case atStart => exact ⟨0, rfl, by omega, fun j hj => by omega, Below.refl _ _⟩
  case round =>
    obtain ⟨k, rfl, hk, hF, hbr⟩ := hrel
    have HD := Lib.hid hF
    clear hF
    by_cases hlt : k < n
    · have hlt' : (k : Int) < (n : Int) := by omega
      have HBN := Lib.hid hbr
      have HQ4 : Hid (∀ q : Kept wr.heap.size wr, (loadVar 29 ⟨b, off + k * 28, none⟩).run Tryz.prog q.val = .ok (.agg (encI L[k]!).toArray) q.val) := Lib.hid (fun q => HLD.out k hlt _ (HBN.out.trans (q.property.mono HBN.out.size)))
      have HGK := Lib.hid (HGD.out k hlt)
      obtain ⟨Y, hY⟩ : ∃ Y : Ins, Y = L[k]! := ⟨_, rfl⟩
      have HY := Lib.hid hY
      have hok := HO.out k
      rw [← hY] at hok
      rw [← HY.out] at HQ4 HGK
      clear hY
      cases hgk : goodI Y with
      | false =>
        rw [hgk] at hok HGK
        have HRF : Hid (r = false) := Lib.hid (HF.out k hlt (by rw [hok]; rfl))
        clear HT HF HO HD HLD HGD HBP hbr hok hgk
        generalize (encI Y).toArray = X at *
        go_upto_region 4 with fail
        refine wp_region_kept wr.heap.size wr (Below.refl _ _) (by kernel_rfl) (by kernel_rfl) ?_
        repeat (first
          | (go_big_quiet_want; (with_reducible refine quiet_loadV 29 (.tmp 12) rfl _ ?_ _ HQ4.out ?_); rfl; simp only [Act.put, List.setIfInBounds_toArray, List.set_cons_zero, List.set_cons_succ]; go_big_quiet_on)
          | go_big_quiet_step (first | (go_at_call 29; with_reducible exact kept_of (Nat.le_refl _) HGK.out _)))
        refine wpQuiet_nil ?_
        rintro wk ⟨⟨_, hwk⟩, rfl⟩
        go_wp2
        go_ret
        exact ⟨by rw [HRF.out]; rfl, HBN.out.trans (hwk.mono HBN.out.size)⟩
      | true =>
        rw [hgk] at hok HGK
        rw [Bool.true_and] at hok
        rcases Nat.eq_zero_or_pos k with rfl | hpos
        · have HNX : Hid (∀ wx, Below w.heap.size w wx → ∃ k : Nat, Value.int .i64 1 = .int .i64 (k : Int) ∧ k ≤ n ∧ (∀ j, j < k → okAt L j = true) ∧ Below w.heap.size w wx) := Lib.hid (fun wx hx => ⟨1, rfl, by omega, fun j hj => by
            obtain rfl : j = 0 := by omega
            rw [hok]; rfl, hx⟩)
          clear HT HF HO HD HLD HGD HBP hbr hok hgk
          generalize (encI Y).toArray = X at *
          go_upto_region 4 with fail
          refine wp_region_kept wr.heap.size wr (Below.refl _ _) (by kernel_rfl) (by kernel_rfl) ?_
          repeat (first
            | (go_big_quiet_want; (with_reducible refine quiet_loadV 29 (.tmp 12) rfl _ ?_ _ HQ4.out ?_); rfl; simp only [Act.put, List.setIfInBounds_toArray, List.set_cons_zero, List.set_cons_succ]; go_big_quiet_on)
            | go_big_quiet_step (first | (go_at_call 29; with_reducible exact kept_of (Nat.le_refl _) HGK.out _)))
          refine wpQuiet_nil ?_
          rintro wk ⟨⟨_, hwk⟩, rfl⟩
          have HBW := Lib.hid (HNX.out _ (HBN.out.trans (hwk.mono HBN.out.size)))
          clear hwk
          go_wp2
          go_roundw
          case rel => exact HBW.out
          case measure => simp [RowKit.intOf]; omega
        · obtain ⟨m, rfl⟩ : ∃ m, k = m + 1 := ⟨k - 1, by omega⟩
          have hlm : m < n := by omega
          have HQP : Hid (∀ q : Kept wr.heap.size wr, (loadVar 29 ⟨b, off + m * 28, none⟩).run Tryz.prog q.val = .ok (.agg (encI L[m]!).toArray) q.val) := Lib.hid (fun q =>
            HLD.out m hlm _ (HBN.out.trans (q.property.mono HBN.out.size)))
          have HCP := Lib.hid (HBP.out m (m + 1))
          rw [← HY.out] at HCP
          rw [show decide (m + 1 = 0) = false from decide_eq_false (by omega), Bool.false_or, Nat.add_sub_cancel] at hok
          obtain ⟨q, hq⟩ : ∃ q, q = decide (cmpP L[m]! Y < 0) := ⟨_, rfl⟩
          rw [← hq] at hok HCP
          have HNX : Hid (okAt L (m + 1) = true → ∀ wx, Below w.heap.size w wx → ∃ k : Nat, Value.int .i64 ((m : Int) + 1 + 1) = .int .i64 (k : Int) ∧ k ≤ n ∧ (∀ j, j < k → okAt L j = true) ∧ Below w.heap.size w wx) := Lib.hid (fun h wx hx => ⟨m + 1 + 1, by simp, by omega, fun j hj => by
            by_cases e : j = m + 1
            · subst e; exact h
            · exact HD.out j (by omega), hx⟩)
          have HRF := Lib.hid (HF.out (m + 1) hlt)
          cases q with
          | false =>
            have HRR : Hid (r = false) := Lib.hid (HRF.out hok)
            clear HT HF HO HD HLD HGD HBP hbr hok hgk HNX HRF hq
            generalize (encI Y).toArray = X at *
            generalize (encI L[m]!).toArray = Z at *
            go_upto_region 4 with fail
            refine wp_region_kept wr.heap.size wr (Below.refl _ _) (by kernel_rfl) (by kernel_rfl) ?_
            repeat (first
              | (go_big_quiet_want; (with_reducible refine quiet_loadV 29 (.tmp 12) rfl _ ?_ _ HQ4.out ?_); rfl; simp only [Act.put, List.setIfInBounds_toArray, List.set_cons_zero, List.set_cons_succ]; go_big_quiet_on)
              | (go_big_quiet_want; (with_reducible refine quiet_loadV 29 (.tmp 23) rfl _ ?_ _ HQP.out ?_); rfl; simp only [Act.put, List.setIfInBounds_toArray, List.set_cons_zero, List.set_cons_succ]; go_big_quiet_on)
              | (go_big_quiet_want; (with_reducible refine quiet_loadV 29 (.tmp 27) rfl _ ?_ _ HQ4.out ?_); rfl; simp only [Act.put, List.setIfInBounds_toArray, List.set_cons_zero, List.set_cons_succ]; go_big_quiet_on)
              | go_big_quiet_step (first | (go_at_call 29; with_reducible exact kept_of (Nat.le_refl _) HGK.out _) | (go_at_call 38; with_reducible exact kept_of (Nat.le_refl _) HCP.out _)))
            refine wpQuiet_nil ?_
            rintro wk ⟨⟨_, hwk⟩, rfl⟩
            go_wp2
            go_ret
            exact ⟨by rw [HRR.out]; rfl, HBN.out.trans (hwk.mono HBN.out.size)⟩
          | true =>
            have HNY := Lib.hid (HNX.out hok)
            clear HT HF HO HD HLD HGD HBP hbr hok hgk HNX HRF hq
            generalize (encI Y).toArray = X at *
            generalize (encI L[m]!).toArray = Z at *
            go_upto_region 4 with fail
            refine wp_region_kept wr.heap.size wr (Below.refl _ _) (by kernel_rfl) (by kernel_rfl) ?_
            repeat (first
              | (go_big_quiet_want; (with_reducible refine quiet_loadV 29 (.tmp 12) rfl _ ?_ _ HQ4.out ?_); rfl; simp only [Act.put, List.setIfInBounds_toArray, List.set_cons_zero, List.set_cons_succ]; go_big_quiet_on)
              | (go_big_quiet_want; (with_reducible refine quiet_loadV 29 (.tmp 23) rfl _ ?_ _ HQP.out ?_); rfl; simp only [Act.put, List.setIfInBounds_toArray, List.set_cons_zero, List.set_cons_succ]; go_big_quiet_on)
              | (go_big_quiet_want; (with_reducible refine quiet_loadV 29 (.tmp 27) rfl _ ?_ _ HQ4.out ?_); rfl; simp only [Act.put, List.setIfInBounds_toArray, List.set_cons_zero, List.set_cons_succ]; go_big_quiet_on)
              | go_big_quiet_step (first | (go_at_call 29; with_reducible exact kept_of (Nat.le_refl _) HGK.out _) | (go_at_call 38; with_reducible exact kept_of (Nat.le_refl _) HCP.out _)))
            refine wpQuiet_nil ?_
            rintro wk ⟨⟨_, hwk⟩, rfl⟩
            have HBW := Lib.hid (HNY.out _ (HBN.out.trans (hwk.mono HBN.out.size)))
            clear hwk
            go_wp2
            go_roundw
            case rel => exact HBW.out
            case measure => simp [RowKit.intOf]; omega
    · have hlt' : ¬ (k : Int) < (n : Int) := by omega
      have HRT : Hid (r = decide (n ≤ 16)) := Lib.hid (HT.out (fun j hj => HD.out j (by omega)))
      have HBR := Lib.hid hbr
      clear HT HF HO HD HLD HGD HBP hbr
      by_cases h16 : n ≤ 16
      · have h16' : (n : Int) ≤ 16 := by omega
        rw [decide_eq_true h16] at HRT
        go_wp2
        go_ret
        exact ⟨by rw [HRT.out]; rfl, HBR.out⟩
      · have h16' : ¬ (n : Int) ≤ 16 := by omega
        rw [decide_eq_false h16] at HRT
        go_wp2
        go_ret
        exact ⟨by rw [HRT.out]; rfl, HBR.out⟩
/-- Good of the reference. -/
theorem rgd_any (A : Option Addr) (c : Nat) (L : List Ins) (w : World) (hl : L.length ≤ 10000) (ht : ∀ x ∈ L, x.tgt.length ≤ 100000) (hA : IAt w w.heap.size A L) :
    Calls Tryz.prog 14 #[.slice A L.length c] w fun e w' => e = .returned (.bool (goodR L)) ∧ Below w.heap.size w w' := by
  rcases hA with rfl | ⟨g, off, rfl, hg, hr⟩
  · refine (rgd_none A c w).mono ?_
    rintro e w' ⟨rfl, rfl⟩
    exact ⟨rfl, Below.refl _ _⟩
  · exact rgd_some g off c L w hl (fun k hk => ht _ (by rw [getElem!_pos L k hk]; exact List.getElem_mem hk)) hg hr
end Go.Proofs.YtkceipkgebgigaaGreat
end
