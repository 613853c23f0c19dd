/- Walk of InstLife. Conditions: the three targets together of at most 4611686018427387904 bytes. -/
import Derived.Test.YtkceipkgebgigaaXIix
import Derived.Test.YtkceipkgebgigaaXIip
import Derived.Deep.CutRange
namespace Go.Proofs.Ytkceipkgebgigaa
open Go.Shelf Go.RowKit Go.Lib Go.Great
set_option maxRecDepth 100000
set_option maxHeartbeats 4000000
theorem heap3 (w : World) (a b x : Obj) : (((w.alloc a).alloc b).alloc x).heap[w.heap.size]? = some a ∧ (((w.alloc a).alloc b).alloc x).heap[w.heap.size + 1]? = some b ∧ (((w.alloc a).alloc b).alloc x).heap[w.heap.size + 1 + 1]? = some x ∧ Below w.heap.size w (((w.alloc a).alloc b).alloc x) := by
  obtain ⟨h1, h2, hb⟩ := heap2 w a b
  have hs : ((w.alloc a).alloc b).heap.size = w.heap.size + 1 + 1 := by simp
  have hba : Below ((w.alloc a).alloc b).heap.size ((w.alloc a).alloc b) (((w.alloc a).alloc b).alloc x) := (Below.refl _ _).alloc (Nat.le_refl _) _
  have h3 := heap_alloc_new ((w.alloc a).alloc b) x
  rw [hs] at h3
  exact ⟨(hba.block _ (by omega)).trans h1, (hba.block _ (by omega)).trans h2, h3, hb.trans (hba.mono hb.size)⟩
theorem wrap3 (a b c : Nat) (h : a + b + c ≤ 4611686018427387904) : IntKind.i64.wrap ((a : Int) + (b : Int)) = (a : Int) + (b : Int) ∧ IntKind.i64.wrap ((a : Int) + (b : Int) + (c : Int)) = (a : Int) + (b : Int) + (c : Int) := by
  constructor
  · rw [IntKind.wrap]; simp [IntKind.signed, IntKind.bits]; omega
  · rw [IntKind.wrap]; simp [IntKind.signed, IntKind.bits]; omega
theorem ilife_big (a b c : Ins) (n m : Nat) (hz : a.tgt.length + b.tgt.length + c.tgt.length ≤ 4611686018427387904) (h : 3000 < a.tgt.length + b.tgt.length + c.tgt.length) (w : World) : Calls Try.prog 6 #[.agg (encI a).toArray, .agg (encI b).toArray, .agg (encI c).toArray, .int .u64 (n : Int), .int .u64 (m : Int)] w fun e w' => e = .returned (.bool true) ∧ Below w.heap.size w w' := by
  obtain ⟨h1, h2, h3, hb⟩ := heap3 w (.cells (encI a).toArray 28) (.cells (encI b).toArray 28) (.cells (encI c).toArray 28)
  have HB := Lib.hid hb
  have c1 := (fldB h1).tgt
  have c2 := (fldB h2).tgt
  have c3 := (fldB h3).tgt
  have s1 := bstr_size a.tgt
  have s2 := bstr_size b.tgt
  have s3 := bstr_size c.tgt
  have HLI := Lib.hid lives_any
  have hs : (3000 : Int) < (a.tgt.length : Int) + (b.tgt.length : Int) + (c.tgt.length : Int) := by omega
  obtain ⟨hw, hw2⟩ := wrap3 _ _ _ hz
  clear h
  generalize bstr a.tgt = S at *
  generalize bstr b.tgt = T at *
  generalize bstr c.tgt = U at *
  generalize a.tgt.length = la at *
  generalize b.tgt.length = lb at *
  generalize c.tgt.length = lc at *
  generalize (encI a).toArray = X at *
  generalize (encI b).toArray = Y at *
  generalize (encI c).toArray = Z at *
  clear h1 h2 h3 hb
  go_enter Try.func6, Try.ntmps6
  go_wp2_with (go_at_call 11; (with_reducible refine (HLI.out _).mono ?_); rintro e w1 ⟨rfl, hb1⟩)
  go_ret
  exact ⟨rfl, HB.out.trans (hb1.mono HB.out.size)⟩
/-- What is asked of three instances at two ticks. -/
structure LifeP (a b c : Ins) (n m : Nat) : Prop where
  p1 : decide (a.life < leftI a n) = false
  p2 : (overI a n && aliveI a n) = false
  p3 : n < m → overI a n = true → overI a m = true
  p4 : decide (0 < leftI a n) = aliveI a n
  p5 : (cmpI a b == 0) = eqI a b
  p6 : cmpI b a = - cmpI a b
  p7 : 0 < cmpI a b → 0 < cmpI b c → 0 < cmpI a c
theorem lifeP (a b c : Ins) (n m : Nat) : LifeP a b c n m where
  p1 := decide_eq_false (by have := leftI_le a n; omega)
  p2 := by
    unfold aliveI
    cases overI a n <;> simp
  p3 h1 h2 := over_later h1 h2
  p4 := left_pos a n
  p5 := by
    rw [Bool.eq_iff_iff, eqI_iff, beq_iff_eq]
    exact ⟨cmpI_ord.eq a b, fun e => by rw [e]; exact cmpI_self b⟩
  p6 := cmpI_ord.anti b a
  p7 h1 h2 := by
    have t1 := cmpI_ord.three a b
    have t2 := cmpI_ord.three b c
    have := cmpI_ord.trans a b c (by omega) (by omega)
    omega
theorem ilife_small (a b c : Ins) (n m : Nat) (hn : n < 18446744073709551616) (h : a.tgt.length + b.tgt.length + c.tgt.length ≤ 3000) (w : World) : Calls Try.prog 6 #[.agg (encI a).toArray, .agg (encI b).toArray, .agg (encI c).toArray, .int .u64 (n : Int), .int .u64 (m : Int)] w fun e w' => e = .returned (.bool true) ∧ Below w.heap.size w w' := by
  obtain ⟨h1, h2, h3, hb⟩ := heap3 w (.cells (encI a).toArray 28) (.cells (encI b).toArray 28) (.cells (encI c).toArray 28)
  obtain ⟨W0, hW0⟩ : ∃ W0, W0 = ((w.alloc (.cells (encI a).toArray 28)).alloc (.cells (encI b).toArray 28)).alloc (.cells (encI c).toArray 28) := ⟨_, rfl⟩
  have HW0 := Lib.hid hW0
  rw [← hW0] at h1 h2 h3 hb
  have l2 := (Array.getElem?_eq_some_iff.1 h3).1
  have HB := Lib.hid hb
  have c1 := (fldB h1).tgt
  have c2 := (fldB h2).tgt
  have c3 := (fldB h3).tgt
  have s1 := bstr_size a.tgt
  have s2 := bstr_size b.tgt
  have s3 := bstr_size c.tgt
  have hs : ¬ (3000 : Int) < (a.tgt.length : Int) + (b.tgt.length : Int) + (c.tgt.length : Int) := by omega
  obtain ⟨hw, hw2⟩ := wrap3 a.tgt.length b.tgt.length c.tgt.length (by omega)
  have H5 : Hid (∀ W, Below (w.heap.size + 3) W0 W → (loadVar 28 ⟨w.heap.size, 0, none⟩).run Try.prog W = .ok (.agg (encI a).toArray) W) := Lib.hid (fun W hW => (fld_below h1 hW (by omega)).all)
  have H6 : Hid (∀ W, Below (w.heap.size + 3) W0 W → (loadVar 28 ⟨w.heap.size + 1, 0, none⟩).run Try.prog W = .ok (.agg (encI b).toArray) W) := Lib.hid (fun W hW => (fld_below h2 hW (by omega)).all)
  have H7 : Hid (∀ W, Below (w.heap.size + 3) W0 W → (loadVar 28 ⟨w.heap.size + 1 + 1, 0, none⟩).run Try.prog W = .ok (.agg (encI c).toArray) W) := Lib.hid (fun W hW => (fld_below h3 hW (by omega)).all)
  have HLf : Hid (∀ W, Below (w.heap.size + 3) W0 W → W.cell? ⟨w.heap.size, 22, none⟩ = some (.int .u32 (a.life : Int)) ∧ W.cell? ⟨w.heap.size, 20, none⟩ = some (.int .u64 (a.seq : Int))) := Lib.hid (fun W hW => ⟨(fld_below h1 hW (by omega)).life, (fld_below h1 hW (by omega)).seq⟩)
  have L2 : Hid (w.heap.size + 3 ≤ W0.heap.size) := Lib.hid (by omega)
  have LP := lifeP a b c n m
  have C14 : Hid (∀ W, Calls Try.prog 14 #[.agg (encI a).toArray] W fun e w' => e = .returned (.bool (goodI a)) ∧ Below W.heap.size W w') := Lib.hid (igood_any a (by omega))
  have C14s : Hid (∀ W, Calls Try.prog 14 #[.agg (encI (stoneI a)).toArray] W fun e w' => e = .returned (.bool (goodI (stoneI a))) ∧ Below W.heap.size W w') := Lib.hid (igood_any (stoneI a) (by show (0 : Nat) ≤ _; omega))
  have C16 : Hid (∀ W, Calls Try.prog 16 #[.agg (encI a).toArray] W fun e w' => e = .returned (.int .u64 (endI a : Int)) ∧ Below W.heap.size W w') := Lib.hid (fun W => (end_any a W).mono (by rintro e w' ⟨rfl, rfl⟩; exact ⟨rfl, (Below.refl _ W).alloc (Nat.le_refl _) _⟩))
  have C16s : Hid (∀ W, Calls Try.prog 16 #[.agg (encI (stoneI a)).toArray] W fun e w' => e = .returned (.int .u64 (endI a : Int)) ∧ Below W.heap.size W w') := Lib.hid (fun W => (end_any (stoneI a) W).mono (by rintro e w' ⟨rfl, rfl⟩; exact ⟨rfl, (Below.refl _ W).alloc (Nat.le_refl _) _⟩))
  have C18 := Lib.hid (alive_any a n)
  have C20 := Lib.hid (left_anyI a n hn)
  have C22 := Lib.hid (over_any a n)
  have C22m := Lib.hid (over_any a m)
  have C24ab := Lib.hid (icmp_any a b)
  have C24ba := Lib.hid (icmp_any b a)
  rw [LP.p6] at C24ba
  have C24bc := Lib.hid (icmp_any b c)
  have C24ac := Lib.hid (icmp_any a c)
  have C24s := Lib.hid (icmp_any (stoneI a) a)
  have C26 : Hid (∀ W, Below (w.heap.size + 3) W0 W → Calls Try.prog 26 #[.agg (encI a).toArray] W fun e w' => e = .returned (.agg (encI (stoneI a)).toArray) ∧ Below (w.heap.size + 3) W0 w') := Lib.hid (fun W hW => (stone_any a W).mono (by rintro e w' ⟨rfl, hb⟩; exact ⟨rfl, hW.trans (hb.mono (by have := hW.size; omega))⟩))
  have HST : Hid (∀ w1 : World, Below (w.heap.size + 3) W0 w1 → Below (w.heap.size + 3) W0 (w1.alloc (.cells (encI (stoneI a)).toArray 28)) ∧ ∀ m : Kept (w1.heap.size + 1) (w1.alloc (.cells (encI (stoneI a)).toArray 28)), (loadVar 28 ⟨w1.heap.size, 0, none⟩).run Try.prog m.val = .ok (.agg (encI (stoneI a)).toArray) m.val ∧ m.val.cell? ⟨w1.heap.size, 23, none⟩ = some (.bool true)) := Lib.hid (fun w1 hw1 => by
    have hba : Below w1.heap.size w1 (w1.alloc (.cells (encI (stoneI a)).toArray 28)) := (Below.refl _ w1).alloc (Nat.le_refl _) _
    refine ⟨hw1.trans (hba.mono (by have := hw1.size; omega)), fun m => ?_⟩
    have := fld_below (heap_alloc_new w1 (.cells (encI (stoneI a)).toArray 28)) m.property (by omega)
    exact ⟨this.all, this.gone⟩)
  have HLI := Lib.hid lives_any
  have he := fun W => eqIns a b W
  have hp5 := LP.p5
  have hgs : goodI a = true → goodI (stoneI a) = true := stone_good
  have hsq : a.seq ≠ 18446744073709551615 → cmpI (stoneI a) a = 1 := fun h => cmpI_stone (by have := a.hs; omega)
  have hl1 := LP.p1
  have hl2 := LP.p2
  have hl3 := LP.p3
  have hl4 := LP.p4
  have hl7 := LP.p7
  have t1 := cmpI_ord.three a b
  obtain ⟨zs, hzs⟩ : ∃ z, z = stoneI a := ⟨_, rfl⟩
  rw [← hzs] at C14s C24s HST C26 C16s hgs hsq
  clear h hW0 h1 h2 h3 hb l2 LP
  generalize hXs : (encI zs).toArray = Zs at *
  have HXs := Lib.hid hXs
  clear hXs hzs
  generalize bstr a.tgt = S at *
  generalize bstr b.tgt = T at *
  generalize bstr c.tgt = U at *
  generalize a.tgt.length = la at *
  generalize b.tgt.length = lb at *
  generalize c.tgt.length = lc at *
  generalize (encI a).toArray = X at *
  generalize (encI b).toArray = Y at *
  generalize (encI c).toArray = Z at *
  generalize goodI a = gd at *
  generalize goodI zs = gs at *
  generalize endI a = en at *
  generalize aliveI a n = al at *
  generalize leftI a n = lf at *
  generalize overI a n = ov at *
  generalize overI a m = om at *
  generalize cmpI a b = cab at *
  generalize cmpI b c = cbc at *
  generalize cmpI a c = cac at *
  generalize cmpI zs a = csa at *
  generalize eqI a b = eab at *
  generalize a.life = li at *
  generalize a.seq = sq at *
  -- the first guard is false, whatever the cases
  have d0 := hl1
  go_enter Try.func6, Try.ntmps6
  go_upto_region 1 with fail
  rw [← HW0.out]
  go_upto_region 3 with fail
  have HQ5 : Hid (∀ k : Kept W0.heap.size W0, (loadVar 28 ⟨w.heap.size, 0, none⟩).run Try.prog k.val = .ok (.agg X) k.val) := Lib.hid (fun k => H5.out _ (k.property.mono L2.out))
  have hlf : ∀ k : Kept W0.heap.size W0, k.val.cell? ⟨w.heap.size, 22, none⟩ = some (.int .u32 (li : Int)) := fun k => (HLf.out _ (k.property.mono L2.out)).1
  clear c1 c2 c3 s1 s2 s3 hw hw2 hs
  go_cut [66] from 25 to 66 (fun c wx => c = .bool false ∧ Below W0.heap.size W0 wx)
  case first =>
    by_cases hnm : n < m
    · have hnm' : (n : Int) < (m : Int) := by omega
      have hnmd : decide (n < m) = true := decide_eq_true hnm
      cases ov
      · clear hl2 hl3
        refine wp_region_kept W0.heap.size W0 (Below.refl _ _) (by kernel_rfl) (by kernel_rfl) ?_
        repeat (first
          | (go_big_quiet_want; (with_reducible refine quiet_loadV 28 (.tmp 5) rfl _ ?_ _ HQ5.out ?_); rfl; simp only [Act.put, List.setIfInBounds_toArray, List.set_cons_zero, List.set_cons_succ]; go_big_quiet_on)
          | go_big_quiet_step (first | (go_at_call 20; with_reducible exact kept_of (Nat.le_refl _) C20.out _) | (go_at_call 22; with_reducible exact kept_of (Nat.le_refl _) C22.out _) | (go_at_call 22; with_reducible exact kept_of (Nat.le_refl _) C22m.out _) | (go_at_call 18; with_reducible exact kept_of (Nat.le_refl _) C18.out _)))
        refine wpQuiet_nil ?_
        rintro wk ⟨⟨_, hwk⟩, rfl⟩
        go_wp2
        go_meet
        case rel => exact ⟨rfl, hwk⟩
      · have hal : al = false := by simpa using hl2
        have hom : om = true := hl3 hnm rfl
        subst hal hom
        clear hl2 hl3
        refine wp_region_kept W0.heap.size W0 (Below.refl _ _) (by kernel_rfl) (by kernel_rfl) ?_
        repeat (first
          | (go_big_quiet_want; (with_reducible refine quiet_loadV 28 (.tmp 5) rfl _ ?_ _ HQ5.out ?_); rfl; simp only [Act.put, List.setIfInBounds_toArray, List.set_cons_zero, List.set_cons_succ]; go_big_quiet_on)
          | go_big_quiet_step (first | (go_at_call 20; with_reducible exact kept_of (Nat.le_refl _) C20.out _) | (go_at_call 22; with_reducible exact kept_of (Nat.le_refl _) C22.out _) | (go_at_call 22; with_reducible exact kept_of (Nat.le_refl _) C22m.out _) | (go_at_call 18; with_reducible exact kept_of (Nat.le_refl _) C18.out _)))
        refine wpQuiet_nil ?_
        rintro wk ⟨⟨_, hwk⟩, rfl⟩
        go_wp2
        go_meet
        case rel => exact ⟨rfl, hwk⟩
    · have hnm' : ¬ (n : Int) < (m : Int) := by omega
      have hnmd : decide (n < m) = false := decide_eq_false hnm
      cases ov
      · clear hl2 hl3
        refine wp_region_kept W0.heap.size W0 (Below.refl _ _) (by kernel_rfl) (by kernel_rfl) ?_
        repeat (first
          | (go_big_quiet_want; (with_reducible refine quiet_loadV 28 (.tmp 5) rfl _ ?_ _ HQ5.out ?_); rfl; simp only [Act.put, List.setIfInBounds_toArray, List.set_cons_zero, List.set_cons_succ]; go_big_quiet_on)
          | go_big_quiet_step (first | (go_at_call 20; with_reducible exact kept_of (Nat.le_refl _) C20.out _) | (go_at_call 22; with_reducible exact kept_of (Nat.le_refl _) C22.out _) | (go_at_call 22; with_reducible exact kept_of (Nat.le_refl _) C22m.out _) | (go_at_call 18; with_reducible exact kept_of (Nat.le_refl _) C18.out _)))
        refine wpQuiet_nil ?_
        rintro wk ⟨⟨_, hwk⟩, rfl⟩
        go_wp2
        go_meet
        case rel => exact ⟨rfl, hwk⟩
      · have hal : al = false := by simpa using hl2
        subst hal
        clear hl2 hl3
        refine wp_region_kept W0.heap.size W0 (Below.refl _ _) (by kernel_rfl) (by kernel_rfl) ?_
        repeat (first
          | (go_big_quiet_want; (with_reducible refine quiet_loadV 28 (.tmp 5) rfl _ ?_ _ HQ5.out ?_); rfl; simp only [Act.put, List.setIfInBounds_toArray, List.set_cons_zero, List.set_cons_succ]; go_big_quiet_on)
          | go_big_quiet_step (first | (go_at_call 20; with_reducible exact kept_of (Nat.le_refl _) C20.out _) | (go_at_call 22; with_reducible exact kept_of (Nat.le_refl _) C22.out _) | (go_at_call 22; with_reducible exact kept_of (Nat.le_refl _) C22m.out _) | (go_at_call 18; with_reducible exact kept_of (Nat.le_refl _) C18.out _)))
        refine wpQuiet_nil ?_
        rintro wk ⟨⟨_, hwk⟩, rfl⟩
        go_wp2
        go_meet
        case rel => exact ⟨rfl, hwk⟩
  case rest =>
    obtain ⟨rfl, hb3⟩ := hcut
    have hb3' := hb3.mono L2.out
    have HR5 : Hid (∀ k : Kept wc.heap.size wc, (loadVar 28 ⟨w.heap.size, 0, none⟩).run Try.prog k.val = .ok (.agg X) k.val) := Lib.hid (fun k => H5.out _ (hb3'.trans (k.property.mono (by have := hb3.size; have := L2.out; omega))))
    have HR6 : Hid (∀ k : Kept wc.heap.size wc, (loadVar 28 ⟨w.heap.size + 1, 0, none⟩).run Try.prog k.val = .ok (.agg Y) k.val) := Lib.hid (fun k => H6.out _ (hb3'.trans (k.property.mono (by have := hb3.size; have := L2.out; omega))))
    have HR7 : Hid (∀ k : Kept wc.heap.size wc, (loadVar 28 ⟨w.heap.size + 1 + 1, 0, none⟩).run Try.prog k.val = .ok (.agg Z) k.val) := Lib.hid (fun k => H7.out _ (hb3'.trans (k.property.mono (by have := hb3.size; have := L2.out; omega))))
    have HB3 := Lib.hid hb3'
    clear hb3 hb3' hl1 hl2 hl3 hl4 d0 hlf HQ5 C20 C22 C22m C18
    go_upto_region 5 with fail
    go_cut [102] from 67 to 102 (fun c wx => c = .bool false ∧ Below wc.heap.size wc wx)
    case first =>
      clear HLf C26 HST C14 C14s C16 C24s HLI C16s
      rcases t1 with rfl | rfl | rfl
      · have hz : eab = false := by rw [← hp5]; rfl
        subst hz
        clear hp5 hl7
        refine wp_region_kept wc.heap.size wc (Below.refl _ _) (by kernel_rfl) (by kernel_rfl) ?_
        repeat (first
          | (go_big_quiet_want; (with_reducible refine quiet_loadV 28 (.tmp 5) rfl _ ?_ _ HR5.out ?_); rfl; simp only [Act.put, List.setIfInBounds_toArray, List.set_cons_zero, List.set_cons_succ]; go_big_quiet_on)
          | (go_big_quiet_want; (with_reducible refine quiet_loadV 28 (.tmp 6) rfl _ ?_ _ HR6.out ?_); rfl; simp only [Act.put, List.setIfInBounds_toArray, List.set_cons_zero, List.set_cons_succ]; go_big_quiet_on)
          | (go_big_quiet_want; (with_reducible refine quiet_loadV 28 (.tmp 7) rfl _ ?_ _ HR7.out ?_); rfl; simp only [Act.put, List.setIfInBounds_toArray, List.set_cons_zero, List.set_cons_succ]; go_big_quiet_on)
          | go_big_quiet_step (first | (go_at_call 24; with_reducible exact kept_of (Nat.le_refl _) C24ab.out _) | (go_at_call 24; with_reducible exact kept_of (Nat.le_refl _) C24ba.out _) | (go_at_call 24; with_reducible exact kept_of (Nat.le_refl _) C24bc.out _) | (go_at_call 24; with_reducible exact kept_of (Nat.le_refl _) C24ac.out _)))
        refine wpQuiet_nil ?_
        rintro wk ⟨⟨_, hwk⟩, rfl⟩
        go_wp2
        go_meet
        case rel => exact ⟨rfl, hwk⟩
      · have hz : eab = true := by rw [← hp5]; rfl
        subst hz
        clear hp5 hl7
        refine wp_region_kept wc.heap.size wc (Below.refl _ _) (by kernel_rfl) (by kernel_rfl) ?_
        repeat (first
          | (go_big_quiet_want; (with_reducible refine quiet_loadV 28 (.tmp 5) rfl _ ?_ _ HR5.out ?_); rfl; simp only [Act.put, List.setIfInBounds_toArray, List.set_cons_zero, List.set_cons_succ]; go_big_quiet_on)
          | (go_big_quiet_want; (with_reducible refine quiet_loadV 28 (.tmp 6) rfl _ ?_ _ HR6.out ?_); rfl; simp only [Act.put, List.setIfInBounds_toArray, List.set_cons_zero, List.set_cons_succ]; go_big_quiet_on)
          | (go_big_quiet_want; (with_reducible refine quiet_loadV 28 (.tmp 7) rfl _ ?_ _ HR7.out ?_); rfl; simp only [Act.put, List.setIfInBounds_toArray, List.set_cons_zero, List.set_cons_succ]; go_big_quiet_on)
          | go_big_quiet_step (first | (go_at_call 24; with_reducible exact kept_of (Nat.le_refl _) C24ab.out _) | (go_at_call 24; with_reducible exact kept_of (Nat.le_refl _) C24ba.out _) | (go_at_call 24; with_reducible exact kept_of (Nat.le_refl _) C24bc.out _) | (go_at_call 24; with_reducible exact kept_of (Nat.le_refl _) C24ac.out _)))
        refine wpQuiet_nil ?_
        rintro wk ⟨⟨_, hwk⟩, rfl⟩
        go_wp2
        go_meet
        case rel => exact ⟨rfl, hwk⟩
      · have hz : eab = false := by rw [← hp5]; rfl
        subst hz
        by_cases hbc : 0 < cbc
        · have hac : 0 < cac := hl7 (by omega) hbc
          have hac' : ¬ cac ≤ 0 := by omega
          have hbd : decide ((0 : Int) < cbc) = true := decide_eq_true hbc
          have had : decide (cac ≤ (0 : Int)) = false := decide_eq_false hac'
          clear hp5 hl7
          refine wp_region_kept wc.heap.size wc (Below.refl _ _) (by kernel_rfl) (by kernel_rfl) ?_
          repeat (first
            | (go_big_quiet_want; (with_reducible refine quiet_loadV 28 (.tmp 5) rfl _ ?_ _ HR5.out ?_); rfl; simp only [Act.put, List.setIfInBounds_toArray, List.set_cons_zero, List.set_cons_succ]; go_big_quiet_on)
            | (go_big_quiet_want; (with_reducible refine quiet_loadV 28 (.tmp 6) rfl _ ?_ _ HR6.out ?_); rfl; simp only [Act.put, List.setIfInBounds_toArray, List.set_cons_zero, List.set_cons_succ]; go_big_quiet_on)
            | (go_big_quiet_want; (with_reducible refine quiet_loadV 28 (.tmp 7) rfl _ ?_ _ HR7.out ?_); rfl; simp only [Act.put, List.setIfInBounds_toArray, List.set_cons_zero, List.set_cons_succ]; go_big_quiet_on)
            | go_big_quiet_step (first | (go_at_call 24; with_reducible exact kept_of (Nat.le_refl _) C24ab.out _) | (go_at_call 24; with_reducible exact kept_of (Nat.le_refl _) C24ba.out _) | (go_at_call 24; with_reducible exact kept_of (Nat.le_refl _) C24bc.out _) | (go_at_call 24; with_reducible exact kept_of (Nat.le_refl _) C24ac.out _)))
          refine wpQuiet_nil ?_
          rintro wk ⟨⟨_, hwk⟩, rfl⟩
          go_wp2
          go_meet
          case rel => exact ⟨rfl, hwk⟩
        · have hbd : decide ((0 : Int) < cbc) = false := decide_eq_false hbc
          clear hp5 hl7
          refine wp_region_kept wc.heap.size wc (Below.refl _ _) (by kernel_rfl) (by kernel_rfl) ?_
          repeat (first
            | (go_big_quiet_want; (with_reducible refine quiet_loadV 28 (.tmp 5) rfl _ ?_ _ HR5.out ?_); rfl; simp only [Act.put, List.setIfInBounds_toArray, List.set_cons_zero, List.set_cons_succ]; go_big_quiet_on)
            | (go_big_quiet_want; (with_reducible refine quiet_loadV 28 (.tmp 6) rfl _ ?_ _ HR6.out ?_); rfl; simp only [Act.put, List.setIfInBounds_toArray, List.set_cons_zero, List.set_cons_succ]; go_big_quiet_on)
            | (go_big_quiet_want; (with_reducible refine quiet_loadV 28 (.tmp 7) rfl _ ?_ _ HR7.out ?_); rfl; simp only [Act.put, List.setIfInBounds_toArray, List.set_cons_zero, List.set_cons_succ]; go_big_quiet_on)
            | go_big_quiet_step (first | (go_at_call 24; with_reducible exact kept_of (Nat.le_refl _) C24ab.out _) | (go_at_call 24; with_reducible exact kept_of (Nat.le_refl _) C24ba.out _) | (go_at_call 24; with_reducible exact kept_of (Nat.le_refl _) C24bc.out _) | (go_at_call 24; with_reducible exact kept_of (Nat.le_refl _) C24ac.out _)))
          refine wpQuiet_nil ?_
          rintro wk ⟨⟨_, hwk⟩, rfl⟩
          go_wp2
          go_meet
          case rel => exact ⟨rfl, hwk⟩
    case rest =>
      obtain ⟨rfl, hb5⟩ := hcut
      have hb5' := HB3.out.trans (hb5.mono (by have := HB3.out.size; have := L2.out; omega))
      rename_i wd
      clear HR5 HR6 HR7 C24ab C24ba C24bc C24ac hp5 hl7 t1
      go_upto_region 8 with (first
        | ((with_reducible refine wpList_loadV (op := ⟨some 103, _, _, _, _, _⟩) rfl 28 (.tmp 5) rfl _ ?_ _ (H5.out _ hb5') ?_); rfl)
        | (go_at_call 26; (with_reducible refine (C26.out _ hb5').mono ?_); rintro e w1 ⟨rfl, hb6⟩)
        | (with_reducible refine wpList_alloc28 (o := ⟨some 11, _, _, _, _, _⟩) w1.heap.size rfl rfl 11 rfl rfl ?_)
        | ((with_reducible refine wpList_store28n (o := ⟨none, _, _, _, _, _⟩) rfl (.tmp 11) (.tmp 104) rfl w1.heap.size rfl zeroI zs ?_ ?_ ?_); rfl; (rw [HXs.out]; rfl); rw [HXs.out]))
      simp only [Act.put, List.setIfInBounds_toArray, List.set_cons_zero, List.set_cons_succ]
      obtain ⟨hb7, hst⟩ := HST.out _ hb6
      have HQs : Hid (∀ k : Kept (w1.heap.size + 1) (w1.alloc (.cells Zs 28)), (loadVar 28 ⟨w1.heap.size, 0, none⟩).run Try.prog k.val = .ok (.agg Zs) k.val) := Lib.hid (fun k => (hst k).1)
      have hcg : ∀ k : Kept (w1.heap.size + 1) (w1.alloc (.cells Zs 28)), k.val.cell? ⟨w1.heap.size, 23, none⟩ = some (.bool true) := fun k => (hst k).2
      have hsz : (w1.alloc (.cells Zs 28)).heap.size = w1.heap.size + 1 := by simp
      have HQa : Hid (∀ k : Kept (w1.heap.size + 1) (w1.alloc (.cells Zs 28)), (loadVar 28 ⟨w.heap.size, 0, none⟩).run Try.prog k.val = .ok (.agg X) k.val) := Lib.hid (fun k => H5.out _ (hb7.trans (k.property.mono (by have := hb7.size; have := L2.out; omega))))
      have hcs : ∀ k : Kept (w1.heap.size + 1) (w1.alloc (.cells Zs 28)), k.val.cell? ⟨w.heap.size, 20, none⟩ = some (.int .u64 (sq : Int)) := fun k => (HLf.out _ (hb7.trans (k.property.mono (by have := hb7.size; have := L2.out; omega)))).2
      have HB7 := Lib.hid hb7
      have HEND : Hid (∀ W, Below (w1.heap.size + 1) (w1.alloc (.cells Zs 28)) W → Below w.heap.size w W) := Lib.hid (fun W hW => HB.out.trans ((HB7.out.trans (hW.mono (by have := HB7.out.size; have := L2.out; omega))).mono (by omega)))
      have HSZ := Lib.hid hsz
      clear hb5 hb5' hb6 hb7 hst HST C26 H5 H6 H7 HLf HB3 hsz HB7 HXs
      generalize w1.alloc (.cells Zs 28) = w2 at *
      generalize w1.heap.size = p at *
      cases gd
      · clear hgs
        by_cases hq : sq = 18446744073709551615
        · subst hq
          clear hsq
          refine wp_region_kept (p + 1) w2 (Below.refl _ _) (by kernel_rfl) (by kernel_rfl) ?_
          repeat (first
            | (go_big_quiet_want; (with_reducible refine quiet_loadV 28 (.tmp 5) rfl _ ?_ _ HQa.out ?_); rfl; simp only [Act.put, List.setIfInBounds_toArray, List.set_cons_zero, List.set_cons_succ]; go_big_quiet_on)
            | (go_big_quiet_want; (with_reducible refine quiet_loadV 28 (.tmp 11) rfl _ ?_ _ HQs.out ?_); rfl; simp only [Act.put, List.setIfInBounds_toArray, List.set_cons_zero, List.set_cons_succ]; go_big_quiet_on)
            | go_big_quiet_step (first | (go_at_call 14; with_reducible exact kept_of (Nat.le_of_eq HSZ.out.symm) C14.out _) | (go_at_call 14; with_reducible exact kept_of (Nat.le_of_eq HSZ.out.symm) C14s.out _) | (go_at_call 24; with_reducible exact kept_of (Nat.le_of_eq HSZ.out.symm) C24s.out _) | (go_at_call 16; with_reducible exact kept_of (Nat.le_of_eq HSZ.out.symm) C16.out _) | (go_at_call 16; with_reducible exact kept_of (Nat.le_of_eq HSZ.out.symm) C16s.out _) | (go_at_call 11; with_reducible exact kept_of (Nat.le_of_eq HSZ.out.symm) HLI.out _)))
          refine wpQuiet_nil ?_
          rintro wk ⟨⟨_, hwk⟩, rfl⟩
          go_wp2
          go_ret
          exact ⟨by simp, HEND.out _ hwk⟩
        · have hcsa : csa = 1 := hsq hq
          subst hcsa
          have hqd : (sq == 18446744073709551615) = false := by simpa using hq
          have hqi : ((sq : Int) == 18446744073709551615) = false := by rw [beq_eq_false_iff_ne]; omega
          clear hsq
          refine wp_region_kept (p + 1) w2 (Below.refl _ _) (by kernel_rfl) (by kernel_rfl) ?_
          repeat (first
            | (go_big_quiet_want; (with_reducible refine quiet_loadV 28 (.tmp 5) rfl _ ?_ _ HQa.out ?_); rfl; simp only [Act.put, List.setIfInBounds_toArray, List.set_cons_zero, List.set_cons_succ]; go_big_quiet_on)
            | (go_big_quiet_want; (with_reducible refine quiet_loadV 28 (.tmp 11) rfl _ ?_ _ HQs.out ?_); rfl; simp only [Act.put, List.setIfInBounds_toArray, List.set_cons_zero, List.set_cons_succ]; go_big_quiet_on)
            | go_big_quiet_step (first | (go_at_call 14; with_reducible exact kept_of (Nat.le_of_eq HSZ.out.symm) C14.out _) | (go_at_call 14; with_reducible exact kept_of (Nat.le_of_eq HSZ.out.symm) C14s.out _) | (go_at_call 24; with_reducible exact kept_of (Nat.le_of_eq HSZ.out.symm) C24s.out _) | (go_at_call 16; with_reducible exact kept_of (Nat.le_of_eq HSZ.out.symm) C16.out _) | (go_at_call 16; with_reducible exact kept_of (Nat.le_of_eq HSZ.out.symm) C16s.out _) | (go_at_call 11; with_reducible exact kept_of (Nat.le_of_eq HSZ.out.symm) HLI.out _)))
          refine wpQuiet_nil ?_
          rintro wk ⟨⟨_, hwk⟩, rfl⟩
          go_wp2
          go_ret
          exact ⟨by simp, HEND.out _ hwk⟩
      · have hgs1 : gs = true := hgs rfl
        subst hgs1
        clear hgs
        by_cases hq : sq = 18446744073709551615
        · subst hq
          clear hsq
          refine wp_region_kept (p + 1) w2 (Below.refl _ _) (by kernel_rfl) (by kernel_rfl) ?_
          repeat (first
            | (go_big_quiet_want; (with_reducible refine quiet_loadV 28 (.tmp 5) rfl _ ?_ _ HQa.out ?_); rfl; simp only [Act.put, List.setIfInBounds_toArray, List.set_cons_zero, List.set_cons_succ]; go_big_quiet_on)
            | (go_big_quiet_want; (with_reducible refine quiet_loadV 28 (.tmp 11) rfl _ ?_ _ HQs.out ?_); rfl; simp only [Act.put, List.setIfInBounds_toArray, List.set_cons_zero, List.set_cons_succ]; go_big_quiet_on)
            | go_big_quiet_step (first | (go_at_call 14; with_reducible exact kept_of (Nat.le_of_eq HSZ.out.symm) C14.out _) | (go_at_call 14; with_reducible exact kept_of (Nat.le_of_eq HSZ.out.symm) C14s.out _) | (go_at_call 24; with_reducible exact kept_of (Nat.le_of_eq HSZ.out.symm) C24s.out _) | (go_at_call 16; with_reducible exact kept_of (Nat.le_of_eq HSZ.out.symm) C16.out _) | (go_at_call 16; with_reducible exact kept_of (Nat.le_of_eq HSZ.out.symm) C16s.out _) | (go_at_call 11; with_reducible exact kept_of (Nat.le_of_eq HSZ.out.symm) HLI.out _)))
          refine wpQuiet_nil ?_
          rintro wk ⟨⟨_, hwk⟩, rfl⟩
          go_wp2
          go_ret
          exact ⟨by simp, HEND.out _ hwk⟩
        · have hcsa : csa = 1 := hsq hq
          subst hcsa
          have hqd : (sq == 18446744073709551615) = false := by simpa using hq
          have hqi : ((sq : Int) == 18446744073709551615) = false := by rw [beq_eq_false_iff_ne]; omega
          clear hsq
          refine wp_region_kept (p + 1) w2 (Below.refl _ _) (by kernel_rfl) (by kernel_rfl) ?_
          repeat (first
            | (go_big_quiet_want; (with_reducible refine quiet_loadV 28 (.tmp 5) rfl _ ?_ _ HQa.out ?_); rfl; simp only [Act.put, List.setIfInBounds_toArray, List.set_cons_zero, List.set_cons_succ]; go_big_quiet_on)
            | (go_big_quiet_want; (with_reducible refine quiet_loadV 28 (.tmp 11) rfl _ ?_ _ HQs.out ?_); rfl; simp only [Act.put, List.setIfInBounds_toArray, List.set_cons_zero, List.set_cons_succ]; go_big_quiet_on)
            | go_big_quiet_step (first | (go_at_call 14; with_reducible exact kept_of (Nat.le_of_eq HSZ.out.symm) C14.out _) | (go_at_call 14; with_reducible exact kept_of (Nat.le_of_eq HSZ.out.symm) C14s.out _) | (go_at_call 24; with_reducible exact kept_of (Nat.le_of_eq HSZ.out.symm) C24s.out _) | (go_at_call 16; with_reducible exact kept_of (Nat.le_of_eq HSZ.out.symm) C16.out _) | (go_at_call 16; with_reducible exact kept_of (Nat.le_of_eq HSZ.out.symm) C16s.out _) | (go_at_call 11; with_reducible exact kept_of (Nat.le_of_eq HSZ.out.symm) HLI.out _)))
          refine wpQuiet_nil ?_
          rintro wk ⟨⟨_, hwk⟩, rfl⟩
          go_wp2
          go_ret
          exact ⟨by simp, HEND.out _ hwk⟩
theorem ilife_walk (a b c : Ins) (n m : Nat) (hn : n < 18446744073709551616) (hz : a.tgt.length + b.tgt.length + c.tgt.length ≤ 4611686018427387904) (w : World) : Calls Try.prog 6 #[.agg (encI a).toArray, .agg (encI b).toArray, .agg (encI c).toArray, .int .u64 (n : Int), .int .u64 (m : Int)] w fun e w' => e = .returned (.bool true) ∧ Below w.heap.size w w' := by
  by_cases h : 3000 < a.tgt.length + b.tgt.length + c.tgt.length
  · exact ilife_big a b c n m hz h w
  · exact ilife_small a b c n m hn (by omega) w
end Go.Proofs.Ytkceipkgebgigaa
