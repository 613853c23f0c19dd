/- The walk of the statement AddrBack of this seat, where the library's table of powers of ten reads as it is laid. No other condition. -/
import Derived.Test.YtieeffebecghiaaDoorApj
namespace Go.Proofs.YtieeffebecghiaaDoor
set_option maxRecDepth 100000
set_option maxHeartbeats 8000000
open Go.RowKit Go.Lib Go.Great

/-- A call that is not wanted, and alone may come now. -/
theorem skip_one {P : Program} {md : Region.Mode} {ops : Array Oper} {Q : Exit → Act → World → Prop} {S : World → Prop} (i di : Nat) {oi : Oper} {fuel : Nat} {listed : Array Bool} {a : Act} {w : World}
    (hi : ops[i]? = some oi) (hdi : oi.dst = some di) (hr : Region.ready md ops listed = [i]) (wi : Region.wanted oi (yielded ops a.tmps) = false) (hS : S w)
    (h : wpAnyH P md ops Q S fuel (listed.setIfInBounds i true) (a.put (some di) undef) w) : wpAnyH P md ops Q S (fuel + 1) listed a w := by
  refine wpAnyH_ready hr (by simp) (AllReadyH.cons hi (fun K hK => ?_) AllReadyH.nil)
  rw [if_neg (by rw [wi]; decide)]
  refine hK.out _ _ hS (fun _ => ?_)
  rw [hdi]
  exact h
theorem yields_cv {ops : Array Oper} {S : World → Prop} {o : Oper} {a : Act} {xs : List UInt8} {A : Option Addr} {n c : Nat} (hw : Region.wanted o (yielded ops a.tmps) = true) (x : Operand) (ho : o.op = .convert 31 9 x) (hx : a.eval x = .slice A n c) (hn : n = xs.length) (hA : ∀ w, S w → BAt w w.heap.size A xs) : YieldsIf Tryd.prog ops S o (.string (bsA xs)) a :=
  .inl ⟨hw, fun w hS => by
    have hr := run_convert_bat (P := Tryd.prog) 31 9 5 c Tryd.underlying31 Tryd.underlying5 Tryd.underlying9 (hA w hS)
    unfold execOp
    subst hn
    simp only [ho, hx, Sem.run_bind, hr, Result.andThen_ok, Sem.run_pure]
    rfl⟩

theorem aback_far (X Y : Array Value) (B : ByteArray) (A : Option Addr) (n c : Nat) (h : 1000 < B.size ∨ 1000 < n) (w : World) (ht : Tab w) : Calls Tryd.prog 5 #[.agg X, .agg Y, .string B, .slice A n c] w fun e w' => e = .returned (.bool true) ∧ Below w.heap.size w w' := by
  have hq : (1000 : Int) < (B.size : Int) ∨ (¬ (1000 : Int) < (B.size : Int) ∧ (1000 : Int) < (n : Int)) := by omega
  have hb0 := (heap2 w (.cells X 25) (.cells Y 25)).2.2
  have HB := Lib.hid hb0
  have HL := Lib.hid (alives_any _ (ht.on hb0))
  clear h ht hb0
  rcases hq with h | ⟨h, h'⟩
  all_goals
    go_enter Tryd.func5, Tryd.ntmps5
    go_wp2_with (go_at_call 14; (with_reducible refine HL.out.mono ?_); rintro e w2 ⟨rfl, hb2⟩)
    go_ret
    exact ⟨rfl, HB.out.trans (hb2.mono HB.out.size)⟩

theorem aback_near (h p h' p' : Nat) (hh : h < 4294967296) (hp : p < 65536) (hh' : h' < 4294967296) (hp' : p' < 65536) (s : List UInt8) (A : Option Addr) (c : Nat) (xs : List UInt8) (hs : s.length ≤ 1000) (hx : xs.length ≤ 1000) (w : World) (ht : Tab w) (hA : BAt w w.heap.size A xs) :
    Calls Tryd.prog 5 #[.agg (adr h p), .agg (adr h' p'), .string (bsA s), .slice A xs.length c] w fun e w' => e = .returned (.bool true) ∧ Below w.heap.size w w' := by
  obtain ⟨x1, y1, n1, a1, _, k1⟩ := parse_val (adT h p)
  obtain ⟨x2, y2, n2, a2, _, k2⟩ := read_val (adB h p)
  obtain ⟨x3, y3, n3, a3, t3, k3⟩ := parse_val s
  obtain ⟨x4, y4, n4, a4, t4, k4⟩ := read_val xs
  obtain ⟨r1, r2, hb0⟩ := heap2 w (.cells (adr h p) 25) (.cells (adr h' p') 25)
  obtain ⟨W0, hW0⟩ : ∃ W0, W0 = (w.alloc (.cells (adr h p) 25)).alloc (.cells (adr h' p') 25) := ⟨_, rfl⟩
  rw [← hW0] at r1 r2 hb0
  have hT : ∀ W, Below W0.heap.size W0 W → Tab W := fun W hW => (ht.on hb0).on hW
  have hA0 : ∀ W, Below W0.heap.size W0 W → BAt W W.heap.size A xs := fun W hW => (((hA.below hb0).more hb0.size).below hW).more hW.size
  obtain ⟨n, hn⟩ : ∃ n, n = xs.length := ⟨_, rfl⟩
  -- the calls, as values
  have good1 : Hid (goodB h p = true → h = x1 ∧ p = y1 ∧ 0 = n1 ∧ h = x2 ∧ p = y2 ∧ 0 = n2) := Lib.hid (fun hg => by
    have hg' : h ≠ 0 ∧ p ≠ 0 := by unfold goodB at hg; simpa using hg
    have e1 := k1 _ (.inl ⟨h, p, hh, hp, hg'.1, hg'.2, rfl, rfl⟩)
    have e2 := k2.symm.trans (readV_adB hh hp hg'.1 hg'.2)
    unfold adr at e1 e2
    simp at e1 e2
    omega)
  have T1 : Hid (∀ W, Below W0.heap.size W0 W → Calls Tryd.prog 8 #[.agg #[.int .u32 (h : Int), .int .u16 (p : Int)]] W fun e w' => e = .returned (.string (bsA (adT h p))) ∧ Below W.heap.size W w') := Lib.hid (fun W hW => text_any h p hh hp W (hT W hW))
  have T2 : Hid (∀ W, Below W0.heap.size W0 W → Calls Tryd.prog 8 #[.agg #[.int .u32 (h' : Int), .int .u16 (p' : Int)]] W fun e w' => e = .returned (.string (bsA (adT h' p'))) ∧ Below W.heap.size W w') := Lib.hid (fun W hW => text_any h' p' hh' hp' W (hT W hW))
  have P1 : Hid (∀ W, Below W0.heap.size W0 W → Calls Tryd.prog 15 #[.string (bsA (adT h p))] W fun e w' => e = .returned (.tuple #[.agg #[.int .u32 (x1 : Int), .int .u16 (y1 : Int)], .int .i64 (n1 : Int)]) ∧ Below W.heap.size W w') := Lib.hid (fun W hW => (parse_any (adT h p) (by have := adT_len h p hp; omega) W).mono (by rintro e w' ⟨⟨v, rfl, hv⟩, q⟩; exact ⟨by rw [k1 v hv]; rfl, q⟩))
  have P3 : Hid (∀ W, Below W0.heap.size W0 W → Calls Tryd.prog 15 #[.string (bsA s)] W fun e w' => e = .returned (.tuple #[.agg #[.int .u32 (x3 : Int), .int .u16 (y3 : Int)], .int .i64 (n3 : Int)]) ∧ Below W.heap.size W w') := Lib.hid (fun W hW => (parse_any s hs W).mono (by rintro e w' ⟨⟨v, rfl, hv⟩, q⟩; exact ⟨by rw [k3 v hv]; rfl, q⟩))
  have B1 : Hid (∀ W, Calls Tryd.prog 10 #[.agg #[.int .u32 (h : Int), .int .u16 (p : Int)]] W fun e w' => ∃ v, e = .returned v ∧ BsIs (adB h p) v w' ∧ Below W.heap.size W w') := Lib.hid (fun W => bytes_any h p hh hp W)
  have R1 : Hid (∀ v W, BsIs (adB h p) v W → Calls Tryd.prog 17 #[v] W fun e w' => e = .returned (.tuple #[.agg #[.int .u32 (x2 : Int), .int .u16 (y2 : Int)], .int .i64 (n2 : Int)]) ∧ Below W.heap.size W w') := Lib.hid (fun v W hv => by
    obtain ⟨A', c', rfl, _, hA'⟩ := hv
    exact (read_any A' c' (adB h p) (by rw [adB_length]; omega) W hA').mono (by rintro e w' ⟨rfl, q⟩; exact ⟨by rw [k2]; rfl, q⟩))
  have R4 : Hid (∀ W, Below W0.heap.size W0 W → Calls Tryd.prog 17 #[.slice A n c] W fun e w' => e = .returned (.tuple #[.agg #[.int .u32 (x4 : Int), .int .u16 (y4 : Int)], .int .i64 (n4 : Int)]) ∧ Below W.heap.size W w') := Lib.hid (fun W hW => by rw [hn]; exact (read_any A c xs (by omega) W (hA0 W hW)).mono (by rintro e w' ⟨rfl, q⟩; exact ⟨by rw [k4]; rfl, q⟩))
  have G1 : Hid (∀ W, Calls Tryd.prog 6 #[.agg #[.int .u32 (h : Int), .int .u16 (p : Int)]] W fun e w' => e = .returned (.bool (goodB h p)) ∧ Below W.heap.size W w') := Lib.hid (fun W => good_any h p W)
  have Q1 : Hid (∀ W, Calls Tryd.prog 12 #[.agg #[.int .u32 (h : Int), .int .u16 (p : Int)], .agg #[.int .u32 (h' : Int), .int .u16 (p' : Int)]] W fun e w' => e = .returned (.int .i64 (sgnN (getN (adB h p)) (getN (adB h' p')))) ∧ Below W.heap.size W w') := Lib.hid (fun W => acmp_any h p h' p' hh hp hh' hp' W)
  have L1 : Hid (∀ W, Below W0.heap.size W0 W → Calls Tryd.prog 14 #[] W fun e w' => e = .returned (.bool true) ∧ Below W.heap.size W w') := Lib.hid (fun W hW => alives_any W (hT W hW))
  have F3 : Hid (∀ W1 W, Below W0.heap.size W0 W1 → Below W1.heap.size W1 W → Calls Tryd.prog 6 #[.agg #[.int .u32 (x3 : Int), .int .u16 (y3 : Int)]] W fun e w' => ∃ v, e = .returned v ∧ Below W1.heap.size W1 w' ∧ Below W.heap.size W w' ∧ v = .bool (goodB x3 y3)) := Lib.hid (fun W1 W h1 hW => (good_any x3 y3 W).mono (by rintro e w' ⟨rfl, q⟩; exact ⟨_, rfl, hW.trans (q.mono hW.size), q, rfl⟩))
  have F4 : Hid (∀ W1 W, Below W0.heap.size W0 W1 → Below W1.heap.size W1 W → Calls Tryd.prog 6 #[.agg #[.int .u32 (x4 : Int), .int .u16 (y4 : Int)]] W fun e w' => ∃ v, e = .returned v ∧ Below W1.heap.size W1 w' ∧ Below W.heap.size W w' ∧ v = .bool (goodB x4 y4)) := Lib.hid (fun W1 W h1 hW => (good_any x4 y4 W).mono (by rintro e w' ⟨rfl, q⟩; exact ⟨_, rfl, hW.trans (q.mono hW.size), q, rfl⟩))
  have E3 : Hid (∀ W1 W, Below W0.heap.size W0 W1 → Below W1.heap.size W1 W → Calls Tryd.prog 8 #[.agg #[.int .u32 (x3 : Int), .int .u16 (y3 : Int)]] W fun e w' => ∃ v, e = .returned v ∧ Below W1.heap.size W1 w' ∧ Below W.heap.size W w' ∧ v = .string (bsA (adT x3 y3))) := Lib.hid (fun W1 W h1 hW => (text_any x3 y3 a3.hh a3.hp W (hT W (h1.trans (hW.mono h1.size)))).mono (by rintro e w' ⟨rfl, q⟩; exact ⟨_, rfl, hW.trans (q.mono hW.size), q, rfl⟩))
  have E4 : Hid (∀ W1 W, Below W0.heap.size W0 W1 → Below W1.heap.size W1 W → Calls Tryd.prog 10 #[.agg #[.int .u32 (x4 : Int), .int .u16 (y4 : Int)]] W fun e w' => ∃ v, e = .returned v ∧ Below W1.heap.size W1 w' ∧ Below W.heap.size W w' ∧ BsIs (adB x4 y4) v w') := Lib.hid (fun W1 W h1 hW => (bytes_any x4 y4 a4.hh a4.hp W).mono (by rintro e w' ⟨v, rfl, k, q⟩; exact ⟨_, rfl, hW.trans (q.mono hW.size), q, k⟩))
  have D3 : Hid (((n3 : Int) = 0 ∧ goodB x3 y3 = true ∧ adT x3 y3 = s) ∨ (n3 : Int) = 10) := Lib.hid (by
    rcases a3.er with ⟨h1, h2, h3⟩ | h1
    · exact .inl ⟨by omega, by unfold goodB; simp [h2, h3], t3 h1⟩
    · exact .inr (by omega))
  have D4 : Hid (((n4 : Int) = 0 ∧ goodB x4 y4 = true ∧ adB x4 y4 = xs) ∨ (n4 : Int) = 10) := Lib.hid (by
    rcases a4.er with ⟨h1, h2, h3⟩ | h1
    · exact .inl ⟨by omega, by unfold goodB; simp [h2, h3], t4 h1⟩
    · exact .inr (by omega))
  have EQ : Hid ((h = h' ∧ p = p') ∨ (h ≠ h' ∧ bsA (adT h p) ≠ bsA (adT h' p') ∧ sgnN (getN (adB h p)) (getN (adB h' p')) ≠ 0) ∨ (h = h' ∧ p ≠ p' ∧ bsA (adT h p) ≠ bsA (adT h' p') ∧ sgnN (getN (adB h p)) (getN (adB h' p')) ≠ 0)) := Lib.hid (by
    have key : ¬ (h = h' ∧ p = p') → bsA (adT h p) ≠ bsA (adT h' p') ∧ sgnN (getN (adB h p)) (getN (adB h' p')) ≠ 0 := fun hne => by
      refine ⟨fun e => ?_, fun e => ?_⟩
      · have e' : adT h p = adT h' p' := by
          have := congrArg (fun b : ByteArray => b.data.toList) e
          simpa [bsA] using this
        exact hne (adT_inj hh hp hh' hp' e')
      · have := (sgnN_zero _ _).1 e
        rw [getN_adB h p hh hp, getN_adB h' p' hh' hp'] at this
        exact hne ⟨by omega, by omega⟩
    by_cases e1 : h = h'
    · by_cases e2 : p = p'
      · exact .inl ⟨e1, e2⟩
      · exact .inr (.inr ⟨e1, e2, key (fun q => e2 q.2)⟩)
    · exact .inr (.inl ⟨e1, key (fun q => e1 q.1)⟩))
  have hsz := bsA_size s
  have l1 : ¬ (1000 : Int) < ((bsA s).size : Int) := by omega
  have l2 : ¬ (1000 : Int) < (n : Int) := by omega
  have SG : Hid (sgnN (getN (adB h p)) (getN (adB h p)) = 0) := Lib.hid ((sgnN_zero _ _).2 rfl)
  have R : AdrAt W0 [(w.heap.size, 25, h, p), (w.heap.size + 1, 25, h', p')] := AdrAt.cons r1 (AdrAt.cons r2 AdrAt.nil)
  have HB : Below W0.heap.size W0 W0 := Below.refl _ _
  have HBL := Lib.hid hb0
  have HW := Lib.hid hW0
  have HN := Lib.hid hn
  have HA0 := Lib.hid hA0
  rw [← hn]
  clear hA hA0 hn hs hx ht hsz k1 k2 k3 k4 a1 a2 a3 a4 t3 t4 r1 r2 hb0 hW0 hT
  unfold adr at *
  go_enter Tryd.func5, Tryd.ntmps5
  go_upto_region 3 with fail
  rw [← HW.out]
  clear HW
  have q1 := Lib.hid (R.ld25 (g := w.heap.size) (h := h) (p := p) (by first | exact .head _ | exact .tail _ (.head _) | exact .tail _ (.tail _ (.head _)) | exact .tail _ (.tail _ (.tail _ (.head _))) | exact .tail _ (.tail _ (.tail _ (.tail _ (.head _)))) | exact .tail _ (.tail _ (.tail _ (.tail _ (.tail _ (.head _)))))))
  go_upto_region 4 with (first
    | ((with_reducible refine wpList_loadV (op := ⟨some 27, _, _, _, _, _⟩) rfl 25 (.tmp 4) rfl _ ?_ _ q1.out ?_); rfl)
    | (go_at_call 8; (with_reducible refine (T1.out _ HB).mono ?_); rintro e w3 ⟨rfl, hb1⟩; replace R := R.below hb1; replace HB := HB.trans (hb1.mono HB.size); clear hb1)
    | (go_at_call 15; (with_reducible refine (P1.out _ HB).mono ?_); rintro e w3' ⟨rfl, hb1⟩; replace R := R.below hb1; replace HB := HB.trans (hb1.mono HB.size); clear hb1))
  clear q1
  replace R := R.new 25 x1 y1
  replace HB := HB.alloc HB.size (.cells #[.int .u32 (x1 : Int), .int .u16 (y1 : Int)] 25)
  generalize w3'.alloc (.cells #[.int .u32 (x1 : Int), .int .u16 (y1 : Int)] 25) = W3 at R HB ⊢
  generalize w3'.heap.size = g9 at R ⊢
  have q1 := Lib.hid (R.ld25 (g := w.heap.size) (h := h) (p := p) (by first | exact .head _ | exact .tail _ (.head _) | exact .tail _ (.tail _ (.head _)) | exact .tail _ (.tail _ (.tail _ (.head _))) | exact .tail _ (.tail _ (.tail _ (.tail _ (.head _)))) | exact .tail _ (.tail _ (.tail _ (.tail _ (.tail _ (.head _)))))))
  go_upto_region 5 with (first
    | ((with_reducible refine wpList_loadV (op := ⟨some 33, _, _, _, _, _⟩) rfl 25 (.tmp 4) rfl _ ?_ _ q1.out ?_); rfl)
    | (go_at_call 10; (with_reducible refine (B1.out _).mono ?_); rintro e w4 ⟨v34, rfl, hv34, hb1⟩; replace R := R.below hb1; replace HB := HB.trans (hb1.mono HB.size); clear hb1)
    | (go_at_call 17; (with_reducible refine (R1.out _ _ hv34).mono ?_); rintro e w4' ⟨rfl, hb1⟩; replace R := R.below hb1; replace HB := HB.trans (hb1.mono HB.size); clear hb1))
  clear q1 hv34
  replace R := R.new 25 x2 y2
  replace HB := HB.alloc HB.size (.cells #[.int .u32 (x2 : Int), .int .u16 (y2 : Int)] 25)
  generalize w4'.alloc (.cells #[.int .u32 (x2 : Int), .int .u16 (y2 : Int)] 25) = W4 at R HB ⊢
  generalize w4'.heap.size = g11 at R ⊢
  obtain ⟨gg, hgg⟩ : ∃ gg, gg = goodB h p := ⟨_, rfl⟩
  rw [← hgg] at G1
  have HGG := Lib.hid hgg
  clear hgg
  cases gg
  · have q1 := Lib.hid (R.ld25 (g := w.heap.size) (h := h) (p := p) (by first | exact .head _ | exact .tail _ (.head _) | exact .tail _ (.tail _ (.head _)) | exact .tail _ (.tail _ (.tail _ (.head _))) | exact .tail _ (.tail _ (.tail _ (.tail _ (.head _)))) | exact .tail _ (.tail _ (.tail _ (.tail _ (.tail _ (.head _)))))))
    go_upto_region 7 with (first
      | ((with_reducible refine wpList_loadV (op := ⟨some 38, _, _, _, _, _⟩) rfl 25 (.tmp 4) rfl _ ?_ _ q1.out ?_); rfl)
      | (go_at_call 6; (with_reducible refine (G1.out _).mono ?_); rintro e w5 ⟨rfl, hb1⟩; replace R := R.below hb1; replace HB := HB.trans (hb1.mono HB.size); clear hb1))
    clear q1
    rcases EQ.out with ⟨e1, e2⟩ | ⟨e1, eT, eC⟩ | ⟨e1, e2, eT, eC⟩
    case' inl =>
      subst e1
      subst e2
      rw [SG.out] at Q1
      generalize bsA (adT h p) = TA at *
      have M4 : Hid (∀ nk : Kept w5.heap.size w5, (loadVar 25 ⟨w.heap.size, 0, none⟩).run Tryd.prog nk.val = .ok (.agg #[.int .u32 (h : Int), .int .u16 (p : Int)]) nk.val) := Lib.hid (fun nk => (R.below nk.property).ld25 (g := w.heap.size) (h := h) (p := p) (by first | exact .head _ | exact .tail _ (.head _) | exact .tail _ (.tail _ (.head _)) | exact .tail _ (.tail _ (.tail _ (.head _))) | exact .tail _ (.tail _ (.tail _ (.tail _ (.head _)))) | exact .tail _ (.tail _ (.tail _ (.tail _ (.tail _ (.head _)))))))
      have M5 : Hid (∀ nk : Kept w5.heap.size w5, (loadVar 25 ⟨w.heap.size + 1, 0, none⟩).run Tryd.prog nk.val = .ok (.agg #[.int .u32 (h : Int), .int .u16 (p : Int)]) nk.val) := Lib.hid (fun nk => (R.below nk.property).ld25 (g := w.heap.size + 1) (h := h) (p := p) (by first | exact .head _ | exact .tail _ (.head _) | exact .tail _ (.tail _ (.head _)) | exact .tail _ (.tail _ (.tail _ (.head _))) | exact .tail _ (.tail _ (.tail _ (.tail _ (.head _)))) | exact .tail _ (.tail _ (.tail _ (.tail _ (.tail _ (.head _)))))))
      have T1' : Hid (∀ nk : Kept w5.heap.size w5, Calls Tryd.prog 8 #[.agg #[.int .u32 (h : Int), .int .u16 (p : Int)]] nk.val fun e w' => e = .returned (.string TA) ∧ Below nk.val.heap.size nk.val w') := Lib.hid (fun nk => T1.out _ (HB.trans (nk.property.mono HB.size)))
      have T2' : Hid (∀ nk : Kept w5.heap.size w5, Calls Tryd.prog 8 #[.agg #[.int .u32 (h : Int), .int .u16 (p : Int)]] nk.val fun e w' => e = .returned (.string TA) ∧ Below nk.val.heap.size nk.val w') := Lib.hid (fun nk => T2.out _ (HB.trans (nk.property.mono HB.size)))
      refine wp_region_kept w5.heap.size w5 (Below.refl _ _) (by kernel_rfl) (by kernel_rfl) ?_
      repeat (first
        | (go_big_quiet_want; (with_reducible refine quiet_loadV 25 (.tmp 4) rfl _ ?_ _ M4.out ?_); rfl; simp only [Act.put, List.setIfInBounds_toArray, List.set_cons_zero, List.set_cons_succ]; go_big_quiet_on)
        | (go_big_quiet_want; (with_reducible refine quiet_loadV 25 (.tmp 5) rfl _ ?_ _ M5.out ?_); rfl; simp only [Act.put, List.setIfInBounds_toArray, List.set_cons_zero, List.set_cons_succ]; go_big_quiet_on)
        | go_big_quiet_step (first
          | (go_at_call 8; with_reducible exact kept_ofS (Nat.le_refl _) T1'.out _)
          | (go_at_call 8; with_reducible exact kept_ofS (Nat.le_refl _) T2'.out _)
          | (go_at_call 12; with_reducible exact kept_of (Nat.le_refl _) Q1.out _)))
      refine wpQuiet_nil ?_
      rintro _ ⟨⟨wk, hwk⟩, rfl⟩
      replace R := R.below hwk
      replace HB := HB.trans (hwk.mono HB.size)
      clear hwk M4 M5 T1 T2 T1' T2' Q1 B1 R1 G1
    case' inr.inl =>
      have ne1 : ¬ (h : Int) = (h' : Int) := by omega
      generalize bsA (adT h' p') = TB at *
      generalize sgnN (getN (adB h p)) (getN (adB h' p')) = cc at *
      generalize bsA (adT h p) = TA at *
      have hTT : ¬ TA.toList = TB.toList := fun e => eT (ByteArray.ext (Array.ext' (by rw [← ByteArray.toList_eq, ← ByteArray.toList_eq]; exact e)))
      have hTE : (TA.toList == TB.toList) = false := by rw [beq_eq_false_iff_ne]; exact hTT
      have hCE : (cc == 0) = false := by rw [beq_eq_false_iff_ne]; exact eC
      have M4 : Hid (∀ nk : Kept w5.heap.size w5, (loadVar 25 ⟨w.heap.size, 0, none⟩).run Tryd.prog nk.val = .ok (.agg #[.int .u32 (h : Int), .int .u16 (p : Int)]) nk.val) := Lib.hid (fun nk => (R.below nk.property).ld25 (g := w.heap.size) (h := h) (p := p) (by first | exact .head _ | exact .tail _ (.head _) | exact .tail _ (.tail _ (.head _)) | exact .tail _ (.tail _ (.tail _ (.head _))) | exact .tail _ (.tail _ (.tail _ (.tail _ (.head _)))) | exact .tail _ (.tail _ (.tail _ (.tail _ (.tail _ (.head _)))))))
      have M5 : Hid (∀ nk : Kept w5.heap.size w5, (loadVar 25 ⟨w.heap.size + 1, 0, none⟩).run Tryd.prog nk.val = .ok (.agg #[.int .u32 (h' : Int), .int .u16 (p' : Int)]) nk.val) := Lib.hid (fun nk => (R.below nk.property).ld25 (g := w.heap.size + 1) (h := h') (p := p') (by first | exact .head _ | exact .tail _ (.head _) | exact .tail _ (.tail _ (.head _)) | exact .tail _ (.tail _ (.tail _ (.head _))) | exact .tail _ (.tail _ (.tail _ (.tail _ (.head _)))) | exact .tail _ (.tail _ (.tail _ (.tail _ (.tail _ (.head _)))))))
      have T1' : Hid (∀ nk : Kept w5.heap.size w5, Calls Tryd.prog 8 #[.agg #[.int .u32 (h : Int), .int .u16 (p : Int)]] nk.val fun e w' => e = .returned (.string TA) ∧ Below nk.val.heap.size nk.val w') := Lib.hid (fun nk => T1.out _ (HB.trans (nk.property.mono HB.size)))
      have T2' : Hid (∀ nk : Kept w5.heap.size w5, Calls Tryd.prog 8 #[.agg #[.int .u32 (h' : Int), .int .u16 (p' : Int)]] nk.val fun e w' => e = .returned (.string TB) ∧ Below nk.val.heap.size nk.val w') := Lib.hid (fun nk => T2.out _ (HB.trans (nk.property.mono HB.size)))
      refine wp_region_kept w5.heap.size w5 (Below.refl _ _) (by kernel_rfl) (by kernel_rfl) ?_
      repeat (first
        | (go_big_quiet_want; (with_reducible refine quiet_loadV 25 (.tmp 4) rfl _ ?_ _ M4.out ?_); rfl; simp only [Act.put, List.setIfInBounds_toArray, List.set_cons_zero, List.set_cons_succ]; go_big_quiet_on)
        | (go_big_quiet_want; (with_reducible refine quiet_loadV 25 (.tmp 5) rfl _ ?_ _ M5.out ?_); rfl; simp only [Act.put, List.setIfInBounds_toArray, List.set_cons_zero, List.set_cons_succ]; go_big_quiet_on)
        | go_big_quiet_step (first
          | (go_at_call 8; with_reducible exact kept_ofS (Nat.le_refl _) T1'.out _)
          | (go_at_call 8; with_reducible exact kept_ofS (Nat.le_refl _) T2'.out _)
          | (go_at_call 12; with_reducible exact kept_of (Nat.le_refl _) Q1.out _)))
      refine wpQuiet_nil ?_
      rintro _ ⟨⟨wk, hwk⟩, rfl⟩
      replace R := R.below hwk
      replace HB := HB.trans (hwk.mono HB.size)
      clear hwk M4 M5 T1 T2 T1' T2' Q1 B1 R1 G1
    case' inr.inr =>
      subst e1
      have ne1 : ¬ (p : Int) = (p' : Int) := by omega
      generalize bsA (adT h p') = TB at *
      generalize sgnN (getN (adB h p)) (getN (adB h p')) = cc at *
      generalize bsA (adT h p) = TA at *
      have hTT : ¬ TA.toList = TB.toList := fun e => eT (ByteArray.ext (Array.ext' (by rw [← ByteArray.toList_eq, ← ByteArray.toList_eq]; exact e)))
      have hTE : (TA.toList == TB.toList) = false := by rw [beq_eq_false_iff_ne]; exact hTT
      have hCE : (cc == 0) = false := by rw [beq_eq_false_iff_ne]; exact eC
      have M4 : Hid (∀ nk : Kept w5.heap.size w5, (loadVar 25 ⟨w.heap.size, 0, none⟩).run Tryd.prog nk.val = .ok (.agg #[.int .u32 (h : Int), .int .u16 (p : Int)]) nk.val) := Lib.hid (fun nk => (R.below nk.property).ld25 (g := w.heap.size) (h := h) (p := p) (by first | exact .head _ | exact .tail _ (.head _) | exact .tail _ (.tail _ (.head _)) | exact .tail _ (.tail _ (.tail _ (.head _))) | exact .tail _ (.tail _ (.tail _ (.tail _ (.head _)))) | exact .tail _ (.tail _ (.tail _ (.tail _ (.tail _ (.head _)))))))
      have M5 : Hid (∀ nk : Kept w5.heap.size w5, (loadVar 25 ⟨w.heap.size + 1, 0, none⟩).run Tryd.prog nk.val = .ok (.agg #[.int .u32 (h : Int), .int .u16 (p' : Int)]) nk.val) := Lib.hid (fun nk => (R.below nk.property).ld25 (g := w.heap.size + 1) (h := h) (p := p') (by first | exact .head _ | exact .tail _ (.head _) | exact .tail _ (.tail _ (.head _)) | exact .tail _ (.tail _ (.tail _ (.head _))) | exact .tail _ (.tail _ (.tail _ (.tail _ (.head _)))) | exact .tail _ (.tail _ (.tail _ (.tail _ (.tail _ (.head _)))))))
      have T1' : Hid (∀ nk : Kept w5.heap.size w5, Calls Tryd.prog 8 #[.agg #[.int .u32 (h : Int), .int .u16 (p : Int)]] nk.val fun e w' => e = .returned (.string TA) ∧ Below nk.val.heap.size nk.val w') := Lib.hid (fun nk => T1.out _ (HB.trans (nk.property.mono HB.size)))
      have T2' : Hid (∀ nk : Kept w5.heap.size w5, Calls Tryd.prog 8 #[.agg #[.int .u32 (h : Int), .int .u16 (p' : Int)]] nk.val fun e w' => e = .returned (.string TB) ∧ Below nk.val.heap.size nk.val w') := Lib.hid (fun nk => T2.out _ (HB.trans (nk.property.mono HB.size)))
      refine wp_region_kept w5.heap.size w5 (Below.refl _ _) (by kernel_rfl) (by kernel_rfl) ?_
      repeat (first
        | (go_big_quiet_want; (with_reducible refine quiet_loadV 25 (.tmp 4) rfl _ ?_ _ M4.out ?_); rfl; simp only [Act.put, List.setIfInBounds_toArray, List.set_cons_zero, List.set_cons_succ]; go_big_quiet_on)
        | (go_big_quiet_want; (with_reducible refine quiet_loadV 25 (.tmp 5) rfl _ ?_ _ M5.out ?_); rfl; simp only [Act.put, List.setIfInBounds_toArray, List.set_cons_zero, List.set_cons_succ]; go_big_quiet_on)
        | go_big_quiet_step (first
          | (go_at_call 8; with_reducible exact kept_ofS (Nat.le_refl _) T1'.out _)
          | (go_at_call 8; with_reducible exact kept_ofS (Nat.le_refl _) T2'.out _)
          | (go_at_call 12; with_reducible exact kept_of (Nat.le_refl _) Q1.out _)))
      refine wpQuiet_nil ?_
      rintro _ ⟨⟨wk, hwk⟩, rfl⟩
      replace R := R.below hwk
      replace HB := HB.trans (hwk.mono HB.size)
      clear hwk M4 M5 T1 T2 T1' T2' Q1 B1 R1 G1
    all_goals
      go_upto_region 10 with (go_at_call 15; (with_reducible refine (P3.out _ HB).mono ?_); rintro e w9 ⟨rfl, hb1⟩; replace R := R.below hb1; replace HB := HB.trans (hb1.mono HB.size); clear hb1)
      replace R := R.new 25 x3 y3
      replace HB := HB.alloc HB.size (.cells #[.int .u32 (x3 : Int), .int .u16 (y3 : Int)] 25)
      generalize w9.alloc (.cells #[.int .u32 (x3 : Int), .int .u16 (y3 : Int)] 25) = W9 at R HB ⊢
      generalize w9.heap.size = g13 at R ⊢
      go_upto_region 11 with (go_at_call 17; (with_reducible refine (R4.out _ HB).mono ?_); rintro e w10 ⟨rfl, hb1⟩; replace R := R.below hb1; replace HB := HB.trans (hb1.mono HB.size); clear hb1)
      replace R := R.new 25 x4 y4
      replace HB := HB.alloc HB.size (.cells #[.int .u32 (x4 : Int), .int .u16 (y4 : Int)] 25)
      generalize w10.alloc (.cells #[.int .u32 (x4 : Int), .int .u16 (y4 : Int)] 25) = W10 at R HB ⊢
      generalize w10.heap.size = g15 at R ⊢
      rcases D3.out with d3 | d3
      · rcases D4.out with d4 | d4
        · have N13 : Hid (∀ W, Below W10.heap.size W10 W → (loadVar 25 ⟨g13, 0, none⟩).run Tryd.prog W = .ok (.agg #[.int .u32 (x3 : Int), .int .u16 (y3 : Int)]) W) := Lib.hid (fun W hW => (R.below hW).ld25 (g := g13) (h := x3) (p := y3) (by first | exact .head _ | exact .tail _ (.head _) | exact .tail _ (.tail _ (.head _)) | exact .tail _ (.tail _ (.tail _ (.head _))) | exact .tail _ (.tail _ (.tail _ (.tail _ (.head _)))) | exact .tail _ (.tail _ (.tail _ (.tail _ (.tail _ (.head _)))))))
          have N15 : Hid (∀ W, Below W10.heap.size W10 W → (loadVar 25 ⟨g15, 0, none⟩).run Tryd.prog W = .ok (.agg #[.int .u32 (x4 : Int), .int .u16 (y4 : Int)]) W) := Lib.hid (fun W hW => (R.below hW).ld25 (g := g15) (h := x4) (p := y4) (by first | exact .head _ | exact .tail _ (.head _) | exact .tail _ (.tail _ (.head _)) | exact .tail _ (.tail _ (.tail _ (.head _))) | exact .tail _ (.tail _ (.tail _ (.tail _ (.head _)))) | exact .tail _ (.tail _ (.tail _ (.tail _ (.tail _ (.head _)))))))
          have HAX : Hid (∀ W, Below W10.heap.size W10 W → BAt W W.heap.size A xs) := Lib.hid (fun W hW => HA0.out W (HB.trans (hW.mono HB.size)))
          have HBX := Lib.hid HB
          have hS0 : Below W10.heap.size W10 W10.drew := (Below.refl _ W10).drew
          clear HB R
          obtain ⟨z1, z2, z3⟩ := d3
          rw [z1]
          rw [z2] at F3
          rw [z3] at E3
          obtain ⟨y1', y2', y3'⟩ := d4
          rw [y1']
          rw [y2'] at F4
          rw [y3'] at E4
          generalize bsA s = SS at *
          refine wp_region_noPanic ?_
          refine wp_region_held_drew (S := fun w' => Below W10.heap.size W10 w') (by kernel_rfl) hS0 (fun hHeld => ?_)
          refine takeH_at 0 87 (v := ?_) rfl rfl (by kernel_rfl) (by kernel_rfl) (by kernel_rfl) (fun _ _ _ h => h) (Or.inl ⟨by rfl, ?_⟩) (by assumption) ?_
          rotate_left
          · (intro wx hSw; clear hSw; go_simp) <;> with_reducible rfl
          simp only [Act.put, List.setIfInBounds_toArray, List.set_cons_zero, List.set_cons_succ]
          refine takeH_at 1 88 (v := ?_) rfl rfl (by kernel_rfl) (by kernel_rfl) (by kernel_rfl) (fun _ _ _ h => h) (Or.inl ⟨by rfl, ?_⟩) (by assumption) ?_
          rotate_left
          · (intro wx hSw; clear hSw; go_simp) <;> with_reducible rfl
          simp only [Act.put, List.setIfInBounds_toArray, List.set_cons_zero, List.set_cons_succ]
          refine takeH_at 2 89 (v := ?_) rfl rfl (by kernel_rfl) (by kernel_rfl) (by kernel_rfl) (fun _ _ _ h => h) (Or.inl ⟨by rfl, ?_⟩) (by assumption) ?_
          rotate_left
          · (intro wx hSw; clear hSw; go_simp) <;> with_reducible rfl
          simp only [Act.put, List.setIfInBounds_toArray, List.set_cons_zero, List.set_cons_succ]
          refine takeH_at 3 90 (v := .agg #[.int .u32 (x3 : Int), .int .u16 (y3 : Int)]) rfl rfl (by kernel_rfl) (by kernel_rfl) (by kernel_rfl) (fun _ _ _ h => h) (yieldsIf_loadS (by rfl) 25 (.tmp 13) rfl _ rfl _ N13.out) (by assumption) ?_
          simp only [Act.put, List.setIfInBounds_toArray, List.set_cons_zero, List.set_cons_succ]
          refine single 4 91 rfl rfl (by kernel_rfl) (by rfl) (fun v _ => v = .bool true) (looseR_call 6 rfl (enters_of Tryd.func6 (by kernel_rfl) rfl) _ (by simp only [List.map_toArray, List.map_cons, List.map_nil]; rfl) (F3.out _ _ HBX.out hHeld)) ?_
          intro v91 wa hSwa hbwa hewa
          subst hewa
          simp only [Act.put, List.setIfInBounds_toArray, List.set_cons_zero, List.set_cons_succ]
          refine takeH_at 5 92 (v := ?_) rfl rfl (by kernel_rfl) (by kernel_rfl) (by kernel_rfl) (fun _ _ _ h => h) (Or.inl ⟨by rfl, ?_⟩) (by assumption) ?_
          rotate_left
          · (intro wx hSw; clear hSw; go_simp) <;> with_reducible rfl
          simp only [Act.put, List.setIfInBounds_toArray, List.set_cons_zero, List.set_cons_succ]
          refine takeH_at 6 93 (v := ?_) rfl rfl (by kernel_rfl) (by kernel_rfl) (by kernel_rfl) (fun _ _ _ h => h) (Or.inl ⟨by rfl, ?_⟩) (by assumption) ?_
          rotate_left
          · (intro wx hSw; clear hSw; go_simp) <;> with_reducible rfl
          simp only [Act.put, List.setIfInBounds_toArray, List.set_cons_zero, List.set_cons_succ]
          refine takeH_at 7 94 (v := .agg #[.int .u32 (x3 : Int), .int .u16 (y3 : Int)]) rfl rfl (by kernel_rfl) (by kernel_rfl) (by kernel_rfl) (fun _ _ _ h => h) (yieldsIf_loadS (by rfl) 25 (.tmp 13) rfl _ rfl _ N13.out) (by assumption) ?_
          simp only [Act.put, List.setIfInBounds_toArray, List.set_cons_zero, List.set_cons_succ]
          refine takeH_at 9 96 (v := ?_) rfl rfl (by kernel_rfl) (by kernel_rfl) (by kernel_rfl) (fun _ _ _ h => h) (Or.inl ⟨by rfl, ?_⟩) (by assumption) ?_
          rotate_left
          · (intro wx hSw; clear hSw; go_simp) <;> with_reducible rfl
          simp only [Act.put, List.setIfInBounds_toArray, List.set_cons_zero, List.set_cons_succ]
          refine single 8 95 rfl rfl (by kernel_rfl) (by rfl) (fun v _ => v = .string SS) (looseR_call 8 rfl (enters_of Tryd.func8 (by kernel_rfl) rfl) _ (by simp only [List.map_toArray, List.map_cons, List.map_nil]; rfl) (E3.out _ _ HBX.out hSwa)) ?_
          intro v95 wb hSwb hbwb hewb
          subst hewb
          simp only [Act.put, List.setIfInBounds_toArray, List.set_cons_zero, List.set_cons_succ]
          refine takeH_at 10 97 (v := ?_) rfl rfl (by kernel_rfl) (by kernel_rfl) (by kernel_rfl) (fun _ _ _ h => h) (Or.inl ⟨by rfl, ?_⟩) (by assumption) ?_
          rotate_left
          · (intro wx hSw; clear hSw; go_simp) <;> with_reducible rfl
          simp only [Act.put, List.setIfInBounds_toArray, List.set_cons_zero, List.set_cons_succ]
          refine takeH_at 11 98 (v := ?_) rfl rfl (by kernel_rfl) (by kernel_rfl) (by kernel_rfl) (fun _ _ _ h => h) (Or.inl ⟨by rfl, ?_⟩) (by assumption) ?_
          rotate_left
          · (intro wx hSw; clear hSw; go_simp) <;> with_reducible rfl
          simp only [Act.put, List.setIfInBounds_toArray, List.set_cons_zero, List.set_cons_succ]
          refine takeH_at 12 99 (v := ?_) rfl rfl (by kernel_rfl) (by kernel_rfl) (by kernel_rfl) (fun _ _ _ h => h) (Or.inl ⟨by rfl, ?_⟩) (by assumption) ?_
          rotate_left
          · (intro wx hSw; clear hSw; go_simp) <;> with_reducible rfl
          simp only [Act.put, List.setIfInBounds_toArray, List.set_cons_zero, List.set_cons_succ]
          refine takeH_at 13 100 (v := ?_) rfl rfl (by kernel_rfl) (by kernel_rfl) (by kernel_rfl) (fun _ _ _ h => h) (Or.inl ⟨by rfl, ?_⟩) (by assumption) ?_
          rotate_left
          · (intro wx hSw; clear hSw; go_simp) <;> with_reducible rfl
          simp only [Act.put, List.setIfInBounds_toArray, List.set_cons_zero, List.set_cons_succ]
          refine takeH_at 14 101 (v := ?_) rfl rfl (by kernel_rfl) (by kernel_rfl) (by kernel_rfl) (fun _ _ _ h => h) (Or.inl ⟨by rfl, ?_⟩) (by assumption) ?_
          rotate_left
          · (intro wx hSw; clear hSw; go_simp) <;> with_reducible rfl
          simp only [Act.put, List.setIfInBounds_toArray, List.set_cons_zero, List.set_cons_succ]
          refine takeH_at 15 102 (v := ?_) rfl rfl (by kernel_rfl) (by kernel_rfl) (by kernel_rfl) (fun _ _ _ h => h) (Or.inl ⟨by rfl, ?_⟩) (by assumption) ?_
          rotate_left
          · (intro wx hSw; clear hSw; go_simp) <;> with_reducible rfl
          simp only [Act.put, List.setIfInBounds_toArray, List.set_cons_zero, List.set_cons_succ]
          refine takeH_at 16 103 (v := ?_) rfl rfl (by kernel_rfl) (by kernel_rfl) (by kernel_rfl) (fun _ _ _ h => h) (Or.inl ⟨by rfl, ?_⟩) (by assumption) ?_
          rotate_left
          · (intro wx hSw; clear hSw; go_simp) <;> with_reducible rfl
          simp only [Act.put, List.setIfInBounds_toArray, List.set_cons_zero, List.set_cons_succ]
          refine takeH_at 17 104 (v := .agg #[.int .u32 (x4 : Int), .int .u16 (y4 : Int)]) rfl rfl (by kernel_rfl) (by kernel_rfl) (by kernel_rfl) (fun _ _ _ h => h) (yieldsIf_loadS (by rfl) 25 (.tmp 15) rfl _ rfl _ N15.out) (by assumption) ?_
          simp only [Act.put, List.setIfInBounds_toArray, List.set_cons_zero, List.set_cons_succ]
          refine single 18 105 rfl rfl (by kernel_rfl) (by rfl) (fun v _ => v = .bool true) (looseR_call 6 rfl (enters_of Tryd.func6 (by kernel_rfl) rfl) _ (by simp only [List.map_toArray, List.map_cons, List.map_nil]; rfl) (F4.out _ _ HBX.out hSwb)) ?_
          intro v105 wc hSwc hbwc hewc
          subst hewc
          simp only [Act.put, List.setIfInBounds_toArray, List.set_cons_zero, List.set_cons_succ]
          refine takeH_at 19 106 (v := ?_) rfl rfl (by kernel_rfl) (by kernel_rfl) (by kernel_rfl) (fun _ _ _ h => h) (Or.inl ⟨by rfl, ?_⟩) (by assumption) ?_
          rotate_left
          · (intro wx hSw; clear hSw; go_simp) <;> with_reducible rfl
          simp only [Act.put, List.setIfInBounds_toArray, List.set_cons_zero, List.set_cons_succ]
          refine takeH_at 20 107 (v := ?_) rfl rfl (by kernel_rfl) (by kernel_rfl) (by kernel_rfl) (fun _ _ _ h => h) (Or.inl ⟨by rfl, ?_⟩) (by assumption) ?_
          rotate_left
          · (intro wx hSw; clear hSw; go_simp) <;> with_reducible rfl
          simp only [Act.put, List.setIfInBounds_toArray, List.set_cons_zero, List.set_cons_succ]
          refine takeH_at 21 108 (v := .agg #[.int .u32 (x4 : Int), .int .u16 (y4 : Int)]) rfl rfl (by kernel_rfl) (by kernel_rfl) (by kernel_rfl) (fun _ _ _ h => h) (yieldsIf_loadS (by rfl) 25 (.tmp 15) rfl _ rfl _ N15.out) (by assumption) ?_
          simp only [Act.put, List.setIfInBounds_toArray, List.set_cons_zero, List.set_cons_succ]
          refine takeH_at 24 111 (v := ?_) rfl rfl (by kernel_rfl) (by kernel_rfl) (by kernel_rfl) (fun _ _ _ h => h) (Or.inl ⟨by rfl, ?_⟩) (by assumption) ?_
          rotate_left
          · (intro wx hSw; clear hSw; go_simp) <;> with_reducible rfl
          simp only [Act.put, List.setIfInBounds_toArray, List.set_cons_zero, List.set_cons_succ]
          refine takeH_at 25 112 (v := .string (bsA xs)) rfl rfl (by kernel_rfl) (by kernel_rfl) (by kernel_rfl) (fun _ _ _ h => h) (yields_cv (by rfl) (.tmp 111) (by rfl) (by rfl) HN.out HAX.out) (by assumption) ?_
          simp only [Act.put, List.setIfInBounds_toArray, List.set_cons_zero, List.set_cons_succ]
          refine single 22 109 rfl rfl (by kernel_rfl) (by rfl) (fun v w' => BsIs xs v w') (looseR_call 10 rfl (enters_of Tryd.func10 (by kernel_rfl) rfl) _ (by simp only [List.map_toArray, List.map_cons, List.map_nil]; rfl) (E4.out _ _ HBX.out hSwc)) ?_
          intro v109 wd hSwd hbwd hewd
          simp only [Act.put, List.setIfInBounds_toArray, List.set_cons_zero, List.set_cons_succ]
          refine single 23 110 rfl rfl (by kernel_rfl) (by rfl) (fun v _ => v = .string (bsA xs)) (looseR_cv (v := v109) (.tmp 109) (by rfl) (by rfl) hewd hSwd) ?_
          intro v110 we hSwe hbwe hewe
          subst hewe
          simp only [Act.put, List.setIfInBounds_toArray, List.set_cons_zero, List.set_cons_succ]
          generalize bsA xs = SX
          refine takeH_at 26 113 (v := ?_) rfl rfl (by kernel_rfl) (by kernel_rfl) (by kernel_rfl) (fun _ _ _ h => h) (Or.inl ⟨by rfl, ?_⟩) (by assumption) ?_
          rotate_left
          · (intro wx hSw; clear hSw; go_simp) <;> with_reducible rfl
          simp only [Act.put, List.setIfInBounds_toArray, List.set_cons_zero, List.set_cons_succ]
          refine takeH_at 27 114 (v := ?_) rfl rfl (by kernel_rfl) (by kernel_rfl) (by kernel_rfl) (fun _ _ _ h => h) (Or.inl ⟨by rfl, ?_⟩) (by assumption) ?_
          rotate_left
          · (intro wx hSw; clear hSw; go_simp) <;> with_reducible rfl
          simp only [Act.put, List.setIfInBounds_toArray, List.set_cons_zero, List.set_cons_succ]
          refine takeH_at 28 115 (v := ?_) rfl rfl (by kernel_rfl) (by kernel_rfl) (by kernel_rfl) (fun _ _ _ h => h) (Or.inl ⟨by rfl, ?_⟩) (by assumption) ?_
          rotate_left
          · (intro wx hSw; clear hSw; go_simp) <;> with_reducible rfl
          simp only [Act.put, List.setIfInBounds_toArray, List.set_cons_zero, List.set_cons_succ]
          refine takeH_at 29 116 (v := ?_) rfl rfl (by kernel_rfl) (by kernel_rfl) (by kernel_rfl) (fun _ _ _ h => h) (Or.inl ⟨by rfl, ?_⟩) (by assumption) ?_
          rotate_left
          · (intro wx hSw; clear hSw; go_simp) <;> with_reducible rfl
          simp only [Act.put, List.setIfInBounds_toArray, List.set_cons_zero, List.set_cons_succ]
          refine wpAnyH_done (by kernel_rfl) ?_ _
          refine NoPanic.normal ?_
          have HF := Lib.hid (HBX.out.trans (hSwe.mono HBX.out.size))
          have HLL := Lib.hid (L1.out _ HF.out)
          clear hSwe
          go_wp2_with (go_at_call 14; (with_reducible refine HLL.out.mono ?_); rintro e wz ⟨rfl, hbz⟩)
          go_ret
          exact ⟨rfl, HBL.out.trans ((HF.out.trans (hbz.mono HF.out.size)).mono HBL.out.size)⟩
        · have N13 : Hid (∀ W, Below W10.heap.size W10 W → (loadVar 25 ⟨g13, 0, none⟩).run Tryd.prog W = .ok (.agg #[.int .u32 (x3 : Int), .int .u16 (y3 : Int)]) W) := Lib.hid (fun W hW => (R.below hW).ld25 (g := g13) (h := x3) (p := y3) (by first | exact .head _ | exact .tail _ (.head _) | exact .tail _ (.tail _ (.head _)) | exact .tail _ (.tail _ (.tail _ (.head _))) | exact .tail _ (.tail _ (.tail _ (.tail _ (.head _)))) | exact .tail _ (.tail _ (.tail _ (.tail _ (.tail _ (.head _)))))))
          have N15 : Hid (∀ W, Below W10.heap.size W10 W → (loadVar 25 ⟨g15, 0, none⟩).run Tryd.prog W = .ok (.agg #[.int .u32 (x4 : Int), .int .u16 (y4 : Int)]) W) := Lib.hid (fun W hW => (R.below hW).ld25 (g := g15) (h := x4) (p := y4) (by first | exact .head _ | exact .tail _ (.head _) | exact .tail _ (.tail _ (.head _)) | exact .tail _ (.tail _ (.tail _ (.head _))) | exact .tail _ (.tail _ (.tail _ (.tail _ (.head _)))) | exact .tail _ (.tail _ (.tail _ (.tail _ (.tail _ (.head _)))))))
          have HAX : Hid (∀ W, Below W10.heap.size W10 W → BAt W W.heap.size A xs) := Lib.hid (fun W hW => HA0.out W (HB.trans (hW.mono HB.size)))
          have HBX := Lib.hid HB
          have hS0 : Below W10.heap.size W10 W10.drew := (Below.refl _ W10).drew
          clear HB R
          obtain ⟨z1, z2, z3⟩ := d3
          rw [z1]
          rw [z2] at F3
          rw [z3] at E3
          rw [d4]
          generalize bsA s = SS at *
          refine wp_region_noPanic ?_
          refine wp_region_held_drew (S := fun w' => Below W10.heap.size W10 w') (by kernel_rfl) hS0 (fun hHeld => ?_)
          refine takeH_at 0 87 (v := ?_) rfl rfl (by kernel_rfl) (by kernel_rfl) (by kernel_rfl) (fun _ _ _ h => h) (Or.inl ⟨by rfl, ?_⟩) (by assumption) ?_
          rotate_left
          · (intro wx hSw; clear hSw; go_simp) <;> with_reducible rfl
          simp only [Act.put, List.setIfInBounds_toArray, List.set_cons_zero, List.set_cons_succ]
          refine takeH_at 1 88 (v := ?_) rfl rfl (by kernel_rfl) (by kernel_rfl) (by kernel_rfl) (fun _ _ _ h => h) (Or.inl ⟨by rfl, ?_⟩) (by assumption) ?_
          rotate_left
          · (intro wx hSw; clear hSw; go_simp) <;> with_reducible rfl
          simp only [Act.put, List.setIfInBounds_toArray, List.set_cons_zero, List.set_cons_succ]
          refine takeH_at 2 89 (v := ?_) rfl rfl (by kernel_rfl) (by kernel_rfl) (by kernel_rfl) (fun _ _ _ h => h) (Or.inl ⟨by rfl, ?_⟩) (by assumption) ?_
          rotate_left
          · (intro wx hSw; clear hSw; go_simp) <;> with_reducible rfl
          simp only [Act.put, List.setIfInBounds_toArray, List.set_cons_zero, List.set_cons_succ]
          refine takeH_at 3 90 (v := .agg #[.int .u32 (x3 : Int), .int .u16 (y3 : Int)]) rfl rfl (by kernel_rfl) (by kernel_rfl) (by kernel_rfl) (fun _ _ _ h => h) (yieldsIf_loadS (by rfl) 25 (.tmp 13) rfl _ rfl _ N13.out) (by assumption) ?_
          simp only [Act.put, List.setIfInBounds_toArray, List.set_cons_zero, List.set_cons_succ]
          refine single 4 91 rfl rfl (by kernel_rfl) (by rfl) (fun v _ => v = .bool true) (looseR_call 6 rfl (enters_of Tryd.func6 (by kernel_rfl) rfl) _ (by simp only [List.map_toArray, List.map_cons, List.map_nil]; rfl) (F3.out _ _ HBX.out hHeld)) ?_
          intro v91 wa hSwa hbwa hewa
          subst hewa
          simp only [Act.put, List.setIfInBounds_toArray, List.set_cons_zero, List.set_cons_succ]
          refine takeH_at 5 92 (v := ?_) rfl rfl (by kernel_rfl) (by kernel_rfl) (by kernel_rfl) (fun _ _ _ h => h) (Or.inl ⟨by rfl, ?_⟩) (by assumption) ?_
          rotate_left
          · (intro wx hSw; clear hSw; go_simp) <;> with_reducible rfl
          simp only [Act.put, List.setIfInBounds_toArray, List.set_cons_zero, List.set_cons_succ]
          refine takeH_at 6 93 (v := ?_) rfl rfl (by kernel_rfl) (by kernel_rfl) (by kernel_rfl) (fun _ _ _ h => h) (Or.inl ⟨by rfl, ?_⟩) (by assumption) ?_
          rotate_left
          · (intro wx hSw; clear hSw; go_simp) <;> with_reducible rfl
          simp only [Act.put, List.setIfInBounds_toArray, List.set_cons_zero, List.set_cons_succ]
          refine takeH_at 7 94 (v := .agg #[.int .u32 (x3 : Int), .int .u16 (y3 : Int)]) rfl rfl (by kernel_rfl) (by kernel_rfl) (by kernel_rfl) (fun _ _ _ h => h) (yieldsIf_loadS (by rfl) 25 (.tmp 13) rfl _ rfl _ N13.out) (by assumption) ?_
          simp only [Act.put, List.setIfInBounds_toArray, List.set_cons_zero, List.set_cons_succ]
          refine takeH_at 9 96 (v := ?_) rfl rfl (by kernel_rfl) (by kernel_rfl) (by kernel_rfl) (fun _ _ _ h => h) (Or.inl ⟨by rfl, ?_⟩) (by assumption) ?_
          rotate_left
          · (intro wx hSw; clear hSw; go_simp) <;> with_reducible rfl
          simp only [Act.put, List.setIfInBounds_toArray, List.set_cons_zero, List.set_cons_succ]
          refine single 8 95 rfl rfl (by kernel_rfl) (by rfl) (fun v _ => v = .string SS) (looseR_call 8 rfl (enters_of Tryd.func8 (by kernel_rfl) rfl) _ (by simp only [List.map_toArray, List.map_cons, List.map_nil]; rfl) (E3.out _ _ HBX.out hSwa)) ?_
          intro v95 wb hSwb hbwb hewb
          subst hewb
          simp only [Act.put, List.setIfInBounds_toArray, List.set_cons_zero, List.set_cons_succ]
          refine takeH_at 10 97 (v := ?_) rfl rfl (by kernel_rfl) (by kernel_rfl) (by kernel_rfl) (fun _ _ _ h => h) (Or.inl ⟨by rfl, ?_⟩) (by assumption) ?_
          rotate_left
          · (intro wx hSw; clear hSw; go_simp) <;> with_reducible rfl
          simp only [Act.put, List.setIfInBounds_toArray, List.set_cons_zero, List.set_cons_succ]
          refine takeH_at 11 98 (v := ?_) rfl rfl (by kernel_rfl) (by kernel_rfl) (by kernel_rfl) (fun _ _ _ h => h) (Or.inl ⟨by rfl, ?_⟩) (by assumption) ?_
          rotate_left
          · (intro wx hSw; clear hSw; go_simp) <;> with_reducible rfl
          simp only [Act.put, List.setIfInBounds_toArray, List.set_cons_zero, List.set_cons_succ]
          refine takeH_at 12 99 (v := ?_) rfl rfl (by kernel_rfl) (by kernel_rfl) (by kernel_rfl) (fun _ _ _ h => h) (Or.inl ⟨by rfl, ?_⟩) (by assumption) ?_
          rotate_left
          · (intro wx hSw; clear hSw; go_simp) <;> with_reducible rfl
          simp only [Act.put, List.setIfInBounds_toArray, List.set_cons_zero, List.set_cons_succ]
          refine takeH_at 13 100 (v := ?_) rfl rfl (by kernel_rfl) (by kernel_rfl) (by kernel_rfl) (fun _ _ _ h => h) (Or.inl ⟨by rfl, ?_⟩) (by assumption) ?_
          rotate_left
          · (intro wx hSw; clear hSw; go_simp) <;> with_reducible rfl
          simp only [Act.put, List.setIfInBounds_toArray, List.set_cons_zero, List.set_cons_succ]
          refine takeH_at 14 101 (v := ?_) rfl rfl (by kernel_rfl) (by kernel_rfl) (by kernel_rfl) (fun _ _ _ h => h) (Or.inl ⟨by rfl, ?_⟩) (by assumption) ?_
          rotate_left
          · (intro wx hSw; clear hSw; go_simp) <;> with_reducible rfl
          simp only [Act.put, List.setIfInBounds_toArray, List.set_cons_zero, List.set_cons_succ]
          refine takeH_at 15 102 (v := ?_) rfl rfl (by kernel_rfl) (by kernel_rfl) (by kernel_rfl) (fun _ _ _ h => h) (Or.inl ⟨by rfl, ?_⟩) (by assumption) ?_
          rotate_left
          · (intro wx hSw; clear hSw; go_simp) <;> with_reducible rfl
          simp only [Act.put, List.setIfInBounds_toArray, List.set_cons_zero, List.set_cons_succ]
          refine takeH_at 16 103 (v := ?_) rfl rfl (by kernel_rfl) (by kernel_rfl) (by kernel_rfl) (fun _ _ _ h => h) (Or.inl ⟨by rfl, ?_⟩) (by assumption) ?_
          rotate_left
          · (intro wx hSw; clear hSw; go_simp) <;> with_reducible rfl
          simp only [Act.put, List.setIfInBounds_toArray, List.set_cons_zero, List.set_cons_succ]
          refine takeH_at 17 104 (v := undef) rfl rfl (by kernel_rfl) (by kernel_rfl) (by kernel_rfl) (fun _ _ _ h => h) (Or.inr ⟨by rfl, rfl⟩) (by assumption) ?_
          simp only [Act.put, List.setIfInBounds_toArray, List.set_cons_zero, List.set_cons_succ]
          refine skip_one 18 105 rfl rfl (by kernel_rfl) (by rfl) (by assumption) ?_
          simp only [Act.put, List.setIfInBounds_toArray, List.set_cons_zero, List.set_cons_succ]
          refine takeH_at 19 106 (v := undef) rfl rfl (by kernel_rfl) (by kernel_rfl) (by kernel_rfl) (fun _ _ _ h => h) (Or.inr ⟨by rfl, rfl⟩) (by assumption) ?_
          simp only [Act.put, List.setIfInBounds_toArray, List.set_cons_zero, List.set_cons_succ]
          refine takeH_at 20 107 (v := undef) rfl rfl (by kernel_rfl) (by kernel_rfl) (by kernel_rfl) (fun _ _ _ h => h) (Or.inr ⟨by rfl, rfl⟩) (by assumption) ?_
          simp only [Act.put, List.setIfInBounds_toArray, List.set_cons_zero, List.set_cons_succ]
          refine takeH_at 21 108 (v := undef) rfl rfl (by kernel_rfl) (by kernel_rfl) (by kernel_rfl) (fun _ _ _ h => h) (Or.inr ⟨by rfl, rfl⟩) (by assumption) ?_
          simp only [Act.put, List.setIfInBounds_toArray, List.set_cons_zero, List.set_cons_succ]
          refine takeH_at 24 111 (v := undef) rfl rfl (by kernel_rfl) (by kernel_rfl) (by kernel_rfl) (fun _ _ _ h => h) (Or.inr ⟨by rfl, rfl⟩) (by assumption) ?_
          simp only [Act.put, List.setIfInBounds_toArray, List.set_cons_zero, List.set_cons_succ]
          refine takeH_at 25 112 (v := undef) rfl rfl (by kernel_rfl) (by kernel_rfl) (by kernel_rfl) (fun _ _ _ h => h) (Or.inr ⟨by rfl, rfl⟩) (by assumption) ?_
          simp only [Act.put, List.setIfInBounds_toArray, List.set_cons_zero, List.set_cons_succ]
          refine skip_one 22 109 rfl rfl (by kernel_rfl) (by rfl) (by assumption) ?_
          simp only [Act.put, List.setIfInBounds_toArray, List.set_cons_zero, List.set_cons_succ]
          refine takeH_at 23 110 (v := undef) rfl rfl (by kernel_rfl) (by kernel_rfl) (by kernel_rfl) (fun _ _ _ h => h) (Or.inr ⟨by rfl, rfl⟩) (by assumption) ?_
          simp only [Act.put, List.setIfInBounds_toArray, List.set_cons_zero, List.set_cons_succ]
          refine takeH_at 26 113 (v := undef) rfl rfl (by kernel_rfl) (by kernel_rfl) (by kernel_rfl) (fun _ _ _ h => h) (Or.inr ⟨by rfl, rfl⟩) (by assumption) ?_
          simp only [Act.put, List.setIfInBounds_toArray, List.set_cons_zero, List.set_cons_succ]
          refine takeH_at 27 114 (v := undef) rfl rfl (by kernel_rfl) (by kernel_rfl) (by kernel_rfl) (fun _ _ _ h => h) (Or.inr ⟨by rfl, rfl⟩) (by assumption) ?_
          simp only [Act.put, List.setIfInBounds_toArray, List.set_cons_zero, List.set_cons_succ]
          refine takeH_at 28 115 (v := ?_) rfl rfl (by kernel_rfl) (by kernel_rfl) (by kernel_rfl) (fun _ _ _ h => h) (Or.inl ⟨by rfl, ?_⟩) (by assumption) ?_
          rotate_left
          · (intro wx hSw; clear hSw; go_simp) <;> with_reducible rfl
          simp only [Act.put, List.setIfInBounds_toArray, List.set_cons_zero, List.set_cons_succ]
          refine takeH_at 29 116 (v := ?_) rfl rfl (by kernel_rfl) (by kernel_rfl) (by kernel_rfl) (fun _ _ _ h => h) (Or.inl ⟨by rfl, ?_⟩) (by assumption) ?_
          rotate_left
          · (intro wx hSw; clear hSw; go_simp) <;> with_reducible rfl
          simp only [Act.put, List.setIfInBounds_toArray, List.set_cons_zero, List.set_cons_succ]
          refine wpAnyH_done (by kernel_rfl) ?_ _
          refine NoPanic.normal ?_
          have HF := Lib.hid (HBX.out.trans (hSwb.mono HBX.out.size))
          have HLL := Lib.hid (L1.out _ HF.out)
          clear hSwb
          go_wp2_with (go_at_call 14; (with_reducible refine HLL.out.mono ?_); rintro e wz ⟨rfl, hbz⟩)
          go_ret
          exact ⟨rfl, HBL.out.trans ((HF.out.trans (hbz.mono HF.out.size)).mono HBL.out.size)⟩
      · rcases D4.out with d4 | d4
        · have N13 : Hid (∀ W, Below W10.heap.size W10 W → (loadVar 25 ⟨g13, 0, none⟩).run Tryd.prog W = .ok (.agg #[.int .u32 (x3 : Int), .int .u16 (y3 : Int)]) W) := Lib.hid (fun W hW => (R.below hW).ld25 (g := g13) (h := x3) (p := y3) (by first | exact .head _ | exact .tail _ (.head _) | exact .tail _ (.tail _ (.head _)) | exact .tail _ (.tail _ (.tail _ (.head _))) | exact .tail _ (.tail _ (.tail _ (.tail _ (.head _)))) | exact .tail _ (.tail _ (.tail _ (.tail _ (.tail _ (.head _)))))))
          have N15 : Hid (∀ W, Below W10.heap.size W10 W → (loadVar 25 ⟨g15, 0, none⟩).run Tryd.prog W = .ok (.agg #[.int .u32 (x4 : Int), .int .u16 (y4 : Int)]) W) := Lib.hid (fun W hW => (R.below hW).ld25 (g := g15) (h := x4) (p := y4) (by first | exact .head _ | exact .tail _ (.head _) | exact .tail _ (.tail _ (.head _)) | exact .tail _ (.tail _ (.tail _ (.head _))) | exact .tail _ (.tail _ (.tail _ (.tail _ (.head _)))) | exact .tail _ (.tail _ (.tail _ (.tail _ (.tail _ (.head _)))))))
          have HAX : Hid (∀ W, Below W10.heap.size W10 W → BAt W W.heap.size A xs) := Lib.hid (fun W hW => HA0.out W (HB.trans (hW.mono HB.size)))
          have HBX := Lib.hid HB
          have hS0 : Below W10.heap.size W10 W10.drew := (Below.refl _ W10).drew
          clear HB R
          rw [d3]
          obtain ⟨y1', y2', y3'⟩ := d4
          rw [y1']
          rw [y2'] at F4
          rw [y3'] at E4
          generalize bsA s = SS at *
          refine wp_region_noPanic ?_
          refine wp_region_held_drew (S := fun w' => Below W10.heap.size W10 w') (by kernel_rfl) hS0 (fun hHeld => ?_)
          refine takeH_at 0 87 (v := ?_) rfl rfl (by kernel_rfl) (by kernel_rfl) (by kernel_rfl) (fun _ _ _ h => h) (Or.inl ⟨by rfl, ?_⟩) (by assumption) ?_
          rotate_left
          · (intro wx hSw; clear hSw; go_simp) <;> with_reducible rfl
          simp only [Act.put, List.setIfInBounds_toArray, List.set_cons_zero, List.set_cons_succ]
          refine takeH_at 1 88 (v := ?_) rfl rfl (by kernel_rfl) (by kernel_rfl) (by kernel_rfl) (fun _ _ _ h => h) (Or.inl ⟨by rfl, ?_⟩) (by assumption) ?_
          rotate_left
          · (intro wx hSw; clear hSw; go_simp) <;> with_reducible rfl
          simp only [Act.put, List.setIfInBounds_toArray, List.set_cons_zero, List.set_cons_succ]
          refine takeH_at 2 89 (v := ?_) rfl rfl (by kernel_rfl) (by kernel_rfl) (by kernel_rfl) (fun _ _ _ h => h) (Or.inl ⟨by rfl, ?_⟩) (by assumption) ?_
          rotate_left
          · (intro wx hSw; clear hSw; go_simp) <;> with_reducible rfl
          simp only [Act.put, List.setIfInBounds_toArray, List.set_cons_zero, List.set_cons_succ]
          refine takeH_at 3 90 (v := undef) rfl rfl (by kernel_rfl) (by kernel_rfl) (by kernel_rfl) (fun _ _ _ h => h) (Or.inr ⟨by rfl, rfl⟩) (by assumption) ?_
          simp only [Act.put, List.setIfInBounds_toArray, List.set_cons_zero, List.set_cons_succ]
          refine skip_one 4 91 rfl rfl (by kernel_rfl) (by rfl) (by assumption) ?_
          simp only [Act.put, List.setIfInBounds_toArray, List.set_cons_zero, List.set_cons_succ]
          refine takeH_at 5 92 (v := undef) rfl rfl (by kernel_rfl) (by kernel_rfl) (by kernel_rfl) (fun _ _ _ h => h) (Or.inr ⟨by rfl, rfl⟩) (by assumption) ?_
          simp only [Act.put, List.setIfInBounds_toArray, List.set_cons_zero, List.set_cons_succ]
          refine takeH_at 6 93 (v := undef) rfl rfl (by kernel_rfl) (by kernel_rfl) (by kernel_rfl) (fun _ _ _ h => h) (Or.inr ⟨by rfl, rfl⟩) (by assumption) ?_
          simp only [Act.put, List.setIfInBounds_toArray, List.set_cons_zero, List.set_cons_succ]
          refine takeH_at 7 94 (v := undef) rfl rfl (by kernel_rfl) (by kernel_rfl) (by kernel_rfl) (fun _ _ _ h => h) (Or.inr ⟨by rfl, rfl⟩) (by assumption) ?_
          simp only [Act.put, List.setIfInBounds_toArray, List.set_cons_zero, List.set_cons_succ]
          refine takeH_at 9 96 (v := undef) rfl rfl (by kernel_rfl) (by kernel_rfl) (by kernel_rfl) (fun _ _ _ h => h) (Or.inr ⟨by rfl, rfl⟩) (by assumption) ?_
          simp only [Act.put, List.setIfInBounds_toArray, List.set_cons_zero, List.set_cons_succ]
          refine skip_one 8 95 rfl rfl (by kernel_rfl) (by rfl) (by assumption) ?_
          simp only [Act.put, List.setIfInBounds_toArray, List.set_cons_zero, List.set_cons_succ]
          refine takeH_at 10 97 (v := undef) rfl rfl (by kernel_rfl) (by kernel_rfl) (by kernel_rfl) (fun _ _ _ h => h) (Or.inr ⟨by rfl, rfl⟩) (by assumption) ?_
          simp only [Act.put, List.setIfInBounds_toArray, List.set_cons_zero, List.set_cons_succ]
          refine takeH_at 11 98 (v := undef) rfl rfl (by kernel_rfl) (by kernel_rfl) (by kernel_rfl) (fun _ _ _ h => h) (Or.inr ⟨by rfl, rfl⟩) (by assumption) ?_
          simp only [Act.put, List.setIfInBounds_toArray, List.set_cons_zero, List.set_cons_succ]
          refine takeH_at 12 99 (v := ?_) rfl rfl (by kernel_rfl) (by kernel_rfl) (by kernel_rfl) (fun _ _ _ h => h) (Or.inl ⟨by rfl, ?_⟩) (by assumption) ?_
          rotate_left
          · (intro wx hSw; clear hSw; go_simp) <;> with_reducible rfl
          simp only [Act.put, List.setIfInBounds_toArray, List.set_cons_zero, List.set_cons_succ]
          refine takeH_at 13 100 (v := ?_) rfl rfl (by kernel_rfl) (by kernel_rfl) (by kernel_rfl) (fun _ _ _ h => h) (Or.inl ⟨by rfl, ?_⟩) (by assumption) ?_
          rotate_left
          · (intro wx hSw; clear hSw; go_simp) <;> with_reducible rfl
          simp only [Act.put, List.setIfInBounds_toArray, List.set_cons_zero, List.set_cons_succ]
          refine takeH_at 14 101 (v := ?_) rfl rfl (by kernel_rfl) (by kernel_rfl) (by kernel_rfl) (fun _ _ _ h => h) (Or.inl ⟨by rfl, ?_⟩) (by assumption) ?_
          rotate_left
          · (intro wx hSw; clear hSw; go_simp) <;> with_reducible rfl
          simp only [Act.put, List.setIfInBounds_toArray, List.set_cons_zero, List.set_cons_succ]
          refine takeH_at 15 102 (v := ?_) rfl rfl (by kernel_rfl) (by kernel_rfl) (by kernel_rfl) (fun _ _ _ h => h) (Or.inl ⟨by rfl, ?_⟩) (by assumption) ?_
          rotate_left
          · (intro wx hSw; clear hSw; go_simp) <;> with_reducible rfl
          simp only [Act.put, List.setIfInBounds_toArray, List.set_cons_zero, List.set_cons_succ]
          refine takeH_at 16 103 (v := ?_) rfl rfl (by kernel_rfl) (by kernel_rfl) (by kernel_rfl) (fun _ _ _ h => h) (Or.inl ⟨by rfl, ?_⟩) (by assumption) ?_
          rotate_left
          · (intro wx hSw; clear hSw; go_simp) <;> with_reducible rfl
          simp only [Act.put, List.setIfInBounds_toArray, List.set_cons_zero, List.set_cons_succ]
          refine takeH_at 17 104 (v := .agg #[.int .u32 (x4 : Int), .int .u16 (y4 : Int)]) rfl rfl (by kernel_rfl) (by kernel_rfl) (by kernel_rfl) (fun _ _ _ h => h) (yieldsIf_loadS (by rfl) 25 (.tmp 15) rfl _ rfl _ N15.out) (by assumption) ?_
          simp only [Act.put, List.setIfInBounds_toArray, List.set_cons_zero, List.set_cons_succ]
          refine single 18 105 rfl rfl (by kernel_rfl) (by rfl) (fun v _ => v = .bool true) (looseR_call 6 rfl (enters_of Tryd.func6 (by kernel_rfl) rfl) _ (by simp only [List.map_toArray, List.map_cons, List.map_nil]; rfl) (F4.out _ _ HBX.out hHeld)) ?_
          intro v105 wc hSwc hbwc hewc
          subst hewc
          simp only [Act.put, List.setIfInBounds_toArray, List.set_cons_zero, List.set_cons_succ]
          refine takeH_at 19 106 (v := ?_) rfl rfl (by kernel_rfl) (by kernel_rfl) (by kernel_rfl) (fun _ _ _ h => h) (Or.inl ⟨by rfl, ?_⟩) (by assumption) ?_
          rotate_left
          · (intro wx hSw; clear hSw; go_simp) <;> with_reducible rfl
          simp only [Act.put, List.setIfInBounds_toArray, List.set_cons_zero, List.set_cons_succ]
          refine takeH_at 20 107 (v := ?_) rfl rfl (by kernel_rfl) (by kernel_rfl) (by kernel_rfl) (fun _ _ _ h => h) (Or.inl ⟨by rfl, ?_⟩) (by assumption) ?_
          rotate_left
          · (intro wx hSw; clear hSw; go_simp) <;> with_reducible rfl
          simp only [Act.put, List.setIfInBounds_toArray, List.set_cons_zero, List.set_cons_succ]
          refine takeH_at 21 108 (v := .agg #[.int .u32 (x4 : Int), .int .u16 (y4 : Int)]) rfl rfl (by kernel_rfl) (by kernel_rfl) (by kernel_rfl) (fun _ _ _ h => h) (yieldsIf_loadS (by rfl) 25 (.tmp 15) rfl _ rfl _ N15.out) (by assumption) ?_
          simp only [Act.put, List.setIfInBounds_toArray, List.set_cons_zero, List.set_cons_succ]
          refine takeH_at 24 111 (v := ?_) rfl rfl (by kernel_rfl) (by kernel_rfl) (by kernel_rfl) (fun _ _ _ h => h) (Or.inl ⟨by rfl, ?_⟩) (by assumption) ?_
          rotate_left
          · (intro wx hSw; clear hSw; go_simp) <;> with_reducible rfl
          simp only [Act.put, List.setIfInBounds_toArray, List.set_cons_zero, List.set_cons_succ]
          refine takeH_at 25 112 (v := .string (bsA xs)) rfl rfl (by kernel_rfl) (by kernel_rfl) (by kernel_rfl) (fun _ _ _ h => h) (yields_cv (by rfl) (.tmp 111) (by rfl) (by rfl) HN.out HAX.out) (by assumption) ?_
          simp only [Act.put, List.setIfInBounds_toArray, List.set_cons_zero, List.set_cons_succ]
          refine single 22 109 rfl rfl (by kernel_rfl) (by rfl) (fun v w' => BsIs xs v w') (looseR_call 10 rfl (enters_of Tryd.func10 (by kernel_rfl) rfl) _ (by simp only [List.map_toArray, List.map_cons, List.map_nil]; rfl) (E4.out _ _ HBX.out hSwc)) ?_
          intro v109 wd hSwd hbwd hewd
          simp only [Act.put, List.setIfInBounds_toArray, List.set_cons_zero, List.set_cons_succ]
          refine single 23 110 rfl rfl (by kernel_rfl) (by rfl) (fun v _ => v = .string (bsA xs)) (looseR_cv (v := v109) (.tmp 109) (by rfl) (by rfl) hewd hSwd) ?_
          intro v110 we hSwe hbwe hewe
          subst hewe
          simp only [Act.put, List.setIfInBounds_toArray, List.set_cons_zero, List.set_cons_succ]
          generalize bsA xs = SX
          refine takeH_at 26 113 (v := ?_) rfl rfl (by kernel_rfl) (by kernel_rfl) (by kernel_rfl) (fun _ _ _ h => h) (Or.inl ⟨by rfl, ?_⟩) (by assumption) ?_
          rotate_left
          · (intro wx hSw; clear hSw; go_simp) <;> with_reducible rfl
          simp only [Act.put, List.setIfInBounds_toArray, List.set_cons_zero, List.set_cons_succ]
          refine takeH_at 27 114 (v := ?_) rfl rfl (by kernel_rfl) (by kernel_rfl) (by kernel_rfl) (fun _ _ _ h => h) (Or.inl ⟨by rfl, ?_⟩) (by assumption) ?_
          rotate_left
          · (intro wx hSw; clear hSw; go_simp) <;> with_reducible rfl
          simp only [Act.put, List.setIfInBounds_toArray, List.set_cons_zero, List.set_cons_succ]
          refine takeH_at 28 115 (v := ?_) rfl rfl (by kernel_rfl) (by kernel_rfl) (by kernel_rfl) (fun _ _ _ h => h) (Or.inl ⟨by rfl, ?_⟩) (by assumption) ?_
          rotate_left
          · (intro wx hSw; clear hSw; go_simp) <;> with_reducible rfl
          simp only [Act.put, List.setIfInBounds_toArray, List.set_cons_zero, List.set_cons_succ]
          refine takeH_at 29 116 (v := ?_) rfl rfl (by kernel_rfl) (by kernel_rfl) (by kernel_rfl) (fun _ _ _ h => h) (Or.inl ⟨by rfl, ?_⟩) (by assumption) ?_
          rotate_left
          · (intro wx hSw; clear hSw; go_simp) <;> with_reducible rfl
          simp only [Act.put, List.setIfInBounds_toArray, List.set_cons_zero, List.set_cons_succ]
          refine wpAnyH_done (by kernel_rfl) ?_ _
          refine NoPanic.normal ?_
          have HF := Lib.hid (HBX.out.trans (hSwe.mono HBX.out.size))
          have HLL := Lib.hid (L1.out _ HF.out)
          clear hSwe
          go_wp2_with (go_at_call 14; (with_reducible refine HLL.out.mono ?_); rintro e wz ⟨rfl, hbz⟩)
          go_ret
          exact ⟨rfl, HBL.out.trans ((HF.out.trans (hbz.mono HF.out.size)).mono HBL.out.size)⟩
        · have N13 : Hid (∀ W, Below W10.heap.size W10 W → (loadVar 25 ⟨g13, 0, none⟩).run Tryd.prog W = .ok (.agg #[.int .u32 (x3 : Int), .int .u16 (y3 : Int)]) W) := Lib.hid (fun W hW => (R.below hW).ld25 (g := g13) (h := x3) (p := y3) (by first | exact .head _ | exact .tail _ (.head _) | exact .tail _ (.tail _ (.head _)) | exact .tail _ (.tail _ (.tail _ (.head _))) | exact .tail _ (.tail _ (.tail _ (.tail _ (.head _)))) | exact .tail _ (.tail _ (.tail _ (.tail _ (.tail _ (.head _)))))))
          have N15 : Hid (∀ W, Below W10.heap.size W10 W → (loadVar 25 ⟨g15, 0, none⟩).run Tryd.prog W = .ok (.agg #[.int .u32 (x4 : Int), .int .u16 (y4 : Int)]) W) := Lib.hid (fun W hW => (R.below hW).ld25 (g := g15) (h := x4) (p := y4) (by first | exact .head _ | exact .tail _ (.head _) | exact .tail _ (.tail _ (.head _)) | exact .tail _ (.tail _ (.tail _ (.head _))) | exact .tail _ (.tail _ (.tail _ (.tail _ (.head _)))) | exact .tail _ (.tail _ (.tail _ (.tail _ (.tail _ (.head _)))))))
          have HAX : Hid (∀ W, Below W10.heap.size W10 W → BAt W W.heap.size A xs) := Lib.hid (fun W hW => HA0.out W (HB.trans (hW.mono HB.size)))
          have HBX := Lib.hid HB
          have hS0 : Below W10.heap.size W10 W10.drew := (Below.refl _ W10).drew
          clear HB R
          rw [d3]
          rw [d4]
          generalize bsA s = SS at *
          refine wp_region_noPanic ?_
          refine wp_region_held_drew (S := fun w' => Below W10.heap.size W10 w') (by kernel_rfl) hS0 (fun hHeld => ?_)
          refine takeH_at 0 87 (v := ?_) rfl rfl (by kernel_rfl) (by kernel_rfl) (by kernel_rfl) (fun _ _ _ h => h) (Or.inl ⟨by rfl, ?_⟩) (by assumption) ?_
          rotate_left
          · (intro wx hSw; clear hSw; go_simp) <;> with_reducible rfl
          simp only [Act.put, List.setIfInBounds_toArray, List.set_cons_zero, List.set_cons_succ]
          refine takeH_at 1 88 (v := ?_) rfl rfl (by kernel_rfl) (by kernel_rfl) (by kernel_rfl) (fun _ _ _ h => h) (Or.inl ⟨by rfl, ?_⟩) (by assumption) ?_
          rotate_left
          · (intro wx hSw; clear hSw; go_simp) <;> with_reducible rfl
          simp only [Act.put, List.setIfInBounds_toArray, List.set_cons_zero, List.set_cons_succ]
          refine takeH_at 2 89 (v := ?_) rfl rfl (by kernel_rfl) (by kernel_rfl) (by kernel_rfl) (fun _ _ _ h => h) (Or.inl ⟨by rfl, ?_⟩) (by assumption) ?_
          rotate_left
          · (intro wx hSw; clear hSw; go_simp) <;> with_reducible rfl
          simp only [Act.put, List.setIfInBounds_toArray, List.set_cons_zero, List.set_cons_succ]
          refine takeH_at 3 90 (v := undef) rfl rfl (by kernel_rfl) (by kernel_rfl) (by kernel_rfl) (fun _ _ _ h => h) (Or.inr ⟨by rfl, rfl⟩) (by assumption) ?_
          simp only [Act.put, List.setIfInBounds_toArray, List.set_cons_zero, List.set_cons_succ]
          refine skip_one 4 91 rfl rfl (by kernel_rfl) (by rfl) (by assumption) ?_
          simp only [Act.put, List.setIfInBounds_toArray, List.set_cons_zero, List.set_cons_succ]
          refine takeH_at 5 92 (v := undef) rfl rfl (by kernel_rfl) (by kernel_rfl) (by kernel_rfl) (fun _ _ _ h => h) (Or.inr ⟨by rfl, rfl⟩) (by assumption) ?_
          simp only [Act.put, List.setIfInBounds_toArray, List.set_cons_zero, List.set_cons_succ]
          refine takeH_at 6 93 (v := undef) rfl rfl (by kernel_rfl) (by kernel_rfl) (by kernel_rfl) (fun _ _ _ h => h) (Or.inr ⟨by rfl, rfl⟩) (by assumption) ?_
          simp only [Act.put, List.setIfInBounds_toArray, List.set_cons_zero, List.set_cons_succ]
          refine takeH_at 7 94 (v := undef) rfl rfl (by kernel_rfl) (by kernel_rfl) (by kernel_rfl) (fun _ _ _ h => h) (Or.inr ⟨by rfl, rfl⟩) (by assumption) ?_
          simp only [Act.put, List.setIfInBounds_toArray, List.set_cons_zero, List.set_cons_succ]
          refine takeH_at 9 96 (v := undef) rfl rfl (by kernel_rfl) (by kernel_rfl) (by kernel_rfl) (fun _ _ _ h => h) (Or.inr ⟨by rfl, rfl⟩) (by assumption) ?_
          simp only [Act.put, List.setIfInBounds_toArray, List.set_cons_zero, List.set_cons_succ]
          refine skip_one 8 95 rfl rfl (by kernel_rfl) (by rfl) (by assumption) ?_
          simp only [Act.put, List.setIfInBounds_toArray, List.set_cons_zero, List.set_cons_succ]
          refine takeH_at 10 97 (v := undef) rfl rfl (by kernel_rfl) (by kernel_rfl) (by kernel_rfl) (fun _ _ _ h => h) (Or.inr ⟨by rfl, rfl⟩) (by assumption) ?_
          simp only [Act.put, List.setIfInBounds_toArray, List.set_cons_zero, List.set_cons_succ]
          refine takeH_at 11 98 (v := undef) rfl rfl (by kernel_rfl) (by kernel_rfl) (by kernel_rfl) (fun _ _ _ h => h) (Or.inr ⟨by rfl, rfl⟩) (by assumption) ?_
          simp only [Act.put, List.setIfInBounds_toArray, List.set_cons_zero, List.set_cons_succ]
          refine takeH_at 12 99 (v := ?_) rfl rfl (by kernel_rfl) (by kernel_rfl) (by kernel_rfl) (fun _ _ _ h => h) (Or.inl ⟨by rfl, ?_⟩) (by assumption) ?_
          rotate_left
          · (intro wx hSw; clear hSw; go_simp) <;> with_reducible rfl
          simp only [Act.put, List.setIfInBounds_toArray, List.set_cons_zero, List.set_cons_succ]
          refine takeH_at 13 100 (v := ?_) rfl rfl (by kernel_rfl) (by kernel_rfl) (by kernel_rfl) (fun _ _ _ h => h) (Or.inl ⟨by rfl, ?_⟩) (by assumption) ?_
          rotate_left
          · (intro wx hSw; clear hSw; go_simp) <;> with_reducible rfl
          simp only [Act.put, List.setIfInBounds_toArray, List.set_cons_zero, List.set_cons_succ]
          refine takeH_at 14 101 (v := ?_) rfl rfl (by kernel_rfl) (by kernel_rfl) (by kernel_rfl) (fun _ _ _ h => h) (Or.inl ⟨by rfl, ?_⟩) (by assumption) ?_
          rotate_left
          · (intro wx hSw; clear hSw; go_simp) <;> with_reducible rfl
          simp only [Act.put, List.setIfInBounds_toArray, List.set_cons_zero, List.set_cons_succ]
          refine takeH_at 15 102 (v := ?_) rfl rfl (by kernel_rfl) (by kernel_rfl) (by kernel_rfl) (fun _ _ _ h => h) (Or.inl ⟨by rfl, ?_⟩) (by assumption) ?_
          rotate_left
          · (intro wx hSw; clear hSw; go_simp) <;> with_reducible rfl
          simp only [Act.put, List.setIfInBounds_toArray, List.set_cons_zero, List.set_cons_succ]
          refine takeH_at 16 103 (v := ?_) rfl rfl (by kernel_rfl) (by kernel_rfl) (by kernel_rfl) (fun _ _ _ h => h) (Or.inl ⟨by rfl, ?_⟩) (by assumption) ?_
          rotate_left
          · (intro wx hSw; clear hSw; go_simp) <;> with_reducible rfl
          simp only [Act.put, List.setIfInBounds_toArray, List.set_cons_zero, List.set_cons_succ]
          refine takeH_at 17 104 (v := undef) rfl rfl (by kernel_rfl) (by kernel_rfl) (by kernel_rfl) (fun _ _ _ h => h) (Or.inr ⟨by rfl, rfl⟩) (by assumption) ?_
          simp only [Act.put, List.setIfInBounds_toArray, List.set_cons_zero, List.set_cons_succ]
          refine skip_one 18 105 rfl rfl (by kernel_rfl) (by rfl) (by assumption) ?_
          simp only [Act.put, List.setIfInBounds_toArray, List.set_cons_zero, List.set_cons_succ]
          refine takeH_at 19 106 (v := undef) rfl rfl (by kernel_rfl) (by kernel_rfl) (by kernel_rfl) (fun _ _ _ h => h) (Or.inr ⟨by rfl, rfl⟩) (by assumption) ?_
          simp only [Act.put, List.setIfInBounds_toArray, List.set_cons_zero, List.set_cons_succ]
          refine takeH_at 20 107 (v := undef) rfl rfl (by kernel_rfl) (by kernel_rfl) (by kernel_rfl) (fun _ _ _ h => h) (Or.inr ⟨by rfl, rfl⟩) (by assumption) ?_
          simp only [Act.put, List.setIfInBounds_toArray, List.set_cons_zero, List.set_cons_succ]
          refine takeH_at 21 108 (v := undef) rfl rfl (by kernel_rfl) (by kernel_rfl) (by kernel_rfl) (fun _ _ _ h => h) (Or.inr ⟨by rfl, rfl⟩) (by assumption) ?_
          simp only [Act.put, List.setIfInBounds_toArray, List.set_cons_zero, List.set_cons_succ]
          refine takeH_at 24 111 (v := undef) rfl rfl (by kernel_rfl) (by kernel_rfl) (by kernel_rfl) (fun _ _ _ h => h) (Or.inr ⟨by rfl, rfl⟩) (by assumption) ?_
          simp only [Act.put, List.setIfInBounds_toArray, List.set_cons_zero, List.set_cons_succ]
          refine takeH_at 25 112 (v := undef) rfl rfl (by kernel_rfl) (by kernel_rfl) (by kernel_rfl) (fun _ _ _ h => h) (Or.inr ⟨by rfl, rfl⟩) (by assumption) ?_
          simp only [Act.put, List.setIfInBounds_toArray, List.set_cons_zero, List.set_cons_succ]
          refine skip_one 22 109 rfl rfl (by kernel_rfl) (by rfl) (by assumption) ?_
          simp only [Act.put, List.setIfInBounds_toArray, List.set_cons_zero, List.set_cons_succ]
          refine takeH_at 23 110 (v := undef) rfl rfl (by kernel_rfl) (by kernel_rfl) (by kernel_rfl) (fun _ _ _ h => h) (Or.inr ⟨by rfl, rfl⟩) (by assumption) ?_
          simp only [Act.put, List.setIfInBounds_toArray, List.set_cons_zero, List.set_cons_succ]
          refine takeH_at 26 113 (v := undef) rfl rfl (by kernel_rfl) (by kernel_rfl) (by kernel_rfl) (fun _ _ _ h => h) (Or.inr ⟨by rfl, rfl⟩) (by assumption) ?_
          simp only [Act.put, List.setIfInBounds_toArray, List.set_cons_zero, List.set_cons_succ]
          refine takeH_at 27 114 (v := undef) rfl rfl (by kernel_rfl) (by kernel_rfl) (by kernel_rfl) (fun _ _ _ h => h) (Or.inr ⟨by rfl, rfl⟩) (by assumption) ?_
          simp only [Act.put, List.setIfInBounds_toArray, List.set_cons_zero, List.set_cons_succ]
          refine takeH_at 28 115 (v := ?_) rfl rfl (by kernel_rfl) (by kernel_rfl) (by kernel_rfl) (fun _ _ _ h => h) (Or.inl ⟨by rfl, ?_⟩) (by assumption) ?_
          rotate_left
          · (intro wx hSw; clear hSw; go_simp) <;> with_reducible rfl
          simp only [Act.put, List.setIfInBounds_toArray, List.set_cons_zero, List.set_cons_succ]
          refine takeH_at 29 116 (v := ?_) rfl rfl (by kernel_rfl) (by kernel_rfl) (by kernel_rfl) (fun _ _ _ h => h) (Or.inl ⟨by rfl, ?_⟩) (by assumption) ?_
          rotate_left
          · (intro wx hSw; clear hSw; go_simp) <;> with_reducible rfl
          simp only [Act.put, List.setIfInBounds_toArray, List.set_cons_zero, List.set_cons_succ]
          refine wpAnyH_done (by kernel_rfl) ?_ _
          refine NoPanic.normal ?_
          have HF := Lib.hid (HBX.out.trans (hHeld.mono HBX.out.size))
          have HLL := Lib.hid (L1.out _ HF.out)
          clear hHeld
          go_wp2_with (go_at_call 14; (with_reducible refine HLL.out.mono ?_); rintro e wz ⟨rfl, hbz⟩)
          go_ret
          exact ⟨rfl, HBL.out.trans ((HF.out.trans (hbz.mono HF.out.size)).mono HBL.out.size)⟩
  · obtain ⟨e1, e2, e3, e4, e5, e6⟩ := good1.out HGG.out.symm
    subst e1
    subst e2
    subst e3
    subst e4
    subst e5
    subst e6
    have q1 := Lib.hid (R.ld25 (g := w.heap.size) (h := h) (p := p) (by first | exact .head _ | exact .tail _ (.head _) | exact .tail _ (.tail _ (.head _)) | exact .tail _ (.tail _ (.tail _ (.head _))) | exact .tail _ (.tail _ (.tail _ (.tail _ (.head _)))) | exact .tail _ (.tail _ (.tail _ (.tail _ (.tail _ (.head _)))))))
    have K9 : Hid (∀ W, Below W4.heap.size W4 W → (loadVar 25 ⟨g9, 0, none⟩).run Tryd.prog W = .ok (.agg #[.int .u32 (h : Int), .int .u16 (p : Int)]) W) := Lib.hid (fun W hW => (R.below hW).ld25 (g := g9) (h := h) (p := p) (by first | exact .head _ | exact .tail _ (.head _) | exact .tail _ (.tail _ (.head _)) | exact .tail _ (.tail _ (.tail _ (.head _))) | exact .tail _ (.tail _ (.tail _ (.tail _ (.head _)))) | exact .tail _ (.tail _ (.tail _ (.tail _ (.tail _ (.head _)))))))
    have K4 : Hid (∀ W, Below W4.heap.size W4 W → (loadVar 25 ⟨w.heap.size, 0, none⟩).run Tryd.prog W = .ok (.agg #[.int .u32 (h : Int), .int .u16 (p : Int)]) W) := Lib.hid (fun W hW => (R.below hW).ld25 (g := w.heap.size) (h := h) (p := p) (by first | exact .head _ | exact .tail _ (.head _) | exact .tail _ (.tail _ (.head _)) | exact .tail _ (.tail _ (.tail _ (.head _))) | exact .tail _ (.tail _ (.tail _ (.tail _ (.head _)))) | exact .tail _ (.tail _ (.tail _ (.tail _ (.tail _ (.head _)))))))
    have K11 : Hid (∀ W, Below W4.heap.size W4 W → (loadVar 25 ⟨g11, 0, none⟩).run Tryd.prog W = .ok (.agg #[.int .u32 (h : Int), .int .u16 (p : Int)]) W) := Lib.hid (fun W hW => (R.below hW).ld25 (g := g11) (h := h) (p := p) (by first | exact .head _ | exact .tail _ (.head _) | exact .tail _ (.tail _ (.head _)) | exact .tail _ (.tail _ (.tail _ (.head _))) | exact .tail _ (.tail _ (.tail _ (.tail _ (.head _)))) | exact .tail _ (.tail _ (.tail _ (.tail _ (.tail _ (.head _)))))))
    have HB5 : Below W4.heap.size W4 W4 := Below.refl _ _
    go_upto_region 7 with (first
      | ((with_reducible refine wpList_loadV (op := ⟨some 38, _, _, _, _, _⟩) rfl 25 (.tmp 4) rfl _ ?_ _ q1.out ?_); rfl)
      | (go_at_call 6; (with_reducible refine (G1.out _).mono ?_); rintro e w5 ⟨rfl, hb1⟩; replace HB5 := HB5.trans (hb1.mono HB5.size); clear hb1)
      | ((with_reducible refine wpList_loadG (op := ⟨some 48, _, _, _, _, _⟩) rfl 25 (.tmp 9) rfl _ ?_ _ (K9.out _ HB5) ?_); rfl)
      | ((with_reducible refine wpList_loadG (op := ⟨some 49, _, _, _, _, _⟩) rfl 25 (.tmp 4) rfl _ ?_ _ (K4.out _ HB5) ?_); rfl)
      | ((with_reducible refine wpList_loadG (op := ⟨some 53, _, _, _, _, _⟩) rfl 25 (.tmp 11) rfl _ ?_ _ (K11.out _ HB5) ?_); rfl)
      | ((with_reducible refine wpList_loadG (op := ⟨some 54, _, _, _, _, _⟩) rfl 25 (.tmp 4) rfl _ ?_ _ (K4.out _ HB5) ?_); rfl))
    replace R := R.below HB5
    replace HB := HB.trans (HB5.mono HB.size)
    clear HB5 K9 K4 K11 q1
    rcases EQ.out with ⟨e1, e2⟩ | ⟨e1, eT, eC⟩ | ⟨e1, e2, eT, eC⟩
    case' inl =>
      subst e1
      subst e2
      rw [SG.out] at Q1
      generalize bsA (adT h p) = TA at *
      have M4 : Hid (∀ nk : Kept w5.heap.size w5, (loadVar 25 ⟨w.heap.size, 0, none⟩).run Tryd.prog nk.val = .ok (.agg #[.int .u32 (h : Int), .int .u16 (p : Int)]) nk.val) := Lib.hid (fun nk => (R.below nk.property).ld25 (g := w.heap.size) (h := h) (p := p) (by first | exact .head _ | exact .tail _ (.head _) | exact .tail _ (.tail _ (.head _)) | exact .tail _ (.tail _ (.tail _ (.head _))) | exact .tail _ (.tail _ (.tail _ (.tail _ (.head _)))) | exact .tail _ (.tail _ (.tail _ (.tail _ (.tail _ (.head _)))))))
      have M5 : Hid (∀ nk : Kept w5.heap.size w5, (loadVar 25 ⟨w.heap.size + 1, 0, none⟩).run Tryd.prog nk.val = .ok (.agg #[.int .u32 (h : Int), .int .u16 (p : Int)]) nk.val) := Lib.hid (fun nk => (R.below nk.property).ld25 (g := w.heap.size + 1) (h := h) (p := p) (by first | exact .head _ | exact .tail _ (.head _) | exact .tail _ (.tail _ (.head _)) | exact .tail _ (.tail _ (.tail _ (.head _))) | exact .tail _ (.tail _ (.tail _ (.tail _ (.head _)))) | exact .tail _ (.tail _ (.tail _ (.tail _ (.tail _ (.head _)))))))
      have T1' : Hid (∀ nk : Kept w5.heap.size w5, Calls Tryd.prog 8 #[.agg #[.int .u32 (h : Int), .int .u16 (p : Int)]] nk.val fun e w' => e = .returned (.string TA) ∧ Below nk.val.heap.size nk.val w') := Lib.hid (fun nk => T1.out _ (HB.trans (nk.property.mono HB.size)))
      have T2' : Hid (∀ nk : Kept w5.heap.size w5, Calls Tryd.prog 8 #[.agg #[.int .u32 (h : Int), .int .u16 (p : Int)]] nk.val fun e w' => e = .returned (.string TA) ∧ Below nk.val.heap.size nk.val w') := Lib.hid (fun nk => T2.out _ (HB.trans (nk.property.mono HB.size)))
      refine wp_region_kept w5.heap.size w5 (Below.refl _ _) (by kernel_rfl) (by kernel_rfl) ?_
      repeat (first
        | (go_big_quiet_want; (with_reducible refine quiet_loadV 25 (.tmp 4) rfl _ ?_ _ M4.out ?_); rfl; simp only [Act.put, List.setIfInBounds_toArray, List.set_cons_zero, List.set_cons_succ]; go_big_quiet_on)
        | (go_big_quiet_want; (with_reducible refine quiet_loadV 25 (.tmp 5) rfl _ ?_ _ M5.out ?_); rfl; simp only [Act.put, List.setIfInBounds_toArray, List.set_cons_zero, List.set_cons_succ]; go_big_quiet_on)
        | go_big_quiet_step (first
          | (go_at_call 8; with_reducible exact kept_ofS (Nat.le_refl _) T1'.out _)
          | (go_at_call 8; with_reducible exact kept_ofS (Nat.le_refl _) T2'.out _)
          | (go_at_call 12; with_reducible exact kept_of (Nat.le_refl _) Q1.out _)))
      refine wpQuiet_nil ?_
      rintro _ ⟨⟨wk, hwk⟩, rfl⟩
      replace R := R.below hwk
      replace HB := HB.trans (hwk.mono HB.size)
      clear hwk M4 M5 T1 T2 T1' T2' Q1 B1 R1 G1
    case' inr.inl =>
      have ne1 : ¬ (h : Int) = (h' : Int) := by omega
      generalize bsA (adT h' p') = TB at *
      generalize sgnN (getN (adB h p)) (getN (adB h' p')) = cc at *
      generalize bsA (adT h p) = TA at *
      have hTT : ¬ TA.toList = TB.toList := fun e => eT (ByteArray.ext (Array.ext' (by rw [← ByteArray.toList_eq, ← ByteArray.toList_eq]; exact e)))
      have hTE : (TA.toList == TB.toList) = false := by rw [beq_eq_false_iff_ne]; exact hTT
      have hCE : (cc == 0) = false := by rw [beq_eq_false_iff_ne]; exact eC
      have M4 : Hid (∀ nk : Kept w5.heap.size w5, (loadVar 25 ⟨w.heap.size, 0, none⟩).run Tryd.prog nk.val = .ok (.agg #[.int .u32 (h : Int), .int .u16 (p : Int)]) nk.val) := Lib.hid (fun nk => (R.below nk.property).ld25 (g := w.heap.size) (h := h) (p := p) (by first | exact .head _ | exact .tail _ (.head _) | exact .tail _ (.tail _ (.head _)) | exact .tail _ (.tail _ (.tail _ (.head _))) | exact .tail _ (.tail _ (.tail _ (.tail _ (.head _)))) | exact .tail _ (.tail _ (.tail _ (.tail _ (.tail _ (.head _)))))))
      have M5 : Hid (∀ nk : Kept w5.heap.size w5, (loadVar 25 ⟨w.heap.size + 1, 0, none⟩).run Tryd.prog nk.val = .ok (.agg #[.int .u32 (h' : Int), .int .u16 (p' : Int)]) nk.val) := Lib.hid (fun nk => (R.below nk.property).ld25 (g := w.heap.size + 1) (h := h') (p := p') (by first | exact .head _ | exact .tail _ (.head _) | exact .tail _ (.tail _ (.head _)) | exact .tail _ (.tail _ (.tail _ (.head _))) | exact .tail _ (.tail _ (.tail _ (.tail _ (.head _)))) | exact .tail _ (.tail _ (.tail _ (.tail _ (.tail _ (.head _)))))))
      have T1' : Hid (∀ nk : Kept w5.heap.size w5, Calls Tryd.prog 8 #[.agg #[.int .u32 (h : Int), .int .u16 (p : Int)]] nk.val fun e w' => e = .returned (.string TA) ∧ Below nk.val.heap.size nk.val w') := Lib.hid (fun nk => T1.out _ (HB.trans (nk.property.mono HB.size)))
      have T2' : Hid (∀ nk : Kept w5.heap.size w5, Calls Tryd.prog 8 #[.agg #[.int .u32 (h' : Int), .int .u16 (p' : Int)]] nk.val fun e w' => e = .returned (.string TB) ∧ Below nk.val.heap.size nk.val w') := Lib.hid (fun nk => T2.out _ (HB.trans (nk.property.mono HB.size)))
      refine wp_region_kept w5.heap.size w5 (Below.refl _ _) (by kernel_rfl) (by kernel_rfl) ?_
      repeat (first
        | (go_big_quiet_want; (with_reducible refine quiet_loadV 25 (.tmp 4) rfl _ ?_ _ M4.out ?_); rfl; simp only [Act.put, List.setIfInBounds_toArray, List.set_cons_zero, List.set_cons_succ]; go_big_quiet_on)
        | (go_big_quiet_want; (with_reducible refine quiet_loadV 25 (.tmp 5) rfl _ ?_ _ M5.out ?_); rfl; simp only [Act.put, List.setIfInBounds_toArray, List.set_cons_zero, List.set_cons_succ]; go_big_quiet_on)
        | go_big_quiet_step (first
          | (go_at_call 8; with_reducible exact kept_ofS (Nat.le_refl _) T1'.out _)
          | (go_at_call 8; with_reducible exact kept_ofS (Nat.le_refl _) T2'.out _)
          | (go_at_call 12; with_reducible exact kept_of (Nat.le_refl _) Q1.out _)))
      refine wpQuiet_nil ?_
      rintro _ ⟨⟨wk, hwk⟩, rfl⟩
      replace R := R.below hwk
      replace HB := HB.trans (hwk.mono HB.size)
      clear hwk M4 M5 T1 T2 T1' T2' Q1 B1 R1 G1
    case' inr.inr =>
      subst e1
      have ne1 : ¬ (p : Int) = (p' : Int) := by omega
      generalize bsA (adT h p') = TB at *
      generalize sgnN (getN (adB h p)) (getN (adB h p')) = cc at *
      generalize bsA (adT h p) = TA at *
      have hTT : ¬ TA.toList = TB.toList := fun e => eT (ByteArray.ext (Array.ext' (by rw [← ByteArray.toList_eq, ← ByteArray.toList_eq]; exact e)))
      have hTE : (TA.toList == TB.toList) = false := by rw [beq_eq_false_iff_ne]; exact hTT
      have hCE : (cc == 0) = false := by rw [beq_eq_false_iff_ne]; exact eC
      have M4 : Hid (∀ nk : Kept w5.heap.size w5, (loadVar 25 ⟨w.heap.size, 0, none⟩).run Tryd.prog nk.val = .ok (.agg #[.int .u32 (h : Int), .int .u16 (p : Int)]) nk.val) := Lib.hid (fun nk => (R.below nk.property).ld25 (g := w.heap.size) (h := h) (p := p) (by first | exact .head _ | exact .tail _ (.head _) | exact .tail _ (.tail _ (.head _)) | exact .tail _ (.tail _ (.tail _ (.head _))) | exact .tail _ (.tail _ (.tail _ (.tail _ (.head _)))) | exact .tail _ (.tail _ (.tail _ (.tail _ (.tail _ (.head _)))))))
      have M5 : Hid (∀ nk : Kept w5.heap.size w5, (loadVar 25 ⟨w.heap.size + 1, 0, none⟩).run Tryd.prog nk.val = .ok (.agg #[.int .u32 (h : Int), .int .u16 (p' : Int)]) nk.val) := Lib.hid (fun nk => (R.below nk.property).ld25 (g := w.heap.size + 1) (h := h) (p := p') (by first | exact .head _ | exact .tail _ (.head _) | exact .tail _ (.tail _ (.head _)) | exact .tail _ (.tail _ (.tail _ (.head _))) | exact .tail _ (.tail _ (.tail _ (.tail _ (.head _)))) | exact .tail _ (.tail _ (.tail _ (.tail _ (.tail _ (.head _)))))))
      have T1' : Hid (∀ nk : Kept w5.heap.size w5, Calls Tryd.prog 8 #[.agg #[.int .u32 (h : Int), .int .u16 (p : Int)]] nk.val fun e w' => e = .returned (.string TA) ∧ Below nk.val.heap.size nk.val w') := Lib.hid (fun nk => T1.out _ (HB.trans (nk.property.mono HB.size)))
      have T2' : Hid (∀ nk : Kept w5.heap.size w5, Calls Tryd.prog 8 #[.agg #[.int .u32 (h : Int), .int .u16 (p' : Int)]] nk.val fun e w' => e = .returned (.string TB) ∧ Below nk.val.heap.size nk.val w') := Lib.hid (fun nk => T2.out _ (HB.trans (nk.property.mono HB.size)))
      refine wp_region_kept w5.heap.size w5 (Below.refl _ _) (by kernel_rfl) (by kernel_rfl) ?_
      repeat (first
        | (go_big_quiet_want; (with_reducible refine quiet_loadV 25 (.tmp 4) rfl _ ?_ _ M4.out ?_); rfl; simp only [Act.put, List.setIfInBounds_toArray, List.set_cons_zero, List.set_cons_succ]; go_big_quiet_on)
        | (go_big_quiet_want; (with_reducible refine quiet_loadV 25 (.tmp 5) rfl _ ?_ _ M5.out ?_); rfl; simp only [Act.put, List.setIfInBounds_toArray, List.set_cons_zero, List.set_cons_succ]; go_big_quiet_on)
        | go_big_quiet_step (first
          | (go_at_call 8; with_reducible exact kept_ofS (Nat.le_refl _) T1'.out _)
          | (go_at_call 8; with_reducible exact kept_ofS (Nat.le_refl _) T2'.out _)
          | (go_at_call 12; with_reducible exact kept_of (Nat.le_refl _) Q1.out _)))
      refine wpQuiet_nil ?_
      rintro _ ⟨⟨wk, hwk⟩, rfl⟩
      replace R := R.below hwk
      replace HB := HB.trans (hwk.mono HB.size)
      clear hwk M4 M5 T1 T2 T1' T2' Q1 B1 R1 G1
    all_goals
      go_upto_region 10 with (go_at_call 15; (with_reducible refine (P3.out _ HB).mono ?_); rintro e w9 ⟨rfl, hb1⟩; replace R := R.below hb1; replace HB := HB.trans (hb1.mono HB.size); clear hb1)
      replace R := R.new 25 x3 y3
      replace HB := HB.alloc HB.size (.cells #[.int .u32 (x3 : Int), .int .u16 (y3 : Int)] 25)
      generalize w9.alloc (.cells #[.int .u32 (x3 : Int), .int .u16 (y3 : Int)] 25) = W9 at R HB ⊢
      generalize w9.heap.size = g13 at R ⊢
      go_upto_region 11 with (go_at_call 17; (with_reducible refine (R4.out _ HB).mono ?_); rintro e w10 ⟨rfl, hb1⟩; replace R := R.below hb1; replace HB := HB.trans (hb1.mono HB.size); clear hb1)
      replace R := R.new 25 x4 y4
      replace HB := HB.alloc HB.size (.cells #[.int .u32 (x4 : Int), .int .u16 (y4 : Int)] 25)
      generalize w10.alloc (.cells #[.int .u32 (x4 : Int), .int .u16 (y4 : Int)] 25) = W10 at R HB ⊢
      generalize w10.heap.size = g15 at R ⊢
      rcases D3.out with d3 | d3
      · rcases D4.out with d4 | d4
        · have N13 : Hid (∀ W, Below W10.heap.size W10 W → (loadVar 25 ⟨g13, 0, none⟩).run Tryd.prog W = .ok (.agg #[.int .u32 (x3 : Int), .int .u16 (y3 : Int)]) W) := Lib.hid (fun W hW => (R.below hW).ld25 (g := g13) (h := x3) (p := y3) (by first | exact .head _ | exact .tail _ (.head _) | exact .tail _ (.tail _ (.head _)) | exact .tail _ (.tail _ (.tail _ (.head _))) | exact .tail _ (.tail _ (.tail _ (.tail _ (.head _)))) | exact .tail _ (.tail _ (.tail _ (.tail _ (.tail _ (.head _)))))))
          have N15 : Hid (∀ W, Below W10.heap.size W10 W → (loadVar 25 ⟨g15, 0, none⟩).run Tryd.prog W = .ok (.agg #[.int .u32 (x4 : Int), .int .u16 (y4 : Int)]) W) := Lib.hid (fun W hW => (R.below hW).ld25 (g := g15) (h := x4) (p := y4) (by first | exact .head _ | exact .tail _ (.head _) | exact .tail _ (.tail _ (.head _)) | exact .tail _ (.tail _ (.tail _ (.head _))) | exact .tail _ (.tail _ (.tail _ (.tail _ (.head _)))) | exact .tail _ (.tail _ (.tail _ (.tail _ (.tail _ (.head _)))))))
          have HAX : Hid (∀ W, Below W10.heap.size W10 W → BAt W W.heap.size A xs) := Lib.hid (fun W hW => HA0.out W (HB.trans (hW.mono HB.size)))
          have HBX := Lib.hid HB
          have hS0 : Below W10.heap.size W10 W10.drew := (Below.refl _ W10).drew
          clear HB R
          obtain ⟨z1, z2, z3⟩ := d3
          rw [z1]
          rw [z2] at F3
          rw [z3] at E3
          obtain ⟨y1', y2', y3'⟩ := d4
          rw [y1']
          rw [y2'] at F4
          rw [y3'] at E4
          generalize bsA s = SS at *
          refine wp_region_noPanic ?_
          refine wp_region_held_drew (S := fun w' => Below W10.heap.size W10 w') (by kernel_rfl) hS0 (fun hHeld => ?_)
          refine takeH_at 0 87 (v := ?_) rfl rfl (by kernel_rfl) (by kernel_rfl) (by kernel_rfl) (fun _ _ _ h => h) (Or.inl ⟨by rfl, ?_⟩) (by assumption) ?_
          rotate_left
          · (intro wx hSw; clear hSw; go_simp) <;> with_reducible rfl
          simp only [Act.put, List.setIfInBounds_toArray, List.set_cons_zero, List.set_cons_succ]
          refine takeH_at 1 88 (v := ?_) rfl rfl (by kernel_rfl) (by kernel_rfl) (by kernel_rfl) (fun _ _ _ h => h) (Or.inl ⟨by rfl, ?_⟩) (by assumption) ?_
          rotate_left
          · (intro wx hSw; clear hSw; go_simp) <;> with_reducible rfl
          simp only [Act.put, List.setIfInBounds_toArray, List.set_cons_zero, List.set_cons_succ]
          refine takeH_at 2 89 (v := ?_) rfl rfl (by kernel_rfl) (by kernel_rfl) (by kernel_rfl) (fun _ _ _ h => h) (Or.inl ⟨by rfl, ?_⟩) (by assumption) ?_
          rotate_left
          · (intro wx hSw; clear hSw; go_simp) <;> with_reducible rfl
          simp only [Act.put, List.setIfInBounds_toArray, List.set_cons_zero, List.set_cons_succ]
          refine takeH_at 3 90 (v := .agg #[.int .u32 (x3 : Int), .int .u16 (y3 : Int)]) rfl rfl (by kernel_rfl) (by kernel_rfl) (by kernel_rfl) (fun _ _ _ h => h) (yieldsIf_loadS (by rfl) 25 (.tmp 13) rfl _ rfl _ N13.out) (by assumption) ?_
          simp only [Act.put, List.setIfInBounds_toArray, List.set_cons_zero, List.set_cons_succ]
          refine single 4 91 rfl rfl (by kernel_rfl) (by rfl) (fun v _ => v = .bool true) (looseR_call 6 rfl (enters_of Tryd.func6 (by kernel_rfl) rfl) _ (by simp only [List.map_toArray, List.map_cons, List.map_nil]; rfl) (F3.out _ _ HBX.out hHeld)) ?_
          intro v91 wa hSwa hbwa hewa
          subst hewa
          simp only [Act.put, List.setIfInBounds_toArray, List.set_cons_zero, List.set_cons_succ]
          refine takeH_at 5 92 (v := ?_) rfl rfl (by kernel_rfl) (by kernel_rfl) (by kernel_rfl) (fun _ _ _ h => h) (Or.inl ⟨by rfl, ?_⟩) (by assumption) ?_
          rotate_left
          · (intro wx hSw; clear hSw; go_simp) <;> with_reducible rfl
          simp only [Act.put, List.setIfInBounds_toArray, List.set_cons_zero, List.set_cons_succ]
          refine takeH_at 6 93 (v := ?_) rfl rfl (by kernel_rfl) (by kernel_rfl) (by kernel_rfl) (fun _ _ _ h => h) (Or.inl ⟨by rfl, ?_⟩) (by assumption) ?_
          rotate_left
          · (intro wx hSw; clear hSw; go_simp) <;> with_reducible rfl
          simp only [Act.put, List.setIfInBounds_toArray, List.set_cons_zero, List.set_cons_succ]
          refine takeH_at 7 94 (v := .agg #[.int .u32 (x3 : Int), .int .u16 (y3 : Int)]) rfl rfl (by kernel_rfl) (by kernel_rfl) (by kernel_rfl) (fun _ _ _ h => h) (yieldsIf_loadS (by rfl) 25 (.tmp 13) rfl _ rfl _ N13.out) (by assumption) ?_
          simp only [Act.put, List.setIfInBounds_toArray, List.set_cons_zero, List.set_cons_succ]
          refine takeH_at 9 96 (v := ?_) rfl rfl (by kernel_rfl) (by kernel_rfl) (by kernel_rfl) (fun _ _ _ h => h) (Or.inl ⟨by rfl, ?_⟩) (by assumption) ?_
          rotate_left
          · (intro wx hSw; clear hSw; go_simp) <;> with_reducible rfl
          simp only [Act.put, List.setIfInBounds_toArray, List.set_cons_zero, List.set_cons_succ]
          refine single 8 95 rfl rfl (by kernel_rfl) (by rfl) (fun v _ => v = .string SS) (looseR_call 8 rfl (enters_of Tryd.func8 (by kernel_rfl) rfl) _ (by simp only [List.map_toArray, List.map_cons, List.map_nil]; rfl) (E3.out _ _ HBX.out hSwa)) ?_
          intro v95 wb hSwb hbwb hewb
          subst hewb
          simp only [Act.put, List.setIfInBounds_toArray, List.set_cons_zero, List.set_cons_succ]
          refine takeH_at 10 97 (v := ?_) rfl rfl (by kernel_rfl) (by kernel_rfl) (by kernel_rfl) (fun _ _ _ h => h) (Or.inl ⟨by rfl, ?_⟩) (by assumption) ?_
          rotate_left
          · (intro wx hSw; clear hSw; go_simp) <;> with_reducible rfl
          simp only [Act.put, List.setIfInBounds_toArray, List.set_cons_zero, List.set_cons_succ]
          refine takeH_at 11 98 (v := ?_) rfl rfl (by kernel_rfl) (by kernel_rfl) (by kernel_rfl) (fun _ _ _ h => h) (Or.inl ⟨by rfl, ?_⟩) (by assumption) ?_
          rotate_left
          · (intro wx hSw; clear hSw; go_simp) <;> with_reducible rfl
          simp only [Act.put, List.setIfInBounds_toArray, List.set_cons_zero, List.set_cons_succ]
          refine takeH_at 12 99 (v := ?_) rfl rfl (by kernel_rfl) (by kernel_rfl) (by kernel_rfl) (fun _ _ _ h => h) (Or.inl ⟨by rfl, ?_⟩) (by assumption) ?_
          rotate_left
          · (intro wx hSw; clear hSw; go_simp) <;> with_reducible rfl
          simp only [Act.put, List.setIfInBounds_toArray, List.set_cons_zero, List.set_cons_succ]
          refine takeH_at 13 100 (v := ?_) rfl rfl (by kernel_rfl) (by kernel_rfl) (by kernel_rfl) (fun _ _ _ h => h) (Or.inl ⟨by rfl, ?_⟩) (by assumption) ?_
          rotate_left
          · (intro wx hSw; clear hSw; go_simp) <;> with_reducible rfl
          simp only [Act.put, List.setIfInBounds_toArray, List.set_cons_zero, List.set_cons_succ]
          refine takeH_at 14 101 (v := ?_) rfl rfl (by kernel_rfl) (by kernel_rfl) (by kernel_rfl) (fun _ _ _ h => h) (Or.inl ⟨by rfl, ?_⟩) (by assumption) ?_
          rotate_left
          · (intro wx hSw; clear hSw; go_simp) <;> with_reducible rfl
          simp only [Act.put, List.setIfInBounds_toArray, List.set_cons_zero, List.set_cons_succ]
          refine takeH_at 15 102 (v := ?_) rfl rfl (by kernel_rfl) (by kernel_rfl) (by kernel_rfl) (fun _ _ _ h => h) (Or.inl ⟨by rfl, ?_⟩) (by assumption) ?_
          rotate_left
          · (intro wx hSw; clear hSw; go_simp) <;> with_reducible rfl
          simp only [Act.put, List.setIfInBounds_toArray, List.set_cons_zero, List.set_cons_succ]
          refine takeH_at 16 103 (v := ?_) rfl rfl (by kernel_rfl) (by kernel_rfl) (by kernel_rfl) (fun _ _ _ h => h) (Or.inl ⟨by rfl, ?_⟩) (by assumption) ?_
          rotate_left
          · (intro wx hSw; clear hSw; go_simp) <;> with_reducible rfl
          simp only [Act.put, List.setIfInBounds_toArray, List.set_cons_zero, List.set_cons_succ]
          refine takeH_at 17 104 (v := .agg #[.int .u32 (x4 : Int), .int .u16 (y4 : Int)]) rfl rfl (by kernel_rfl) (by kernel_rfl) (by kernel_rfl) (fun _ _ _ h => h) (yieldsIf_loadS (by rfl) 25 (.tmp 15) rfl _ rfl _ N15.out) (by assumption) ?_
          simp only [Act.put, List.setIfInBounds_toArray, List.set_cons_zero, List.set_cons_succ]
          refine single 18 105 rfl rfl (by kernel_rfl) (by rfl) (fun v _ => v = .bool true) (looseR_call 6 rfl (enters_of Tryd.func6 (by kernel_rfl) rfl) _ (by simp only [List.map_toArray, List.map_cons, List.map_nil]; rfl) (F4.out _ _ HBX.out hSwb)) ?_
          intro v105 wc hSwc hbwc hewc
          subst hewc
          simp only [Act.put, List.setIfInBounds_toArray, List.set_cons_zero, List.set_cons_succ]
          refine takeH_at 19 106 (v := ?_) rfl rfl (by kernel_rfl) (by kernel_rfl) (by kernel_rfl) (fun _ _ _ h => h) (Or.inl ⟨by rfl, ?_⟩) (by assumption) ?_
          rotate_left
          · (intro wx hSw; clear hSw; go_simp) <;> with_reducible rfl
          simp only [Act.put, List.setIfInBounds_toArray, List.set_cons_zero, List.set_cons_succ]
          refine takeH_at 20 107 (v := ?_) rfl rfl (by kernel_rfl) (by kernel_rfl) (by kernel_rfl) (fun _ _ _ h => h) (Or.inl ⟨by rfl, ?_⟩) (by assumption) ?_
          rotate_left
          · (intro wx hSw; clear hSw; go_simp) <;> with_reducible rfl
          simp only [Act.put, List.setIfInBounds_toArray, List.set_cons_zero, List.set_cons_succ]
          refine takeH_at 21 108 (v := .agg #[.int .u32 (x4 : Int), .int .u16 (y4 : Int)]) rfl rfl (by kernel_rfl) (by kernel_rfl) (by kernel_rfl) (fun _ _ _ h => h) (yieldsIf_loadS (by rfl) 25 (.tmp 15) rfl _ rfl _ N15.out) (by assumption) ?_
          simp only [Act.put, List.setIfInBounds_toArray, List.set_cons_zero, List.set_cons_succ]
          refine takeH_at 24 111 (v := ?_) rfl rfl (by kernel_rfl) (by kernel_rfl) (by kernel_rfl) (fun _ _ _ h => h) (Or.inl ⟨by rfl, ?_⟩) (by assumption) ?_
          rotate_left
          · (intro wx hSw; clear hSw; go_simp) <;> with_reducible rfl
          simp only [Act.put, List.setIfInBounds_toArray, List.set_cons_zero, List.set_cons_succ]
          refine takeH_at 25 112 (v := .string (bsA xs)) rfl rfl (by kernel_rfl) (by kernel_rfl) (by kernel_rfl) (fun _ _ _ h => h) (yields_cv (by rfl) (.tmp 111) (by rfl) (by rfl) HN.out HAX.out) (by assumption) ?_
          simp only [Act.put, List.setIfInBounds_toArray, List.set_cons_zero, List.set_cons_succ]
          refine single 22 109 rfl rfl (by kernel_rfl) (by rfl) (fun v w' => BsIs xs v w') (looseR_call 10 rfl (enters_of Tryd.func10 (by kernel_rfl) rfl) _ (by simp only [List.map_toArray, List.map_cons, List.map_nil]; rfl) (E4.out _ _ HBX.out hSwc)) ?_
          intro v109 wd hSwd hbwd hewd
          simp only [Act.put, List.setIfInBounds_toArray, List.set_cons_zero, List.set_cons_succ]
          refine single 23 110 rfl rfl (by kernel_rfl) (by rfl) (fun v _ => v = .string (bsA xs)) (looseR_cv (v := v109) (.tmp 109) (by rfl) (by rfl) hewd hSwd) ?_
          intro v110 we hSwe hbwe hewe
          subst hewe
          simp only [Act.put, List.setIfInBounds_toArray, List.set_cons_zero, List.set_cons_succ]
          generalize bsA xs = SX
          refine takeH_at 26 113 (v := ?_) rfl rfl (by kernel_rfl) (by kernel_rfl) (by kernel_rfl) (fun _ _ _ h => h) (Or.inl ⟨by rfl, ?_⟩) (by assumption) ?_
          rotate_left
          · (intro wx hSw; clear hSw; go_simp) <;> with_reducible rfl
          simp only [Act.put, List.setIfInBounds_toArray, List.set_cons_zero, List.set_cons_succ]
          refine takeH_at 27 114 (v := ?_) rfl rfl (by kernel_rfl) (by kernel_rfl) (by kernel_rfl) (fun _ _ _ h => h) (Or.inl ⟨by rfl, ?_⟩) (by assumption) ?_
          rotate_left
          · (intro wx hSw; clear hSw; go_simp) <;> with_reducible rfl
          simp only [Act.put, List.setIfInBounds_toArray, List.set_cons_zero, List.set_cons_succ]
          refine takeH_at 28 115 (v := ?_) rfl rfl (by kernel_rfl) (by kernel_rfl) (by kernel_rfl) (fun _ _ _ h => h) (Or.inl ⟨by rfl, ?_⟩) (by assumption) ?_
          rotate_left
          · (intro wx hSw; clear hSw; go_simp) <;> with_reducible rfl
          simp only [Act.put, List.setIfInBounds_toArray, List.set_cons_zero, List.set_cons_succ]
          refine takeH_at 29 116 (v := ?_) rfl rfl (by kernel_rfl) (by kernel_rfl) (by kernel_rfl) (fun _ _ _ h => h) (Or.inl ⟨by rfl, ?_⟩) (by assumption) ?_
          rotate_left
          · (intro wx hSw; clear hSw; go_simp) <;> with_reducible rfl
          simp only [Act.put, List.setIfInBounds_toArray, List.set_cons_zero, List.set_cons_succ]
          refine wpAnyH_done (by kernel_rfl) ?_ _
          refine NoPanic.normal ?_
          have HF := Lib.hid (HBX.out.trans (hSwe.mono HBX.out.size))
          have HLL := Lib.hid (L1.out _ HF.out)
          clear hSwe
          go_wp2_with (go_at_call 14; (with_reducible refine HLL.out.mono ?_); rintro e wz ⟨rfl, hbz⟩)
          go_ret
          exact ⟨rfl, HBL.out.trans ((HF.out.trans (hbz.mono HF.out.size)).mono HBL.out.size)⟩
        · have N13 : Hid (∀ W, Below W10.heap.size W10 W → (loadVar 25 ⟨g13, 0, none⟩).run Tryd.prog W = .ok (.agg #[.int .u32 (x3 : Int), .int .u16 (y3 : Int)]) W) := Lib.hid (fun W hW => (R.below hW).ld25 (g := g13) (h := x3) (p := y3) (by first | exact .head _ | exact .tail _ (.head _) | exact .tail _ (.tail _ (.head _)) | exact .tail _ (.tail _ (.tail _ (.head _))) | exact .tail _ (.tail _ (.tail _ (.tail _ (.head _)))) | exact .tail _ (.tail _ (.tail _ (.tail _ (.tail _ (.head _)))))))
          have N15 : Hid (∀ W, Below W10.heap.size W10 W → (loadVar 25 ⟨g15, 0, none⟩).run Tryd.prog W = .ok (.agg #[.int .u32 (x4 : Int), .int .u16 (y4 : Int)]) W) := Lib.hid (fun W hW => (R.below hW).ld25 (g := g15) (h := x4) (p := y4) (by first | exact .head _ | exact .tail _ (.head _) | exact .tail _ (.tail _ (.head _)) | exact .tail _ (.tail _ (.tail _ (.head _))) | exact .tail _ (.tail _ (.tail _ (.tail _ (.head _)))) | exact .tail _ (.tail _ (.tail _ (.tail _ (.tail _ (.head _)))))))
          have HAX : Hid (∀ W, Below W10.heap.size W10 W → BAt W W.heap.size A xs) := Lib.hid (fun W hW => HA0.out W (HB.trans (hW.mono HB.size)))
          have HBX := Lib.hid HB
          have hS0 : Below W10.heap.size W10 W10.drew := (Below.refl _ W10).drew
          clear HB R
          obtain ⟨z1, z2, z3⟩ := d3
          rw [z1]
          rw [z2] at F3
          rw [z3] at E3
          rw [d4]
          generalize bsA s = SS at *
          refine wp_region_noPanic ?_
          refine wp_region_held_drew (S := fun w' => Below W10.heap.size W10 w') (by kernel_rfl) hS0 (fun hHeld => ?_)
          refine takeH_at 0 87 (v := ?_) rfl rfl (by kernel_rfl) (by kernel_rfl) (by kernel_rfl) (fun _ _ _ h => h) (Or.inl ⟨by rfl, ?_⟩) (by assumption) ?_
          rotate_left
          · (intro wx hSw; clear hSw; go_simp) <;> with_reducible rfl
          simp only [Act.put, List.setIfInBounds_toArray, List.set_cons_zero, List.set_cons_succ]
          refine takeH_at 1 88 (v := ?_) rfl rfl (by kernel_rfl) (by kernel_rfl) (by kernel_rfl) (fun _ _ _ h => h) (Or.inl ⟨by rfl, ?_⟩) (by assumption) ?_
          rotate_left
          · (intro wx hSw; clear hSw; go_simp) <;> with_reducible rfl
          simp only [Act.put, List.setIfInBounds_toArray, List.set_cons_zero, List.set_cons_succ]
          refine takeH_at 2 89 (v := ?_) rfl rfl (by kernel_rfl) (by kernel_rfl) (by kernel_rfl) (fun _ _ _ h => h) (Or.inl ⟨by rfl, ?_⟩) (by assumption) ?_
          rotate_left
          · (intro wx hSw; clear hSw; go_simp) <;> with_reducible rfl
          simp only [Act.put, List.setIfInBounds_toArray, List.set_cons_zero, List.set_cons_succ]
          refine takeH_at 3 90 (v := .agg #[.int .u32 (x3 : Int), .int .u16 (y3 : Int)]) rfl rfl (by kernel_rfl) (by kernel_rfl) (by kernel_rfl) (fun _ _ _ h => h) (yieldsIf_loadS (by rfl) 25 (.tmp 13) rfl _ rfl _ N13.out) (by assumption) ?_
          simp only [Act.put, List.setIfInBounds_toArray, List.set_cons_zero, List.set_cons_succ]
          refine single 4 91 rfl rfl (by kernel_rfl) (by rfl) (fun v _ => v = .bool true) (looseR_call 6 rfl (enters_of Tryd.func6 (by kernel_rfl) rfl) _ (by simp only [List.map_toArray, List.map_cons, List.map_nil]; rfl) (F3.out _ _ HBX.out hHeld)) ?_
          intro v91 wa hSwa hbwa hewa
          subst hewa
          simp only [Act.put, List.setIfInBounds_toArray, List.set_cons_zero, List.set_cons_succ]
          refine takeH_at 5 92 (v := ?_) rfl rfl (by kernel_rfl) (by kernel_rfl) (by kernel_rfl) (fun _ _ _ h => h) (Or.inl ⟨by rfl, ?_⟩) (by assumption) ?_
          rotate_left
          · (intro wx hSw; clear hSw; go_simp) <;> with_reducible rfl
          simp only [Act.put, List.setIfInBounds_toArray, List.set_cons_zero, List.set_cons_succ]
          refine takeH_at 6 93 (v := ?_) rfl rfl (by kernel_rfl) (by kernel_rfl) (by kernel_rfl) (fun _ _ _ h => h) (Or.inl ⟨by rfl, ?_⟩) (by assumption) ?_
          rotate_left
          · (intro wx hSw; clear hSw; go_simp) <;> with_reducible rfl
          simp only [Act.put, List.setIfInBounds_toArray, List.set_cons_zero, List.set_cons_succ]
          refine takeH_at 7 94 (v := .agg #[.int .u32 (x3 : Int), .int .u16 (y3 : Int)]) rfl rfl (by kernel_rfl) (by kernel_rfl) (by kernel_rfl) (fun _ _ _ h => h) (yieldsIf_loadS (by rfl) 25 (.tmp 13) rfl _ rfl _ N13.out) (by assumption) ?_
          simp only [Act.put, List.setIfInBounds_toArray, List.set_cons_zero, List.set_cons_succ]
          refine takeH_at 9 96 (v := ?_) rfl rfl (by kernel_rfl) (by kernel_rfl) (by kernel_rfl) (fun _ _ _ h => h) (Or.inl ⟨by rfl, ?_⟩) (by assumption) ?_
          rotate_left
          · (intro wx hSw; clear hSw; go_simp) <;> with_reducible rfl
          simp only [Act.put, List.setIfInBounds_toArray, List.set_cons_zero, List.set_cons_succ]
          refine single 8 95 rfl rfl (by kernel_rfl) (by rfl) (fun v _ => v = .string SS) (looseR_call 8 rfl (enters_of Tryd.func8 (by kernel_rfl) rfl) _ (by simp only [List.map_toArray, List.map_cons, List.map_nil]; rfl) (E3.out _ _ HBX.out hSwa)) ?_
          intro v95 wb hSwb hbwb hewb
          subst hewb
          simp only [Act.put, List.setIfInBounds_toArray, List.set_cons_zero, List.set_cons_succ]
          refine takeH_at 10 97 (v := ?_) rfl rfl (by kernel_rfl) (by kernel_rfl) (by kernel_rfl) (fun _ _ _ h => h) (Or.inl ⟨by rfl, ?_⟩) (by assumption) ?_
          rotate_left
          · (intro wx hSw; clear hSw; go_simp) <;> with_reducible rfl
          simp only [Act.put, List.setIfInBounds_toArray, List.set_cons_zero, List.set_cons_succ]
          refine takeH_at 11 98 (v := ?_) rfl rfl (by kernel_rfl) (by kernel_rfl) (by kernel_rfl) (fun _ _ _ h => h) (Or.inl ⟨by rfl, ?_⟩) (by assumption) ?_
          rotate_left
          · (intro wx hSw; clear hSw; go_simp) <;> with_reducible rfl
          simp only [Act.put, List.setIfInBounds_toArray, List.set_cons_zero, List.set_cons_succ]
          refine takeH_at 12 99 (v := ?_) rfl rfl (by kernel_rfl) (by kernel_rfl) (by kernel_rfl) (fun _ _ _ h => h) (Or.inl ⟨by rfl, ?_⟩) (by assumption) ?_
          rotate_left
          · (intro wx hSw; clear hSw; go_simp) <;> with_reducible rfl
          simp only [Act.put, List.setIfInBounds_toArray, List.set_cons_zero, List.set_cons_succ]
          refine takeH_at 13 100 (v := ?_) rfl rfl (by kernel_rfl) (by kernel_rfl) (by kernel_rfl) (fun _ _ _ h => h) (Or.inl ⟨by rfl, ?_⟩) (by assumption) ?_
          rotate_left
          · (intro wx hSw; clear hSw; go_simp) <;> with_reducible rfl
          simp only [Act.put, List.setIfInBounds_toArray, List.set_cons_zero, List.set_cons_succ]
          refine takeH_at 14 101 (v := ?_) rfl rfl (by kernel_rfl) (by kernel_rfl) (by kernel_rfl) (fun _ _ _ h => h) (Or.inl ⟨by rfl, ?_⟩) (by assumption) ?_
          rotate_left
          · (intro wx hSw; clear hSw; go_simp) <;> with_reducible rfl
          simp only [Act.put, List.setIfInBounds_toArray, List.set_cons_zero, List.set_cons_succ]
          refine takeH_at 15 102 (v := ?_) rfl rfl (by kernel_rfl) (by kernel_rfl) (by kernel_rfl) (fun _ _ _ h => h) (Or.inl ⟨by rfl, ?_⟩) (by assumption) ?_
          rotate_left
          · (intro wx hSw; clear hSw; go_simp) <;> with_reducible rfl
          simp only [Act.put, List.setIfInBounds_toArray, List.set_cons_zero, List.set_cons_succ]
          refine takeH_at 16 103 (v := ?_) rfl rfl (by kernel_rfl) (by kernel_rfl) (by kernel_rfl) (fun _ _ _ h => h) (Or.inl ⟨by rfl, ?_⟩) (by assumption) ?_
          rotate_left
          · (intro wx hSw; clear hSw; go_simp) <;> with_reducible rfl
          simp only [Act.put, List.setIfInBounds_toArray, List.set_cons_zero, List.set_cons_succ]
          refine takeH_at 17 104 (v := undef) rfl rfl (by kernel_rfl) (by kernel_rfl) (by kernel_rfl) (fun _ _ _ h => h) (Or.inr ⟨by rfl, rfl⟩) (by assumption) ?_
          simp only [Act.put, List.setIfInBounds_toArray, List.set_cons_zero, List.set_cons_succ]
          refine skip_one 18 105 rfl rfl (by kernel_rfl) (by rfl) (by assumption) ?_
          simp only [Act.put, List.setIfInBounds_toArray, List.set_cons_zero, List.set_cons_succ]
          refine takeH_at 19 106 (v := undef) rfl rfl (by kernel_rfl) (by kernel_rfl) (by kernel_rfl) (fun _ _ _ h => h) (Or.inr ⟨by rfl, rfl⟩) (by assumption) ?_
          simp only [Act.put, List.setIfInBounds_toArray, List.set_cons_zero, List.set_cons_succ]
          refine takeH_at 20 107 (v := undef) rfl rfl (by kernel_rfl) (by kernel_rfl) (by kernel_rfl) (fun _ _ _ h => h) (Or.inr ⟨by rfl, rfl⟩) (by assumption) ?_
          simp only [Act.put, List.setIfInBounds_toArray, List.set_cons_zero, List.set_cons_succ]
          refine takeH_at 21 108 (v := undef) rfl rfl (by kernel_rfl) (by kernel_rfl) (by kernel_rfl) (fun _ _ _ h => h) (Or.inr ⟨by rfl, rfl⟩) (by assumption) ?_
          simp only [Act.put, List.setIfInBounds_toArray, List.set_cons_zero, List.set_cons_succ]
          refine takeH_at 24 111 (v := undef) rfl rfl (by kernel_rfl) (by kernel_rfl) (by kernel_rfl) (fun _ _ _ h => h) (Or.inr ⟨by rfl, rfl⟩) (by assumption) ?_
          simp only [Act.put, List.setIfInBounds_toArray, List.set_cons_zero, List.set_cons_succ]
          refine takeH_at 25 112 (v := undef) rfl rfl (by kernel_rfl) (by kernel_rfl) (by kernel_rfl) (fun _ _ _ h => h) (Or.inr ⟨by rfl, rfl⟩) (by assumption) ?_
          simp only [Act.put, List.setIfInBounds_toArray, List.set_cons_zero, List.set_cons_succ]
          refine skip_one 22 109 rfl rfl (by kernel_rfl) (by rfl) (by assumption) ?_
          simp only [Act.put, List.setIfInBounds_toArray, List.set_cons_zero, List.set_cons_succ]
          refine takeH_at 23 110 (v := undef) rfl rfl (by kernel_rfl) (by kernel_rfl) (by kernel_rfl) (fun _ _ _ h => h) (Or.inr ⟨by rfl, rfl⟩) (by assumption) ?_
          simp only [Act.put, List.setIfInBounds_toArray, List.set_cons_zero, List.set_cons_succ]
          refine takeH_at 26 113 (v := undef) rfl rfl (by kernel_rfl) (by kernel_rfl) (by kernel_rfl) (fun _ _ _ h => h) (Or.inr ⟨by rfl, rfl⟩) (by assumption) ?_
          simp only [Act.put, List.setIfInBounds_toArray, List.set_cons_zero, List.set_cons_succ]
          refine takeH_at 27 114 (v := undef) rfl rfl (by kernel_rfl) (by kernel_rfl) (by kernel_rfl) (fun _ _ _ h => h) (Or.inr ⟨by rfl, rfl⟩) (by assumption) ?_
          simp only [Act.put, List.setIfInBounds_toArray, List.set_cons_zero, List.set_cons_succ]
          refine takeH_at 28 115 (v := ?_) rfl rfl (by kernel_rfl) (by kernel_rfl) (by kernel_rfl) (fun _ _ _ h => h) (Or.inl ⟨by rfl, ?_⟩) (by assumption) ?_
          rotate_left
          · (intro wx hSw; clear hSw; go_simp) <;> with_reducible rfl
          simp only [Act.put, List.setIfInBounds_toArray, List.set_cons_zero, List.set_cons_succ]
          refine takeH_at 29 116 (v := ?_) rfl rfl (by kernel_rfl) (by kernel_rfl) (by kernel_rfl) (fun _ _ _ h => h) (Or.inl ⟨by rfl, ?_⟩) (by assumption) ?_
          rotate_left
          · (intro wx hSw; clear hSw; go_simp) <;> with_reducible rfl
          simp only [Act.put, List.setIfInBounds_toArray, List.set_cons_zero, List.set_cons_succ]
          refine wpAnyH_done (by kernel_rfl) ?_ _
          refine NoPanic.normal ?_
          have HF := Lib.hid (HBX.out.trans (hSwb.mono HBX.out.size))
          have HLL := Lib.hid (L1.out _ HF.out)
          clear hSwb
          go_wp2_with (go_at_call 14; (with_reducible refine HLL.out.mono ?_); rintro e wz ⟨rfl, hbz⟩)
          go_ret
          exact ⟨rfl, HBL.out.trans ((HF.out.trans (hbz.mono HF.out.size)).mono HBL.out.size)⟩
      · rcases D4.out with d4 | d4
        · have N13 : Hid (∀ W, Below W10.heap.size W10 W → (loadVar 25 ⟨g13, 0, none⟩).run Tryd.prog W = .ok (.agg #[.int .u32 (x3 : Int), .int .u16 (y3 : Int)]) W) := Lib.hid (fun W hW => (R.below hW).ld25 (g := g13) (h := x3) (p := y3) (by first | exact .head _ | exact .tail _ (.head _) | exact .tail _ (.tail _ (.head _)) | exact .tail _ (.tail _ (.tail _ (.head _))) | exact .tail _ (.tail _ (.tail _ (.tail _ (.head _)))) | exact .tail _ (.tail _ (.tail _ (.tail _ (.tail _ (.head _)))))))
          have N15 : Hid (∀ W, Below W10.heap.size W10 W → (loadVar 25 ⟨g15, 0, none⟩).run Tryd.prog W = .ok (.agg #[.int .u32 (x4 : Int), .int .u16 (y4 : Int)]) W) := Lib.hid (fun W hW => (R.below hW).ld25 (g := g15) (h := x4) (p := y4) (by first | exact .head _ | exact .tail _ (.head _) | exact .tail _ (.tail _ (.head _)) | exact .tail _ (.tail _ (.tail _ (.head _))) | exact .tail _ (.tail _ (.tail _ (.tail _ (.head _)))) | exact .tail _ (.tail _ (.tail _ (.tail _ (.tail _ (.head _)))))))
          have HAX : Hid (∀ W, Below W10.heap.size W10 W → BAt W W.heap.size A xs) := Lib.hid (fun W hW => HA0.out W (HB.trans (hW.mono HB.size)))
          have HBX := Lib.hid HB
          have hS0 : Below W10.heap.size W10 W10.drew := (Below.refl _ W10).drew
          clear HB R
          rw [d3]
          obtain ⟨y1', y2', y3'⟩ := d4
          rw [y1']
          rw [y2'] at F4
          rw [y3'] at E4
          generalize bsA s = SS at *
          refine wp_region_noPanic ?_
          refine wp_region_held_drew (S := fun w' => Below W10.heap.size W10 w') (by kernel_rfl) hS0 (fun hHeld => ?_)
          refine takeH_at 0 87 (v := ?_) rfl rfl (by kernel_rfl) (by kernel_rfl) (by kernel_rfl) (fun _ _ _ h => h) (Or.inl ⟨by rfl, ?_⟩) (by assumption) ?_
          rotate_left
          · (intro wx hSw; clear hSw; go_simp) <;> with_reducible rfl
          simp only [Act.put, List.setIfInBounds_toArray, List.set_cons_zero, List.set_cons_succ]
          refine takeH_at 1 88 (v := ?_) rfl rfl (by kernel_rfl) (by kernel_rfl) (by kernel_rfl) (fun _ _ _ h => h) (Or.inl ⟨by rfl, ?_⟩) (by assumption) ?_
          rotate_left
          · (intro wx hSw; clear hSw; go_simp) <;> with_reducible rfl
          simp only [Act.put, List.setIfInBounds_toArray, List.set_cons_zero, List.set_cons_succ]
          refine takeH_at 2 89 (v := ?_) rfl rfl (by kernel_rfl) (by kernel_rfl) (by kernel_rfl) (fun _ _ _ h => h) (Or.inl ⟨by rfl, ?_⟩) (by assumption) ?_
          rotate_left
          · (intro wx hSw; clear hSw; go_simp) <;> with_reducible rfl
          simp only [Act.put, List.setIfInBounds_toArray, List.set_cons_zero, List.set_cons_succ]
          refine takeH_at 3 90 (v := undef) rfl rfl (by kernel_rfl) (by kernel_rfl) (by kernel_rfl) (fun _ _ _ h => h) (Or.inr ⟨by rfl, rfl⟩) (by assumption) ?_
          simp only [Act.put, List.setIfInBounds_toArray, List.set_cons_zero, List.set_cons_succ]
          refine skip_one 4 91 rfl rfl (by kernel_rfl) (by rfl) (by assumption) ?_
          simp only [Act.put, List.setIfInBounds_toArray, List.set_cons_zero, List.set_cons_succ]
          refine takeH_at 5 92 (v := undef) rfl rfl (by kernel_rfl) (by kernel_rfl) (by kernel_rfl) (fun _ _ _ h => h) (Or.inr ⟨by rfl, rfl⟩) (by assumption) ?_
          simp only [Act.put, List.setIfInBounds_toArray, List.set_cons_zero, List.set_cons_succ]
          refine takeH_at 6 93 (v := undef) rfl rfl (by kernel_rfl) (by kernel_rfl) (by kernel_rfl) (fun _ _ _ h => h) (Or.inr ⟨by rfl, rfl⟩) (by assumption) ?_
          simp only [Act.put, List.setIfInBounds_toArray, List.set_cons_zero, List.set_cons_succ]
          refine takeH_at 7 94 (v := undef) rfl rfl (by kernel_rfl) (by kernel_rfl) (by kernel_rfl) (fun _ _ _ h => h) (Or.inr ⟨by rfl, rfl⟩) (by assumption) ?_
          simp only [Act.put, List.setIfInBounds_toArray, List.set_cons_zero, List.set_cons_succ]
          refine takeH_at 9 96 (v := undef) rfl rfl (by kernel_rfl) (by kernel_rfl) (by kernel_rfl) (fun _ _ _ h => h) (Or.inr ⟨by rfl, rfl⟩) (by assumption) ?_
          simp only [Act.put, List.setIfInBounds_toArray, List.set_cons_zero, List.set_cons_succ]
          refine skip_one 8 95 rfl rfl (by kernel_rfl) (by rfl) (by assumption) ?_
          simp only [Act.put, List.setIfInBounds_toArray, List.set_cons_zero, List.set_cons_succ]
          refine takeH_at 10 97 (v := undef) rfl rfl (by kernel_rfl) (by kernel_rfl) (by kernel_rfl) (fun _ _ _ h => h) (Or.inr ⟨by rfl, rfl⟩) (by assumption) ?_
          simp only [Act.put, List.setIfInBounds_toArray, List.set_cons_zero, List.set_cons_succ]
          refine takeH_at 11 98 (v := undef) rfl rfl (by kernel_rfl) (by kernel_rfl) (by kernel_rfl) (fun _ _ _ h => h) (Or.inr ⟨by rfl, rfl⟩) (by assumption) ?_
          simp only [Act.put, List.setIfInBounds_toArray, List.set_cons_zero, List.set_cons_succ]
          refine takeH_at 12 99 (v := ?_) rfl rfl (by kernel_rfl) (by kernel_rfl) (by kernel_rfl) (fun _ _ _ h => h) (Or.inl ⟨by rfl, ?_⟩) (by assumption) ?_
          rotate_left
          · (intro wx hSw; clear hSw; go_simp) <;> with_reducible rfl
          simp only [Act.put, List.setIfInBounds_toArray, List.set_cons_zero, List.set_cons_succ]
          refine takeH_at 13 100 (v := ?_) rfl rfl (by kernel_rfl) (by kernel_rfl) (by kernel_rfl) (fun _ _ _ h => h) (Or.inl ⟨by rfl, ?_⟩) (by assumption) ?_
          rotate_left
          · (intro wx hSw; clear hSw; go_simp) <;> with_reducible rfl
          simp only [Act.put, List.setIfInBounds_toArray, List.set_cons_zero, List.set_cons_succ]
          refine takeH_at 14 101 (v := ?_) rfl rfl (by kernel_rfl) (by kernel_rfl) (by kernel_rfl) (fun _ _ _ h => h) (Or.inl ⟨by rfl, ?_⟩) (by assumption) ?_
          rotate_left
          · (intro wx hSw; clear hSw; go_simp) <;> with_reducible rfl
          simp only [Act.put, List.setIfInBounds_toArray, List.set_cons_zero, List.set_cons_succ]
          refine takeH_at 15 102 (v := ?_) rfl rfl (by kernel_rfl) (by kernel_rfl) (by kernel_rfl) (fun _ _ _ h => h) (Or.inl ⟨by rfl, ?_⟩) (by assumption) ?_
          rotate_left
          · (intro wx hSw; clear hSw; go_simp) <;> with_reducible rfl
          simp only [Act.put, List.setIfInBounds_toArray, List.set_cons_zero, List.set_cons_succ]
          refine takeH_at 16 103 (v := ?_) rfl rfl (by kernel_rfl) (by kernel_rfl) (by kernel_rfl) (fun _ _ _ h => h) (Or.inl ⟨by rfl, ?_⟩) (by assumption) ?_
          rotate_left
          · (intro wx hSw; clear hSw; go_simp) <;> with_reducible rfl
          simp only [Act.put, List.setIfInBounds_toArray, List.set_cons_zero, List.set_cons_succ]
          refine takeH_at 17 104 (v := .agg #[.int .u32 (x4 : Int), .int .u16 (y4 : Int)]) rfl rfl (by kernel_rfl) (by kernel_rfl) (by kernel_rfl) (fun _ _ _ h => h) (yieldsIf_loadS (by rfl) 25 (.tmp 15) rfl _ rfl _ N15.out) (by assumption) ?_
          simp only [Act.put, List.setIfInBounds_toArray, List.set_cons_zero, List.set_cons_succ]
          refine single 18 105 rfl rfl (by kernel_rfl) (by rfl) (fun v _ => v = .bool true) (looseR_call 6 rfl (enters_of Tryd.func6 (by kernel_rfl) rfl) _ (by simp only [List.map_toArray, List.map_cons, List.map_nil]; rfl) (F4.out _ _ HBX.out hHeld)) ?_
          intro v105 wc hSwc hbwc hewc
          subst hewc
          simp only [Act.put, List.setIfInBounds_toArray, List.set_cons_zero, List.set_cons_succ]
          refine takeH_at 19 106 (v := ?_) rfl rfl (by kernel_rfl) (by kernel_rfl) (by kernel_rfl) (fun _ _ _ h => h) (Or.inl ⟨by rfl, ?_⟩) (by assumption) ?_
          rotate_left
          · (intro wx hSw; clear hSw; go_simp) <;> with_reducible rfl
          simp only [Act.put, List.setIfInBounds_toArray, List.set_cons_zero, List.set_cons_succ]
          refine takeH_at 20 107 (v := ?_) rfl rfl (by kernel_rfl) (by kernel_rfl) (by kernel_rfl) (fun _ _ _ h => h) (Or.inl ⟨by rfl, ?_⟩) (by assumption) ?_
          rotate_left
          · (intro wx hSw; clear hSw; go_simp) <;> with_reducible rfl
          simp only [Act.put, List.setIfInBounds_toArray, List.set_cons_zero, List.set_cons_succ]
          refine takeH_at 21 108 (v := .agg #[.int .u32 (x4 : Int), .int .u16 (y4 : Int)]) rfl rfl (by kernel_rfl) (by kernel_rfl) (by kernel_rfl) (fun _ _ _ h => h) (yieldsIf_loadS (by rfl) 25 (.tmp 15) rfl _ rfl _ N15.out) (by assumption) ?_
          simp only [Act.put, List.setIfInBounds_toArray, List.set_cons_zero, List.set_cons_succ]
          refine takeH_at 24 111 (v := ?_) rfl rfl (by kernel_rfl) (by kernel_rfl) (by kernel_rfl) (fun _ _ _ h => h) (Or.inl ⟨by rfl, ?_⟩) (by assumption) ?_
          rotate_left
          · (intro wx hSw; clear hSw; go_simp) <;> with_reducible rfl
          simp only [Act.put, List.setIfInBounds_toArray, List.set_cons_zero, List.set_cons_succ]
          refine takeH_at 25 112 (v := .string (bsA xs)) rfl rfl (by kernel_rfl) (by kernel_rfl) (by kernel_rfl) (fun _ _ _ h => h) (yields_cv (by rfl) (.tmp 111) (by rfl) (by rfl) HN.out HAX.out) (by assumption) ?_
          simp only [Act.put, List.setIfInBounds_toArray, List.set_cons_zero, List.set_cons_succ]
          refine single 22 109 rfl rfl (by kernel_rfl) (by rfl) (fun v w' => BsIs xs v w') (looseR_call 10 rfl (enters_of Tryd.func10 (by kernel_rfl) rfl) _ (by simp only [List.map_toArray, List.map_cons, List.map_nil]; rfl) (E4.out _ _ HBX.out hSwc)) ?_
          intro v109 wd hSwd hbwd hewd
          simp only [Act.put, List.setIfInBounds_toArray, List.set_cons_zero, List.set_cons_succ]
          refine single 23 110 rfl rfl (by kernel_rfl) (by rfl) (fun v _ => v = .string (bsA xs)) (looseR_cv (v := v109) (.tmp 109) (by rfl) (by rfl) hewd hSwd) ?_
          intro v110 we hSwe hbwe hewe
          subst hewe
          simp only [Act.put, List.setIfInBounds_toArray, List.set_cons_zero, List.set_cons_succ]
          generalize bsA xs = SX
          refine takeH_at 26 113 (v := ?_) rfl rfl (by kernel_rfl) (by kernel_rfl) (by kernel_rfl) (fun _ _ _ h => h) (Or.inl ⟨by rfl, ?_⟩) (by assumption) ?_
          rotate_left
          · (intro wx hSw; clear hSw; go_simp) <;> with_reducible rfl
          simp only [Act.put, List.setIfInBounds_toArray, List.set_cons_zero, List.set_cons_succ]
          refine takeH_at 27 114 (v := ?_) rfl rfl (by kernel_rfl) (by kernel_rfl) (by kernel_rfl) (fun _ _ _ h => h) (Or.inl ⟨by rfl, ?_⟩) (by assumption) ?_
          rotate_left
          · (intro wx hSw; clear hSw; go_simp) <;> with_reducible rfl
          simp only [Act.put, List.setIfInBounds_toArray, List.set_cons_zero, List.set_cons_succ]
          refine takeH_at 28 115 (v := ?_) rfl rfl (by kernel_rfl) (by kernel_rfl) (by kernel_rfl) (fun _ _ _ h => h) (Or.inl ⟨by rfl, ?_⟩) (by assumption) ?_
          rotate_left
          · (intro wx hSw; clear hSw; go_simp) <;> with_reducible rfl
          simp only [Act.put, List.setIfInBounds_toArray, List.set_cons_zero, List.set_cons_succ]
          refine takeH_at 29 116 (v := ?_) rfl rfl (by kernel_rfl) (by kernel_rfl) (by kernel_rfl) (fun _ _ _ h => h) (Or.inl ⟨by rfl, ?_⟩) (by assumption) ?_
          rotate_left
          · (intro wx hSw; clear hSw; go_simp) <;> with_reducible rfl
          simp only [Act.put, List.setIfInBounds_toArray, List.set_cons_zero, List.set_cons_succ]
          refine wpAnyH_done (by kernel_rfl) ?_ _
          refine NoPanic.normal ?_
          have HF := Lib.hid (HBX.out.trans (hSwe.mono HBX.out.size))
          have HLL := Lib.hid (L1.out _ HF.out)
          clear hSwe
          go_wp2_with (go_at_call 14; (with_reducible refine HLL.out.mono ?_); rintro e wz ⟨rfl, hbz⟩)
          go_ret
          exact ⟨rfl, HBL.out.trans ((HF.out.trans (hbz.mono HF.out.size)).mono HBL.out.size)⟩
        · have N13 : Hid (∀ W, Below W10.heap.size W10 W → (loadVar 25 ⟨g13, 0, none⟩).run Tryd.prog W = .ok (.agg #[.int .u32 (x3 : Int), .int .u16 (y3 : Int)]) W) := Lib.hid (fun W hW => (R.below hW).ld25 (g := g13) (h := x3) (p := y3) (by first | exact .head _ | exact .tail _ (.head _) | exact .tail _ (.tail _ (.head _)) | exact .tail _ (.tail _ (.tail _ (.head _))) | exact .tail _ (.tail _ (.tail _ (.tail _ (.head _)))) | exact .tail _ (.tail _ (.tail _ (.tail _ (.tail _ (.head _)))))))
          have N15 : Hid (∀ W, Below W10.heap.size W10 W → (loadVar 25 ⟨g15, 0, none⟩).run Tryd.prog W = .ok (.agg #[.int .u32 (x4 : Int), .int .u16 (y4 : Int)]) W) := Lib.hid (fun W hW => (R.below hW).ld25 (g := g15) (h := x4) (p := y4) (by first | exact .head _ | exact .tail _ (.head _) | exact .tail _ (.tail _ (.head _)) | exact .tail _ (.tail _ (.tail _ (.head _))) | exact .tail _ (.tail _ (.tail _ (.tail _ (.head _)))) | exact .tail _ (.tail _ (.tail _ (.tail _ (.tail _ (.head _)))))))
          have HAX : Hid (∀ W, Below W10.heap.size W10 W → BAt W W.heap.size A xs) := Lib.hid (fun W hW => HA0.out W (HB.trans (hW.mono HB.size)))
          have HBX := Lib.hid HB
          have hS0 : Below W10.heap.size W10 W10.drew := (Below.refl _ W10).drew
          clear HB R
          rw [d3]
          rw [d4]
          generalize bsA s = SS at *
          refine wp_region_noPanic ?_
          refine wp_region_held_drew (S := fun w' => Below W10.heap.size W10 w') (by kernel_rfl) hS0 (fun hHeld => ?_)
          refine takeH_at 0 87 (v := ?_) rfl rfl (by kernel_rfl) (by kernel_rfl) (by kernel_rfl) (fun _ _ _ h => h) (Or.inl ⟨by rfl, ?_⟩) (by assumption) ?_
          rotate_left
          · (intro wx hSw; clear hSw; go_simp) <;> with_reducible rfl
          simp only [Act.put, List.setIfInBounds_toArray, List.set_cons_zero, List.set_cons_succ]
          refine takeH_at 1 88 (v := ?_) rfl rfl (by kernel_rfl) (by kernel_rfl) (by kernel_rfl) (fun _ _ _ h => h) (Or.inl ⟨by rfl, ?_⟩) (by assumption) ?_
          rotate_left
          · (intro wx hSw; clear hSw; go_simp) <;> with_reducible rfl
          simp only [Act.put, List.setIfInBounds_toArray, List.set_cons_zero, List.set_cons_succ]
          refine takeH_at 2 89 (v := ?_) rfl rfl (by kernel_rfl) (by kernel_rfl) (by kernel_rfl) (fun _ _ _ h => h) (Or.inl ⟨by rfl, ?_⟩) (by assumption) ?_
          rotate_left
          · (intro wx hSw; clear hSw; go_simp) <;> with_reducible rfl
          simp only [Act.put, List.setIfInBounds_toArray, List.set_cons_zero, List.set_cons_succ]
          refine takeH_at 3 90 (v := undef) rfl rfl (by kernel_rfl) (by kernel_rfl) (by kernel_rfl) (fun _ _ _ h => h) (Or.inr ⟨by rfl, rfl⟩) (by assumption) ?_
          simp only [Act.put, List.setIfInBounds_toArray, List.set_cons_zero, List.set_cons_succ]
          refine skip_one 4 91 rfl rfl (by kernel_rfl) (by rfl) (by assumption) ?_
          simp only [Act.put, List.setIfInBounds_toArray, List.set_cons_zero, List.set_cons_succ]
          refine takeH_at 5 92 (v := undef) rfl rfl (by kernel_rfl) (by kernel_rfl) (by kernel_rfl) (fun _ _ _ h => h) (Or.inr ⟨by rfl, rfl⟩) (by assumption) ?_
          simp only [Act.put, List.setIfInBounds_toArray, List.set_cons_zero, List.set_cons_succ]
          refine takeH_at 6 93 (v := undef) rfl rfl (by kernel_rfl) (by kernel_rfl) (by kernel_rfl) (fun _ _ _ h => h) (Or.inr ⟨by rfl, rfl⟩) (by assumption) ?_
          simp only [Act.put, List.setIfInBounds_toArray, List.set_cons_zero, List.set_cons_succ]
          refine takeH_at 7 94 (v := undef) rfl rfl (by kernel_rfl) (by kernel_rfl) (by kernel_rfl) (fun _ _ _ h => h) (Or.inr ⟨by rfl, rfl⟩) (by assumption) ?_
          simp only [Act.put, List.setIfInBounds_toArray, List.set_cons_zero, List.set_cons_succ]
          refine takeH_at 9 96 (v := undef) rfl rfl (by kernel_rfl) (by kernel_rfl) (by kernel_rfl) (fun _ _ _ h => h) (Or.inr ⟨by rfl, rfl⟩) (by assumption) ?_
          simp only [Act.put, List.setIfInBounds_toArray, List.set_cons_zero, List.set_cons_succ]
          refine skip_one 8 95 rfl rfl (by kernel_rfl) (by rfl) (by assumption) ?_
          simp only [Act.put, List.setIfInBounds_toArray, List.set_cons_zero, List.set_cons_succ]
          refine takeH_at 10 97 (v := undef) rfl rfl (by kernel_rfl) (by kernel_rfl) (by kernel_rfl) (fun _ _ _ h => h) (Or.inr ⟨by rfl, rfl⟩) (by assumption) ?_
          simp only [Act.put, List.setIfInBounds_toArray, List.set_cons_zero, List.set_cons_succ]
          refine takeH_at 11 98 (v := undef) rfl rfl (by kernel_rfl) (by kernel_rfl) (by kernel_rfl) (fun _ _ _ h => h) (Or.inr ⟨by rfl, rfl⟩) (by assumption) ?_
          simp only [Act.put, List.setIfInBounds_toArray, List.set_cons_zero, List.set_cons_succ]
          refine takeH_at 12 99 (v := ?_) rfl rfl (by kernel_rfl) (by kernel_rfl) (by kernel_rfl) (fun _ _ _ h => h) (Or.inl ⟨by rfl, ?_⟩) (by assumption) ?_
          rotate_left
          · (intro wx hSw; clear hSw; go_simp) <;> with_reducible rfl
          simp only [Act.put, List.setIfInBounds_toArray, List.set_cons_zero, List.set_cons_succ]
          refine takeH_at 13 100 (v := ?_) rfl rfl (by kernel_rfl) (by kernel_rfl) (by kernel_rfl) (fun _ _ _ h => h) (Or.inl ⟨by rfl, ?_⟩) (by assumption) ?_
          rotate_left
          · (intro wx hSw; clear hSw; go_simp) <;> with_reducible rfl
          simp only [Act.put, List.setIfInBounds_toArray, List.set_cons_zero, List.set_cons_succ]
          refine takeH_at 14 101 (v := ?_) rfl rfl (by kernel_rfl) (by kernel_rfl) (by kernel_rfl) (fun _ _ _ h => h) (Or.inl ⟨by rfl, ?_⟩) (by assumption) ?_
          rotate_left
          · (intro wx hSw; clear hSw; go_simp) <;> with_reducible rfl
          simp only [Act.put, List.setIfInBounds_toArray, List.set_cons_zero, List.set_cons_succ]
          refine takeH_at 15 102 (v := ?_) rfl rfl (by kernel_rfl) (by kernel_rfl) (by kernel_rfl) (fun _ _ _ h => h) (Or.inl ⟨by rfl, ?_⟩) (by assumption) ?_
          rotate_left
          · (intro wx hSw; clear hSw; go_simp) <;> with_reducible rfl
          simp only [Act.put, List.setIfInBounds_toArray, List.set_cons_zero, List.set_cons_succ]
          refine takeH_at 16 103 (v := ?_) rfl rfl (by kernel_rfl) (by kernel_rfl) (by kernel_rfl) (fun _ _ _ h => h) (Or.inl ⟨by rfl, ?_⟩) (by assumption) ?_
          rotate_left
          · (intro wx hSw; clear hSw; go_simp) <;> with_reducible rfl
          simp only [Act.put, List.setIfInBounds_toArray, List.set_cons_zero, List.set_cons_succ]
          refine takeH_at 17 104 (v := undef) rfl rfl (by kernel_rfl) (by kernel_rfl) (by kernel_rfl) (fun _ _ _ h => h) (Or.inr ⟨by rfl, rfl⟩) (by assumption) ?_
          simp only [Act.put, List.setIfInBounds_toArray, List.set_cons_zero, List.set_cons_succ]
          refine skip_one 18 105 rfl rfl (by kernel_rfl) (by rfl) (by assumption) ?_
          simp only [Act.put, List.setIfInBounds_toArray, List.set_cons_zero, List.set_cons_succ]
          refine takeH_at 19 106 (v := undef) rfl rfl (by kernel_rfl) (by kernel_rfl) (by kernel_rfl) (fun _ _ _ h => h) (Or.inr ⟨by rfl, rfl⟩) (by assumption) ?_
          simp only [Act.put, List.setIfInBounds_toArray, List.set_cons_zero, List.set_cons_succ]
          refine takeH_at 20 107 (v := undef) rfl rfl (by kernel_rfl) (by kernel_rfl) (by kernel_rfl) (fun _ _ _ h => h) (Or.inr ⟨by rfl, rfl⟩) (by assumption) ?_
          simp only [Act.put, List.setIfInBounds_toArray, List.set_cons_zero, List.set_cons_succ]
          refine takeH_at 21 108 (v := undef) rfl rfl (by kernel_rfl) (by kernel_rfl) (by kernel_rfl) (fun _ _ _ h => h) (Or.inr ⟨by rfl, rfl⟩) (by assumption) ?_
          simp only [Act.put, List.setIfInBounds_toArray, List.set_cons_zero, List.set_cons_succ]
          refine takeH_at 24 111 (v := undef) rfl rfl (by kernel_rfl) (by kernel_rfl) (by kernel_rfl) (fun _ _ _ h => h) (Or.inr ⟨by rfl, rfl⟩) (by assumption) ?_
          simp only [Act.put, List.setIfInBounds_toArray, List.set_cons_zero, List.set_cons_succ]
          refine takeH_at 25 112 (v := undef) rfl rfl (by kernel_rfl) (by kernel_rfl) (by kernel_rfl) (fun _ _ _ h => h) (Or.inr ⟨by rfl, rfl⟩) (by assumption) ?_
          simp only [Act.put, List.setIfInBounds_toArray, List.set_cons_zero, List.set_cons_succ]
          refine skip_one 22 109 rfl rfl (by kernel_rfl) (by rfl) (by assumption) ?_
          simp only [Act.put, List.setIfInBounds_toArray, List.set_cons_zero, List.set_cons_succ]
          refine takeH_at 23 110 (v := undef) rfl rfl (by kernel_rfl) (by kernel_rfl) (by kernel_rfl) (fun _ _ _ h => h) (Or.inr ⟨by rfl, rfl⟩) (by assumption) ?_
          simp only [Act.put, List.setIfInBounds_toArray, List.set_cons_zero, List.set_cons_succ]
          refine takeH_at 26 113 (v := undef) rfl rfl (by kernel_rfl) (by kernel_rfl) (by kernel_rfl) (fun _ _ _ h => h) (Or.inr ⟨by rfl, rfl⟩) (by assumption) ?_
          simp only [Act.put, List.setIfInBounds_toArray, List.set_cons_zero, List.set_cons_succ]
          refine takeH_at 27 114 (v := undef) rfl rfl (by kernel_rfl) (by kernel_rfl) (by kernel_rfl) (fun _ _ _ h => h) (Or.inr ⟨by rfl, rfl⟩) (by assumption) ?_
          simp only [Act.put, List.setIfInBounds_toArray, List.set_cons_zero, List.set_cons_succ]
          refine takeH_at 28 115 (v := ?_) rfl rfl (by kernel_rfl) (by kernel_rfl) (by kernel_rfl) (fun _ _ _ h => h) (Or.inl ⟨by rfl, ?_⟩) (by assumption) ?_
          rotate_left
          · (intro wx hSw; clear hSw; go_simp) <;> with_reducible rfl
          simp only [Act.put, List.setIfInBounds_toArray, List.set_cons_zero, List.set_cons_succ]
          refine takeH_at 29 116 (v := ?_) rfl rfl (by kernel_rfl) (by kernel_rfl) (by kernel_rfl) (fun _ _ _ h => h) (Or.inl ⟨by rfl, ?_⟩) (by assumption) ?_
          rotate_left
          · (intro wx hSw; clear hSw; go_simp) <;> with_reducible rfl
          simp only [Act.put, List.setIfInBounds_toArray, List.set_cons_zero, List.set_cons_succ]
          refine wpAnyH_done (by kernel_rfl) ?_ _
          refine NoPanic.normal ?_
          have HF := Lib.hid (HBX.out.trans (hHeld.mono HBX.out.size))
          have HLL := Lib.hid (L1.out _ HF.out)
          clear hHeld
          go_wp2_with (go_at_call 14; (with_reducible refine HLL.out.mono ?_); rintro e wz ⟨rfl, hbz⟩)
          go_ret
          exact ⟨rfl, HBL.out.trans ((HF.out.trans (hbz.mono HF.out.size)).mono HBL.out.size)⟩
theorem aback_walk (h p h' p' : Nat) (hh : h < 4294967296) (hp : p < 65536) (hh' : h' < 4294967296) (hp' : p' < 65536) (B : ByteArray) (A : Option Addr) (c : Nat) (xs : List UInt8) (w : World) (ht : Tab w) (hA : BAt w w.heap.size A xs) :
    Calls Tryd.prog 5 #[.agg (adr h p), .agg (adr h' p'), .string B, .slice A xs.length c] w fun e w' => e = .returned (.bool true) ∧ Below w.heap.size w w' := by
  by_cases hq : 1000 < B.size ∨ 1000 < xs.length
  · exact aback_far _ _ B A xs.length c hq w ht
  · have e : bsA B.data.toList = B := ByteArray.ext (show B.data.toList.toArray = B.data from Array.toArray_toList)
    have hl : B.data.toList.length = B.size := Array.length_toList
    have := aback_near h p h' p' hh hp hh' hp' B.data.toList A c xs (by omega) (by omega) w ht hA
    rwa [e] at this
end Go.Proofs.YtieeffebecghiaaDoor
