/- Contract of the reference's Nearer of layer span, and of Ints of the statements on span. Conditions: an id has 20 bytes. -/
import Derived.Test.YtieeffebecghiaaPSrd
namespace Go.Proofs.Ytieeffebecghiaa
set_option maxRecDepth 100000
set_option maxHeartbeats 1000000
open Go.RowKit Go.Lib Go.Great

theorem grown_of_bel {w w' : World} (h : Below w.heap.size w w') (row : Option Nat) : w.grownBy w' row := ⟨h.os, h.tape, h.output, h.size, fun k hk _ => h.block k hk⟩
/-- Numbers as cells. -/
def intsL (L : List Nat) : List Value := L.map fun (n : Nat) => .int .i64 (n : Int)
theorem intsL_append (L M : List Nat) : intsL (L ++ M) = intsL L ++ intsL M := by simp [intsL]
theorem intsL_length (L : List Nat) : (intsL L).length = L.length := by simp [intsL]
theorem intsL_one (L : List Nat) : ∀ u ∈ intsL L, u.oneCell' = true := by
  intro u hu
  obtain ⟨n, _, rfl⟩ := List.mem_map.1 hu
  rfl
theorem info3 : ∃ i0, Try.prog.info? 3 = some i0 ∧ i0.zero = some (.int .i64 0) ∧ i0.size = 1 ∧ i0.bytes = 8 := by
  have h : (Try.prog.info? 3).map (fun i => (i.zero, i.size, i.bytes)) = some (some (.int .i64 0), 1, 8) := by kernel_rfl
  cases hi : Try.prog.info? 3 with
  | none => rw [hi] at h; cases h
  | some i =>
    rw [hi] at h
    simp only [Option.map_some, Option.some.injEq, Prod.mk.injEq] at h
    exact ⟨i, rfl, h.1, h.2.1, h.2.2⟩
theorem undInts : Try.prog.underlying 39 = some (.slice 3) := by kernel_rfl
theorem wpList_append_ints {w : World} {ops : Array Oper} {rest : List Oper} {o : Oper} {a : Act} {Q : Exit → Act → World → Prop} (hgd : o.guard = none) (s x : Operand)
    (ho : o.op = .call { callee := .builtin .append, args := #[s, x], argTypes := #[39, 39] })
    (base : Nat) (v : Value) (L : List Nat) (hs : a.eval s = v) (hown : w.ownsRow base 3 1 v L.length (intsL L))
    (y : Value) (M : List Nat) (hx : a.eval x = y) (hr : Src Try.prog 1 39 y M.length (intsL M) w) (h63 : L.length + M.length ≤ 100000) (hbase : base ≤ w.heap.size)
    (h : ∀ v' w', w'.ownsRow base 3 1 v' (L ++ M).length (intsL (L ++ M)) → w.grownBy w' v.ownBlock → wpList Try.prog ops Q rest (a.put o.dst v') w') : wpList Try.prog ops Q (o :: rest) a w :=
  wpList_plain hgd fun _ hK => by
    obtain ⟨i0, hi, hz0, hz1, hz2⟩ := info3
    obtain ⟨v', w', hrun, h2, h3, _⟩ := run_append_srcK w base 39 39 o.type 3 i0 _ 1 8 undInts hi hz0 hz1 hz2 rfl v L.length (intsL L) hown y M.length (intsL M) hr (by simp only [maxLen]; omega) (by omega) hbase
    unfold Oper.wp execOp
    simp only [ho, resolve, invoke, builtin, Sem.run_bind, Sem.run_pure, Result.andThen_ok, List.map_toArray, List.map_cons, List.map_nil, hs, hx, hrun]
    refine hK _ _ (h v' w' ?_ h3)
    rw [List.length_append, intsL_append]
    exact h2
theorem src_int (n : Nat) (W : World) : Src Try.prog 1 39 (.slice (some ⟨W.heap.size, 0, none⟩) 1 1) [n].length (intsL [n]) (W.alloc (.cells #[.int .i64 (n : Int)] 3)) := by
  refine Src.ofSlice _ undInts _ 1 1 (intsL [n]) rfl (fun j u hu => ?_) (intsL_one _)
  rw [Addr.add_mid]
  exact row_range (cs := [.int .i64 (n : Int)]) (heap_alloc_new W (.cells #[.int .i64 (n : Int)] 3)) j u hu

def NeRel (W0 : World) (o t : List UInt8) (v i : Value) (wr : World) : Prop := ∃ j : Nat, j ≤ 160 ∧ i = .int .i64 (j : Int) ∧ wr.ownsRow W0.heap.size 3 1 v (nearL o t j).length (intsL (nearL o t j)) ∧ Below W0.heap.size W0 wr
def NearerIs (o t : List UInt8) (base : Nat) (v : Value) (w : World) : Prop := w.ownsRow base 3 1 v (nearL o t 160).length (intsL (nearL o t 160))
theorem rnearer_any (o t : List UInt8) (ho : o.length = 20) (ht : t.length = 20) (w : World) :
    Calls Try.prog 19 #[.agg (bcells o).toArray, .agg (bcells t).toArray] w fun e w' => ∃ v, e = .returned v ∧ NearerIs o t w.heap.size v w' ∧ Below w.heap.size w w' := by
  obtain ⟨h1, h2, hb0⟩ := heap2 w (.cells (bcells o).toArray 26) (.cells (bcells t).toArray 26)
  obtain ⟨W0, hW0⟩ : ∃ W0, W0 = (w.alloc (.cells (bcells o).toArray 26)).alloc (.cells (bcells t).toArray 26) := ⟨_, rfl⟩
  rw [← hW0] at h1 h2 hb0
  have g1 := (Array.getElem?_eq_some_iff.1 h1).1
  have g2 := (Array.getElem?_eq_some_iff.1 h2).1
  have L1 : Hid (∀ W, Below W0.heap.size W0 W → ∀ n : Kept W.heap.size W, (loadVar 26 ⟨w.heap.size, 0, none⟩).run Try.prog n.val = .ok (.agg (bcells o).toArray) n.val) := Lib.hid (fun W h n => load42 ho ((n.property.block _ (Nat.lt_of_lt_of_le g1 h.size)).trans ((h.block _ g1).trans h1)))
  have L2 : Hid (∀ W, Below W0.heap.size W0 W → ∀ n : Kept W.heap.size W, (loadVar 26 ⟨w.heap.size + 1, 0, none⟩).run Try.prog n.val = .ok (.agg (bcells t).toArray) n.val) := Lib.hid (fun W h n => load42 ht ((n.property.block _ (Nat.lt_of_lt_of_le g2 h.size)).trans ((h.block _ g2).trans h2)))
  have B1 := Lib.hid (fun (j : Nat) (hj : j < 160) W => rbit_yes o ho j hj W)
  have B2 := Lib.hid (fun (j : Nat) (hj : j < 160) W => rbit_yes t ht j hj W)
  have HW := Lib.hid hW0
  have HB0 := Lib.hid hb0
  have R0 : Hid (NeRel W0 o t (.slice none 0 0) (.int .i64 0) W0) := Lib.hid ⟨0, by omega, rfl, World.ownsRow_nil W0 _ 3 1, Below.refl _ _⟩
  generalize (bcells o).toArray = OA at L1 B1 HW ⊢
  generalize (bcells t).toArray = TA at L2 B2 HW ⊢
  clear h1 h2 hb0 hW0 g1 g2 ho ht
  go_enter Try.func19, Try.ntmps19
  go_upto_region 3 with fail
  rw [← HW.out]
  go_loopw [5, 6] (NeRel W0 o t) (fun _ i _ => 160 - (RowKit.intOf i).toNat)
  case atStart => exact R0.out
  case round =>
    obtain ⟨j, hj, rfl, hown, hb⟩ := hrel
    clear R0
    have HB := Lib.hid hb
    have HOW := Lib.hid hown
    by_cases hlt : j < 160
    · have K1 := Lib.hid (L1.out wr hb)
      have K2 := Lib.hid (L2.out wr hb)
      have C1 := Lib.hid (B1.out j hlt)
      have C2 := Lib.hid (B2.out j hlt)
      have HS := Lib.hid (nearL_succ o t j)
      have hlen := nearL_len o t j
      generalize bitL o j = b1 at C1 HS
      generalize bitL t j = b2 at C2 HS
      clear hown hb
      have hcase : b1 = b2 ∨ b1 = !b2 := by cases b1 <;> cases b2 <;> simp
      rcases hcase with rfl | rfl
      · have HREL : Hid (∀ wk, Below wr.heap.size wr wk → NeRel W0 o t u5 (.int .i64 ((j : Int) + 1)) wk) := Lib.hid (fun wk hk => ⟨j + 1, by omega, by go_num, by
          rw [HS.out]
          simp only [bne_self_eq_false, Bool.false_eq_true, if_false, List.append_nil]
          exact HOW.out.kept (grown_of_bel hk none) (by cases u5.ownBlock <;> simp), HB.out.trans (hk.mono HB.out.size)⟩)
        cases b1
        all_goals
          simp only [Bool.false_eq_true, if_false, if_true] at C1 C2
          go_upto_region 5 with fail
          refine wp_region_kept wr.heap.size wr (Below.refl _ _) (by kernel_rfl) (by kernel_rfl) ?_
          repeat (first
            | (go_big_quiet_want; (with_reducible refine quiet_loadV 26 (.tmp 2) rfl _ ?_ _ K1.out ?_); rfl; simp only [Act.put, List.setIfInBounds_toArray, List.set_cons_zero, List.set_cons_succ]; go_big_quiet_on)
            | (go_big_quiet_want; (with_reducible refine quiet_loadV 26 (.tmp 3) rfl _ ?_ _ K2.out ?_); rfl; simp only [Act.put, List.setIfInBounds_toArray, List.set_cons_zero, List.set_cons_succ]; go_big_quiet_on)
            | go_big_quiet_step (first | (go_at_call 31; with_reducible exact kept_of (Nat.le_refl _) C1.out _) | (go_at_call 31; with_reducible exact kept_of (Nat.le_refl _) C2.out _)))
          refine wpQuiet_nil ?_
          rintro wk ⟨⟨_, hwk⟩, rfl⟩
          have HR2 := Lib.hid (HREL.out _ hwk)
          clear hwk HREL HB HOW K1 K2 C1 C2
          go_wp2
          go_roundw
          case rel => exact HR2.out
          case measure => simp [RowKit.intOf]; omega
      · have HREL : Hid (∀ v w', w'.ownsRow W0.heap.size 3 1 v (nearL o t j ++ [j]).length (intsL (nearL o t j ++ [j])) → Below W0.heap.size W0 w' → NeRel W0 o t v (.int .i64 ((j : Int) + 1)) w') := Lib.hid (fun v w' h1 h2 => ⟨j + 1, by omega, by go_num, by
          rw [HS.out, if_pos (by cases b2 <;> rfl)]
          exact h1, h2⟩)
        have HOK : Hid (∀ wk, Below wr.heap.size wr wk → (wk.alloc (.cells #[.int .i64 (j : Int)] 3)).ownsRow W0.heap.size 3 1 u5 (nearL o t j).length (intsL (nearL o t j))) := Lib.hid (fun wk hk => (HOW.out.kept (grown_of_bel hk none) (by cases u5.ownBlock <;> simp)).alloc _)
        have HL : Hid ((nearL o t j).length + [j].length ≤ 100000) := Lib.hid (by simp; omega)
        cases b2
        all_goals
          simp only [Bool.not_false, Bool.not_true, Bool.false_eq_true, if_false, if_true] at C1 C2
          go_upto_region 5 with fail
          refine wp_region_kept wr.heap.size wr (Below.refl _ _) (by kernel_rfl) (by kernel_rfl) ?_
          repeat (first
            | (go_big_quiet_want; (with_reducible refine quiet_loadV 26 (.tmp 2) rfl _ ?_ _ K1.out ?_); rfl; simp only [Act.put, List.setIfInBounds_toArray, List.set_cons_zero, List.set_cons_succ]; go_big_quiet_on)
            | (go_big_quiet_want; (with_reducible refine quiet_loadV 26 (.tmp 3) rfl _ ?_ _ K2.out ?_); rfl; simp only [Act.put, List.setIfInBounds_toArray, List.set_cons_zero, List.set_cons_succ]; go_big_quiet_on)
            | go_big_quiet_step (first | (go_at_call 31; with_reducible exact kept_of (Nat.le_refl _) C1.out _) | (go_at_call 31; with_reducible exact kept_of (Nat.le_refl _) C2.out _)))
          refine wpQuiet_nil ?_
          rintro wk ⟨⟨_, hwk⟩, rfl⟩
          have HWK := Lib.hid (HB.out.trans (hwk.mono HB.out.size))
          have HO2 := Lib.hid (HOK.out _ hwk)
          clear hwk HOK HOW K1 K2 C1 C2
          go_upto_region 4 with (refine wpList_append_ints rfl (.tmp 18) (.tmp 20) rfl W0.heap.size u5 (nearL o t j) rfl HO2.out _ [j] rfl (src_int j _) HL.out (by have := HWK.out.size; simp; omega) ?_; intro v2 w2 ho2 hg2)
          have HR2 := Lib.hid (HREL.out v2 w2 ho2 ((HWK.out.alloc HWK.out.size _).grown hg2 (by have := HWK.out.size; simp; omega) (fun k hk => (HO2.out.lt k hk).1)))
          clear ho2 hg2 HREL HB HO2 HWK
          go_wp2
          go_roundw
          case rel => exact HR2.out
          case measure => simp [RowKit.intOf]; omega
    · obtain rfl : j = 160 := by omega
      have HF : Hid (NearerIs o t w.heap.size u5 wr) := Lib.hid ⟨hown.1, hown.2.imp id (fun ⟨g, cap, cur, h1, h2, h3⟩ => ⟨g, cap, cur, h1, Nat.le_trans HB0.out.size h2, h3⟩)⟩
      have HBF := Lib.hid (HB0.out.trans (hb.mono HB0.out.size))
      clear hown hb HB HOW
      go_wp2
      go_ret
      exact ⟨_, rfl, HF.out, HBF.out⟩
end Go.Proofs.Ytieeffebecghiaa
