/- Plain and Back of the reference: contacts of one type as contacts of the other. Conditions: at most 10,000 contacts. -/
import Derived.Test.YtehgpnnfjgmiiaaGreatVNCra
import Derived.Test.YtehgpnnfjgmiiaaGreatVNCnx
import Derived.Test.YtehgpnnfjgmiiaaGreatVObd
namespace Go.Proofs.YtehgpnnfjgmiiaaGreat
open Go.Shelf Go.RowKit Go.Lib Go.Great
set_option maxRecDepth 100000
set_option maxHeartbeats 2000000
theorem wp_append_con {t e : TypeId} (hT : ConT t e) {w : World} {o : Oper} {a : Act} {K : Act → World → Prop} {Q : Exit → Act → World → Prop} (s x : Operand)
    (ho : o.op = .call { callee := .builtin .append, args := #[s, x], argTypes := #[t, t] })
    (base : Nat) (v : Value) (L M : List Con) (hs : a.eval s = v) (hown : w.ownsRow base e 22 v L.length (flatE encC L))
    (y : Value) (hx : a.eval x = y) (hr : Src Tryz.prog 22 t y M.length (flatE encC M) w) (h63 : L.length + M.length ≤ 1000000) (hbase : base ≤ w.heap.size)
    (h : ∀ v' w', w'.ownsRow base e 22 v' (L ++ M).length (flatE encC (L ++ M)) → w.grownBy w' v.ownBlock → K (a.put o.dst v') w') : o.wp Tryz.prog a w K Q := by
  obtain ⟨i0, hi, hz0, hz1, hz2⟩ := hT.info
  obtain ⟨v', w', hrun, h2, h3, _⟩ := run_append_srcK w base t t o.type e i0 _ 22 28 hT.und hi hz0 hz1 hz2 (by simp [Value.cells, encC_length]) v L.length (flatE encC L) hown y M.length (flatE encC M) hr (by simp only [maxLen]; omega) (by omega) hbase
  unfold Oper.wp execOp
  simp only [ho, resolve, invoke, builtin, Sem.run_bind, Sem.run_pure, Result.andThen_ok, List.map_toArray, List.map_cons, List.map_nil, hs, hx, hrun]
  have e1 : flatE encC L ++ flatE encC M = flatE encC (L ++ M) := by unfold flatE; rw [List.flatMap_append]
  rw [e1, ← List.length_append] at h2
  exact h v' w' h2 h3
/-- The cells of one contact of a row. -/
theorem cell_con {w W : World} {B g off : Nat} {L : List Con} (h : w.rangeAt g off (flatE encC L)) (hg : g < B) (hb : Below B w W) {k : Nat} (hk : k < L.length) : W.rangeAt g (off + k * 22) (encC L[k]!) := by
  have hr : W.rangeAt g off (flatE encC L) := fun j v hj => (hb.cell (p := ⟨g, off + j, none⟩) hg).trans (h j v hj)
  intro j v hv
  have hj : j < 22 := by have := (List.getElem?_eq_some_iff.1 hv).1; rwa [encC_length] at this
  have e := flatE_get encC_length (by omega) L k L[k]! j (by rw [List.getElem?_eq_getElem hk, getElem!_pos L k hk]) hj
  have := hr (k * 22 + j) v (by rw [e]; exact hv)
  rwa [← Nat.add_assoc] at this
theorem enc_host (c : Con) : (encC c)[20]? = some (.int .u32 (c.1.2.1 : Int)) := by
  unfold encC
  rw [List.getElem?_append_right (by rw [bcells_length, c.2.id]; omega), bcells_length, c.2.id]; rfl
theorem enc_port (c : Con) : (encC c)[21]? = some (.int .u16 (c.1.2.2 : Int)) := by
  unfold encC
  rw [List.getElem?_append_right (by rw [bcells_length, c.2.id]; omega), bcells_length, c.2.id]; rfl
theorem step_wp {c : Prop} [Decidable c] {A E : Prop} (hc : c) (h : A) : if c then A else E := by rw [if_pos hc]; exact h
theorem yieldsIf_buildP {P : Program} {ops : Array Oper} {S : World → Prop} {op : Oper} {a : Act} (hw : Region.wanted op (yielded ops a.tmps) = true) (t : TypeId) (parts : Array (Nat × Operand)) (ho : op.op = .build t parts) (vs : Array (Nat × Value))
    (hv : (parts.map fun (i, x) => (i, a.eval x)) = vs) (v : Value) (hr : ∀ w, (Instr.build t vs).run P w = .ok v w) : YieldsIf P ops S op v a :=
  Or.inl ⟨hw, fun w _ => by
    unfold execOp
    simp only [ho, hv, Sem.run_bind, hr, Result.andThen_ok, Sem.run_pure]⟩
theorem run_buildC90 (c : Con) (w : World) : (Instr.build 90 #[(0, .agg (bcells c.1.1).toArray), (1, .agg #[.int .u32 (c.1.2.1 : Int), .int .u16 (c.1.2.2 : Int)])]).run Tryz.prog w = .ok (.agg (encC c).toArray) w := by
  obtain ⟨⟨xs, h, p⟩, hid, hh, hp⟩ := c
  simp only at hid
  obtain ⟨x0, xs, rfl⟩ := List.exists_cons_of_length_eq_add_one (show xs.length = 19 + 1 by simpa using hid)
  obtain ⟨x1, xs, rfl⟩ := List.exists_cons_of_length_eq_add_one (show xs.length = 18 + 1 by simpa using hid)
  obtain ⟨x2, xs, rfl⟩ := List.exists_cons_of_length_eq_add_one (show xs.length = 17 + 1 by simpa using hid)
  obtain ⟨x3, xs, rfl⟩ := List.exists_cons_of_length_eq_add_one (show xs.length = 16 + 1 by simpa using hid)
  obtain ⟨x4, xs, rfl⟩ := List.exists_cons_of_length_eq_add_one (show xs.length = 15 + 1 by simpa using hid)
  obtain ⟨x5, xs, rfl⟩ := List.exists_cons_of_length_eq_add_one (show xs.length = 14 + 1 by simpa using hid)
  obtain ⟨x6, xs, rfl⟩ := List.exists_cons_of_length_eq_add_one (show xs.length = 13 + 1 by simpa using hid)
  obtain ⟨x7, xs, rfl⟩ := List.exists_cons_of_length_eq_add_one (show xs.length = 12 + 1 by simpa using hid)
  obtain ⟨x8, xs, rfl⟩ := List.exists_cons_of_length_eq_add_one (show xs.length = 11 + 1 by simpa using hid)
  obtain ⟨x9, xs, rfl⟩ := List.exists_cons_of_length_eq_add_one (show xs.length = 10 + 1 by simpa using hid)
  obtain ⟨x10, xs, rfl⟩ := List.exists_cons_of_length_eq_add_one (show xs.length = 9 + 1 by simpa using hid)
  obtain ⟨x11, xs, rfl⟩ := List.exists_cons_of_length_eq_add_one (show xs.length = 8 + 1 by simpa using hid)
  obtain ⟨x12, xs, rfl⟩ := List.exists_cons_of_length_eq_add_one (show xs.length = 7 + 1 by simpa using hid)
  obtain ⟨x13, xs, rfl⟩ := List.exists_cons_of_length_eq_add_one (show xs.length = 6 + 1 by simpa using hid)
  obtain ⟨x14, xs, rfl⟩ := List.exists_cons_of_length_eq_add_one (show xs.length = 5 + 1 by simpa using hid)
  obtain ⟨x15, xs, rfl⟩ := List.exists_cons_of_length_eq_add_one (show xs.length = 4 + 1 by simpa using hid)
  obtain ⟨x16, xs, rfl⟩ := List.exists_cons_of_length_eq_add_one (show xs.length = 3 + 1 by simpa using hid)
  obtain ⟨x17, xs, rfl⟩ := List.exists_cons_of_length_eq_add_one (show xs.length = 2 + 1 by simpa using hid)
  obtain ⟨x18, xs, rfl⟩ := List.exists_cons_of_length_eq_add_one (show xs.length = 1 + 1 by simpa using hid)
  obtain ⟨x19, xs, rfl⟩ := List.exists_cons_of_length_eq_add_one (show xs.length = 0 + 1 by simpa using hid)
  obtain rfl := List.eq_nil_of_length_eq_zero (show xs.length = 0 by simpa using hid)
  kernel_rfl
theorem run_buildA88 (h p : Int) (w : World) : (Instr.build 88 #[(0, .int .u32 h), (1, .int .u16 p)]).run Tryz.prog w = .ok (.agg #[.int .u32 h, .int .u16 p]) w := by kernel_rfl
theorem run_buildC63 (c : Con) (w : World) : (Instr.build 63 #[(0, .agg (bcells c.1.1).toArray), (1, .agg #[.int .u32 (c.1.2.1 : Int), .int .u16 (c.1.2.2 : Int)])]).run Tryz.prog w = .ok (.agg (encC c).toArray) w := by
  obtain ⟨⟨xs, h, p⟩, hid, hh, hp⟩ := c
  simp only at hid
  obtain ⟨x0, xs, rfl⟩ := List.exists_cons_of_length_eq_add_one (show xs.length = 19 + 1 by simpa using hid)
  obtain ⟨x1, xs, rfl⟩ := List.exists_cons_of_length_eq_add_one (show xs.length = 18 + 1 by simpa using hid)
  obtain ⟨x2, xs, rfl⟩ := List.exists_cons_of_length_eq_add_one (show xs.length = 17 + 1 by simpa using hid)
  obtain ⟨x3, xs, rfl⟩ := List.exists_cons_of_length_eq_add_one (show xs.length = 16 + 1 by simpa using hid)
  obtain ⟨x4, xs, rfl⟩ := List.exists_cons_of_length_eq_add_one (show xs.length = 15 + 1 by simpa using hid)
  obtain ⟨x5, xs, rfl⟩ := List.exists_cons_of_length_eq_add_one (show xs.length = 14 + 1 by simpa using hid)
  obtain ⟨x6, xs, rfl⟩ := List.exists_cons_of_length_eq_add_one (show xs.length = 13 + 1 by simpa using hid)
  obtain ⟨x7, xs, rfl⟩ := List.exists_cons_of_length_eq_add_one (show xs.length = 12 + 1 by simpa using hid)
  obtain ⟨x8, xs, rfl⟩ := List.exists_cons_of_length_eq_add_one (show xs.length = 11 + 1 by simpa using hid)
  obtain ⟨x9, xs, rfl⟩ := List.exists_cons_of_length_eq_add_one (show xs.length = 10 + 1 by simpa using hid)
  obtain ⟨x10, xs, rfl⟩ := List.exists_cons_of_length_eq_add_one (show xs.length = 9 + 1 by simpa using hid)
  obtain ⟨x11, xs, rfl⟩ := List.exists_cons_of_length_eq_add_one (show xs.length = 8 + 1 by simpa using hid)
  obtain ⟨x12, xs, rfl⟩ := List.exists_cons_of_length_eq_add_one (show xs.length = 7 + 1 by simpa using hid)
  obtain ⟨x13, xs, rfl⟩ := List.exists_cons_of_length_eq_add_one (show xs.length = 6 + 1 by simpa using hid)
  obtain ⟨x14, xs, rfl⟩ := List.exists_cons_of_length_eq_add_one (show xs.length = 5 + 1 by simpa using hid)
  obtain ⟨x15, xs, rfl⟩ := List.exists_cons_of_length_eq_add_one (show xs.length = 4 + 1 by simpa using hid)
  obtain ⟨x16, xs, rfl⟩ := List.exists_cons_of_length_eq_add_one (show xs.length = 3 + 1 by simpa using hid)
  obtain ⟨x17, xs, rfl⟩ := List.exists_cons_of_length_eq_add_one (show xs.length = 2 + 1 by simpa using hid)
  obtain ⟨x18, xs, rfl⟩ := List.exists_cons_of_length_eq_add_one (show xs.length = 1 + 1 by simpa using hid)
  obtain ⟨x19, xs, rfl⟩ := List.exists_cons_of_length_eq_add_one (show xs.length = 0 + 1 by simpa using hid)
  obtain rfl := List.eq_nil_of_length_eq_zero (show xs.length = 0 by simpa using hid)
  kernel_rfl
theorem run_buildA61 (h p : Int) (w : World) : (Instr.build 61 #[(0, .int .u32 h), (1, .int .u16 p)]).run Tryz.prog w = .ok (.agg #[.int .u32 h, .int .u16 p]) w := by kernel_rfl
theorem plain_some (g off c n : Nat) (L : List Con) (w : World) (hn : L.length = n) (hL : n ≤ 10000) (hg : g < w.heap.size) (hr : w.rangeAt g off (flatE encC L)) : Calls Tryz.prog 29 #[.slice (some ⟨g, off, none⟩) n c] w fun e w' => ∃ v, e = .returned v ∧ w'.ownsRow w.heap.size 90 22 v n (flatE encC L) ∧ Below w.heap.size w w' := by
  have HC : Hid (∀ k, k < n → ∀ W, Below w.heap.size w W → (loadVar 24 ⟨g, off + k * 22, none⟩).run Tryz.prog W = .ok (.agg (bcells L[k]!.1.1).toArray) W ∧ W.cell? ⟨g, off + k * 22 + 20, none⟩ = some (.int .u32 (L[k]!.1.2.1 : Int)) ∧ W.cell? ⟨g, off + k * 22 + 21, none⟩ = some (.int .u16 (L[k]!.1.2.2 : Int))) := Lib.hid (fun k hk W hW => by
    have hc := cell_con hr hg hW (k := k) (by omega)
    refine ⟨?_, hc 20 _ (enc_host _), hc 21 _ (enc_port _)⟩
    exact run_loadVar_mid W g (off + k * 22) 24 (bcells L[k]!.1.1) _ (range_frontI (show W.rangeAt g (off + k * 22) (bcells L[k]!.1.1 ++ _) from hc)) Tryz.underlying24 rfl (by rw [bcells_length, L[k]!.2.id]; kernel_rfl))
  have HTK : Hid (∀ k, k < n → L.take (k + 1) = L.take k ++ [L[k]!]) := Lib.hid (fun k hk => by
    rw [List.take_add_one, List.getElem?_eq_getElem (by omega), getElem!_pos L k (by omega)]; rfl)
  have HLN : Hid (∀ k, k ≤ n → (L.take k).length = k) := Lib.hid (fun k hk => by rw [List.length_take]; omega)
  have HALL : Hid (L.take n = L) := Lib.hid (by rw [← hn, List.take_length])
  have R0 : Hid (∃ k : Nat, Value.int .i64 0 = .int .i64 (k : Int) ∧ k ≤ n ∧ w.ownsRow w.heap.size 90 22 (.slice none 0 0) k (flatE encC (L.take k)) ∧ Below w.heap.size w w) := Lib.hid ⟨0, rfl, by omega, World.ownsRow_nil w _ 90 22, Below.refl _ _⟩
  clear hr
  go_enter Tryz.func29, Tryz.ntmps29
  go_wp2
  go_loopw [3, 4] (fun s i wr => ∃ k : Nat, i = .int .i64 (k : Int) ∧ k ≤ n ∧ wr.ownsRow w.heap.size 90 22 s k (flatE encC (L.take k)) ∧ Below w.heap.size w wr) (fun _ i _ => n - (RowKit.intOf i).toNat)
  case atStart => exact R0.out
  case round =>
    obtain ⟨k, rfl, hk, ho, hbr⟩ := hrel
    clear R0
    by_cases hlt : k < n
    · have hlt' : (k : Int) < (n : Int) := by omega
      have HBR := Lib.hid hbr
      have HID : Hid (∀ W, Below w.heap.size w W → (loadVar 24 ⟨g, off + k * 22, none⟩).run Tryz.prog W = .ok (.agg (bcells L[k]!.1.1).toArray) W) := Lib.hid (fun W hW => (HC.out k hlt W hW).1)
      have HHO : Hid (∀ W, Below w.heap.size w W → W.cell? ⟨g, off + k * 22 + 20, none⟩ = some (.int .u32 (L[k]!.1.2.1 : Int))) := Lib.hid (fun W hW => (HC.out k hlt W hW).2.1)
      have HPO : Hid (∀ W, Below w.heap.size w W → W.cell? ⟨g, off + k * 22 + 21, none⟩ = some (.int .u16 (L[k]!.1.2.2 : Int))) := Lib.hid (fun W hW => (HC.out k hlt W hW).2.2)
      obtain ⟨x, hx⟩ : ∃ x : Con, x = L[k]! := ⟨_, rfl⟩
      have HX := Lib.hid hx
      have HT := Lib.hid (HTK.out k hlt)
      have HLK := Lib.hid (HLN.out k hk)
      have HLK1 := Lib.hid (HLN.out (k + 1) (by omega))
      rw [← hx] at HID HHO HPO HT
      clear hx HC HTK HALL hbr
      have HO := Lib.hid ho
      clear ho
      go_upto_region 5 with fail
      refine wp_region_noPanic ?_
      have hS0 : Below w.heap.size w wr.drew := HBR.out.drew
      refine wp_region_held_drew (S := fun w' => Below w.heap.size w w') (by kernel_rfl) hS0 (fun hHeld => ?_)
      refine takeH_at 1 12 (v := ?_) rfl rfl (by kernel_rfl) (by kernel_rfl) (by kernel_rfl) (fun _ _ _ h => h) (Or.inl ⟨by rfl, ?_⟩) (by assumption) ?_
      rotate_left
      · (intro wx hSw; clear hSw; go_simp) <;> with_reducible rfl
      simp only [Act.put, List.setIfInBounds_toArray, List.set_cons_zero, List.set_cons_succ]
      refine takeH_at 2 13 (v := ?_) rfl rfl (by kernel_rfl) (by kernel_rfl) (by kernel_rfl) (fun _ _ _ h => h) (Or.inl ⟨by rfl, ?_⟩) (by assumption) ?_
      rotate_left
      · (intro wx hSw; clear hSw; go_simp) <;> with_reducible rfl
      simp only [Act.put, List.setIfInBounds_toArray, List.set_cons_zero, List.set_cons_succ]
      refine takeH_at 3 14 (v := ?_) rfl rfl (by kernel_rfl) (by kernel_rfl) (by kernel_rfl) (fun _ _ _ h => h) (Or.inl ⟨by rfl, ?_⟩) (by assumption) ?_
      rotate_left
      · (intro wx hSw; clear hSw; go_simp) <;> with_reducible rfl
      simp only [Act.put, List.setIfInBounds_toArray, List.set_cons_zero, List.set_cons_succ]
      refine takeH_at 4 15 (v := ?_) rfl rfl (by kernel_rfl) (by kernel_rfl) (by kernel_rfl) (fun _ _ _ h => h) (Or.inl ⟨by rfl, ?_⟩) (by assumption) ?_
      rotate_left
      · (intro wx hSw; clear hSw; go_simp) <;> with_reducible rfl
      simp only [Act.put, List.setIfInBounds_toArray, List.set_cons_zero, List.set_cons_succ]
      refine takeH_at 5 16 (v := .agg (bcells x.1.1).toArray) rfl rfl (by kernel_rfl) (by kernel_rfl) (by kernel_rfl) (fun _ _ _ h => h) (yieldsIf_loadP (by rfl) 24 (.tmp 15) rfl ⟨g, off + k * 22, none⟩ rfl _ (fun w hw => HID.out w hw)) (by assumption) ?_
      simp only [Act.put, List.setIfInBounds_toArray, List.set_cons_zero, List.set_cons_succ]
      refine takeH_at 6 17 (v := ?_) rfl rfl (by kernel_rfl) (by kernel_rfl) (by kernel_rfl) (fun _ _ _ h => h) (Or.inl ⟨by rfl, ?_⟩) (by assumption) ?_
      rotate_left
      · (intro wx hSw; clear hSw; go_simp) <;> with_reducible rfl
      simp only [Act.put, List.setIfInBounds_toArray, List.set_cons_zero, List.set_cons_succ]
      refine takeH_at 7 18 (v := ?_) rfl rfl (by kernel_rfl) (by kernel_rfl) (by kernel_rfl) (fun _ _ _ h => h) (Or.inl ⟨by rfl, ?_⟩) (by assumption) ?_
      rotate_left
      · (intro wx hSw; clear hSw; go_simp) <;> with_reducible rfl
      simp only [Act.put, List.setIfInBounds_toArray, List.set_cons_zero, List.set_cons_succ]
      refine takeH_at 8 19 (v := ?_) rfl rfl (by kernel_rfl) (by kernel_rfl) (by kernel_rfl) (fun _ _ _ h => h) (Or.inl ⟨by rfl, ?_⟩) (by assumption) ?_
      rotate_left
      · (intro wx hSw; clear hSw; go_simp) <;> with_reducible rfl
      simp only [Act.put, List.setIfInBounds_toArray, List.set_cons_zero, List.set_cons_succ]
      refine takeH_at 9 20 (v := ?_) rfl rfl (by kernel_rfl) (by kernel_rfl) (by kernel_rfl) (fun _ _ _ h => h) (Or.inl ⟨by rfl, ?_⟩) (by assumption) ?_
      rotate_left
      · (intro wx hSw; clear hSw; go_simp) <;> with_reducible rfl
      simp only [Act.put, List.setIfInBounds_toArray, List.set_cons_zero, List.set_cons_succ]
      refine takeH_at 10 21 (v := ?_) rfl rfl (by kernel_rfl) (by kernel_rfl) (by kernel_rfl) (fun _ _ _ h => h) (Or.inl ⟨by rfl, ?_⟩) (by assumption) ?_
      rotate_left
      · (intro wx hSw; clear hSw; go_simp) <;> with_reducible rfl
      simp only [Act.put, List.setIfInBounds_toArray, List.set_cons_zero, List.set_cons_succ]
      refine takeH_at 11 22 (v := .int .u32 (x.1.2.1 : Int)) rfl rfl (by kernel_rfl) (by kernel_rfl) (by kernel_rfl) (fun _ _ _ h => h) (Or.inl ⟨by rfl, fun wx hSw => ?_⟩) (by assumption) ?_
      · have q := HHO.out wx hSw
        clear hSw
        go_simp
      simp only [Act.put, List.setIfInBounds_toArray, List.set_cons_zero, List.set_cons_succ]
      refine takeH_at 12 23 (v := ?_) rfl rfl (by kernel_rfl) (by kernel_rfl) (by kernel_rfl) (fun _ _ _ h => h) (Or.inl ⟨by rfl, ?_⟩) (by assumption) ?_
      rotate_left
      · (intro wx hSw; clear hSw; go_simp) <;> with_reducible rfl
      simp only [Act.put, List.setIfInBounds_toArray, List.set_cons_zero, List.set_cons_succ]
      refine takeH_at 13 24 (v := ?_) rfl rfl (by kernel_rfl) (by kernel_rfl) (by kernel_rfl) (fun _ _ _ h => h) (Or.inl ⟨by rfl, ?_⟩) (by assumption) ?_
      rotate_left
      · (intro wx hSw; clear hSw; go_simp) <;> with_reducible rfl
      simp only [Act.put, List.setIfInBounds_toArray, List.set_cons_zero, List.set_cons_succ]
      refine takeH_at 14 25 (v := ?_) rfl rfl (by kernel_rfl) (by kernel_rfl) (by kernel_rfl) (fun _ _ _ h => h) (Or.inl ⟨by rfl, ?_⟩) (by assumption) ?_
      rotate_left
      · (intro wx hSw; clear hSw; go_simp) <;> with_reducible rfl
      simp only [Act.put, List.setIfInBounds_toArray, List.set_cons_zero, List.set_cons_succ]
      refine takeH_at 15 26 (v := ?_) rfl rfl (by kernel_rfl) (by kernel_rfl) (by kernel_rfl) (fun _ _ _ h => h) (Or.inl ⟨by rfl, ?_⟩) (by assumption) ?_
      rotate_left
      · (intro wx hSw; clear hSw; go_simp) <;> with_reducible rfl
      simp only [Act.put, List.setIfInBounds_toArray, List.set_cons_zero, List.set_cons_succ]
      refine takeH_at 16 27 (v := ?_) rfl rfl (by kernel_rfl) (by kernel_rfl) (by kernel_rfl) (fun _ _ _ h => h) (Or.inl ⟨by rfl, ?_⟩) (by assumption) ?_
      rotate_left
      · (intro wx hSw; clear hSw; go_simp) <;> with_reducible rfl
      simp only [Act.put, List.setIfInBounds_toArray, List.set_cons_zero, List.set_cons_succ]
      refine takeH_at 17 28 (v := .int .u16 (x.1.2.2 : Int)) rfl rfl (by kernel_rfl) (by kernel_rfl) (by kernel_rfl) (fun _ _ _ h => h) (Or.inl ⟨by rfl, fun wx hSw => ?_⟩) (by assumption) ?_
      · have q := HPO.out wx hSw
        clear hSw
        go_simp
      simp only [Act.put, List.setIfInBounds_toArray, List.set_cons_zero, List.set_cons_succ]
      refine takeH_at 18 29 (v := .agg #[.int .u32 (x.1.2.1 : Int), .int .u16 (x.1.2.2 : Int)]) rfl rfl (by kernel_rfl) (by kernel_rfl) (by kernel_rfl) (fun _ _ _ h => h) (yieldsIf_buildP (by rfl) 88 _ rfl #[(0, .int .u32 (x.1.2.1 : Int)), (1, .int .u16 (x.1.2.2 : Int))] (by simp only [List.map_toArray, List.map_cons, List.map_nil]; rfl) _ (fun w => run_buildA88 _ _ w)) (by assumption) ?_
      simp only [Act.put, List.setIfInBounds_toArray, List.set_cons_zero, List.set_cons_succ]
      refine takeH_at 19 30 (v := .agg (encC x).toArray) rfl rfl (by kernel_rfl) (by kernel_rfl) (by kernel_rfl) (fun _ _ _ h => h) (yieldsIf_buildP (by rfl) 90 _ rfl #[(0, .agg (bcells x.1.1).toArray), (1, .agg #[.int .u32 (x.1.2.1 : Int), .int .u16 (x.1.2.2 : Int)])] (by simp only [List.map_toArray, List.map_cons, List.map_nil]; rfl) _ (fun w => run_buildC90 x w)) (by assumption) ?_
      simp only [Act.put, List.setIfInBounds_toArray, List.set_cons_zero, List.set_cons_succ]
      refine takeH_at 0 11 (v := ?_) rfl rfl (by kernel_rfl) (by kernel_rfl) (by kernel_rfl) (fun _ _ _ h => h) (Or.inl ⟨by rfl, ?_⟩) (by assumption) ?_
      rotate_left
      · (intro wx hSw; clear hSw; go_simp) <;> with_reducible rfl
      simp only [Act.put, List.setIfInBounds_toArray, List.set_cons_zero, List.set_cons_succ]
      refine wpAnyH_ready (rs := [20]) (by kernel_rfl) (by simp) (AllReadyH.cons rfl (fun K hK => ?_) AllReadyH.nil)
      refine step_wp (by rfl) ?_
      refine wp_build_oneC conR x (.tmp 30) rfl rfl ?_
      have hb4 : Below w.heap.size w (wr.drew.alloc (.cells (encC x).toArray 90)) := hS0.alloc hS0.size _
      have hw4 : Below wr.heap.size wr (wr.drew.alloc (.cells (encC x).toArray 90)) := ((Below.refl _ wr).drew).alloc (Nat.le_refl _) _
      have HO4 : Hid ((wr.drew.alloc (.cells (encC x).toArray 90)).ownsRow w.heap.size 90 22 _ (L.take k).length (flatE encC (L.take k))) := Lib.hid (by
        rw [HLK.out]
        exact HO.out.kept (grown_of_bel hw4 none) (Classical.em _))
      refine hK.out _ _ hb4 (fun _ => ?_)
      clear hK K
      simp only [Act.put, List.setIfInBounds_toArray, List.set_cons_zero, List.set_cons_succ]
      refine wpAnyH_ready (rs := [21]) (by kernel_rfl) (by simp) (AllReadyH.cons rfl (fun K hK => ?_) AllReadyH.nil)
      refine step_wp (by rfl) ?_
      refine wp_append_con conR (.tmp 11) (.tmp 31) rfl w.heap.size _ (L.take k) [x] rfl HO4.out _ rfl (src_newC conR x _) (by rw [HLK.out]; simp; omega) hb4.size ?_
      intro v5 w5 ho5 hg5
      have hb5 := below_ownB hb4 hb4.size hg5 (fun q hq => (HO4.out.lt q hq).1)
      rw [← HT.out, HLK1.out] at ho5
      refine hK.out _ _ hb5 (fun _ => ?_)
      clear hK K
      simp only [Act.put, List.setIfInBounds_toArray, List.set_cons_zero, List.set_cons_succ]
      refine takeH_at 22 3 (v := ?_) rfl rfl (by kernel_rfl) (by kernel_rfl) (by kernel_rfl) (fun _ _ _ h => h) (Or.inl ⟨by rfl, ?_⟩) (by assumption) ?_
      rotate_left
      · (intro wx hSw; clear hSw; go_simp) <;> with_reducible rfl
      simp only [Act.put, List.setIfInBounds_toArray, List.set_cons_zero, List.set_cons_succ]
      refine wpAnyH_done (by kernel_rfl) ?_ _
      refine NoPanic.normal ?_
      have HREL : Hid (∃ k' : Nat, Value.int .i64 ((k : Int) + 1) = .int .i64 (k' : Int) ∧ k' ≤ n ∧ w5.ownsRow w.heap.size 90 22 v5 k' (flatE encC (L.take k')) ∧ Below w.heap.size w w5) := Lib.hid ⟨k + 1, by go_num, by omega, ho5, hb5⟩
      clear hHeld hb4 hw4 hb5 ho5 hg5 hS0 HO HO4 HID HHO HPO
      go_wp2
      go_roundw
      case rel => exact HREL.out
      case measure => simp [RowKit.intOf]; omega
    · obtain rfl : k = n := by omega
      have hlt' : ¬ (k : Int) < (k : Int) := by omega
      have HO := Lib.hid ho
      have HB := Lib.hid hbr
      rw [HALL.out] at HO
      clear ho hbr
      go_wp2
      go_ret
      exact ⟨_, rfl, HO.out, HB.out⟩
theorem back_some (g off c n : Nat) (L : List Con) (w : World) (hn : L.length = n) (hL : n ≤ 10000) (hg : g < w.heap.size) (hr : w.rangeAt g off (flatE encC L)) : Calls Tryz.prog 45 #[.slice (some ⟨g, off, none⟩) n c] w fun e w' => ∃ v, e = .returned v ∧ w'.ownsRow w.heap.size 63 22 v n (flatE encC L) ∧ Below w.heap.size w w' := by
  have HC : Hid (∀ k, k < n → ∀ W, Below w.heap.size w W → (loadVar 87 ⟨g, off + k * 22, none⟩).run Tryz.prog W = .ok (.agg (bcells L[k]!.1.1).toArray) W ∧ W.cell? ⟨g, off + k * 22 + 20, none⟩ = some (.int .u32 (L[k]!.1.2.1 : Int)) ∧ W.cell? ⟨g, off + k * 22 + 21, none⟩ = some (.int .u16 (L[k]!.1.2.2 : Int))) := Lib.hid (fun k hk W hW => by
    have hc := cell_con hr hg hW (k := k) (by omega)
    refine ⟨?_, hc 20 _ (enc_host _), hc 21 _ (enc_port _)⟩
    exact run_loadVar_mid W g (off + k * 22) 87 (bcells L[k]!.1.1) _ (range_frontI (show W.rangeAt g (off + k * 22) (bcells L[k]!.1.1 ++ _) from hc)) Tryz.underlying87 rfl (by rw [bcells_length, L[k]!.2.id]; kernel_rfl))
  have HTK : Hid (∀ k, k < n → L.take (k + 1) = L.take k ++ [L[k]!]) := Lib.hid (fun k hk => by
    rw [List.take_add_one, List.getElem?_eq_getElem (by omega), getElem!_pos L k (by omega)]; rfl)
  have HLN : Hid (∀ k, k ≤ n → (L.take k).length = k) := Lib.hid (fun k hk => by rw [List.length_take]; omega)
  have HALL : Hid (L.take n = L) := Lib.hid (by rw [← hn, List.take_length])
  have R0 : Hid (∃ k : Nat, Value.int .i64 0 = .int .i64 (k : Int) ∧ k ≤ n ∧ w.ownsRow w.heap.size 63 22 (.slice none 0 0) k (flatE encC (L.take k)) ∧ Below w.heap.size w w) := Lib.hid ⟨0, rfl, by omega, World.ownsRow_nil w _ 63 22, Below.refl _ _⟩
  clear hr
  go_enter Tryz.func45, Tryz.ntmps45
  go_wp2
  go_loopw [3, 4] (fun s i wr => ∃ k : Nat, i = .int .i64 (k : Int) ∧ k ≤ n ∧ wr.ownsRow w.heap.size 63 22 s k (flatE encC (L.take k)) ∧ Below w.heap.size w wr) (fun _ i _ => n - (RowKit.intOf i).toNat)
  case atStart => exact R0.out
  case round =>
    obtain ⟨k, rfl, hk, ho, hbr⟩ := hrel
    clear R0
    by_cases hlt : k < n
    · have hlt' : (k : Int) < (n : Int) := by omega
      have HBR := Lib.hid hbr
      have HID : Hid (∀ W, Below w.heap.size w W → (loadVar 87 ⟨g, off + k * 22, none⟩).run Tryz.prog W = .ok (.agg (bcells L[k]!.1.1).toArray) W) := Lib.hid (fun W hW => (HC.out k hlt W hW).1)
      have HHO : Hid (∀ W, Below w.heap.size w W → W.cell? ⟨g, off + k * 22 + 20, none⟩ = some (.int .u32 (L[k]!.1.2.1 : Int))) := Lib.hid (fun W hW => (HC.out k hlt W hW).2.1)
      have HPO : Hid (∀ W, Below w.heap.size w W → W.cell? ⟨g, off + k * 22 + 21, none⟩ = some (.int .u16 (L[k]!.1.2.2 : Int))) := Lib.hid (fun W hW => (HC.out k hlt W hW).2.2)
      obtain ⟨x, hx⟩ : ∃ x : Con, x = L[k]! := ⟨_, rfl⟩
      have HX := Lib.hid hx
      have HT := Lib.hid (HTK.out k hlt)
      have HLK := Lib.hid (HLN.out k hk)
      have HLK1 := Lib.hid (HLN.out (k + 1) (by omega))
      rw [← hx] at HID HHO HPO HT
      clear hx HC HTK HALL hbr
      have HO := Lib.hid ho
      clear ho
      go_upto_region 5 with fail
      refine wp_region_noPanic ?_
      have hS0 : Below w.heap.size w wr.drew := HBR.out.drew
      refine wp_region_held_drew (S := fun w' => Below w.heap.size w w') (by kernel_rfl) hS0 (fun hHeld => ?_)
      refine takeH_at 1 12 (v := ?_) rfl rfl (by kernel_rfl) (by kernel_rfl) (by kernel_rfl) (fun _ _ _ h => h) (Or.inl ⟨by rfl, ?_⟩) (by assumption) ?_
      rotate_left
      · (intro wx hSw; clear hSw; go_simp) <;> with_reducible rfl
      simp only [Act.put, List.setIfInBounds_toArray, List.set_cons_zero, List.set_cons_succ]
      refine takeH_at 2 13 (v := ?_) rfl rfl (by kernel_rfl) (by kernel_rfl) (by kernel_rfl) (fun _ _ _ h => h) (Or.inl ⟨by rfl, ?_⟩) (by assumption) ?_
      rotate_left
      · (intro wx hSw; clear hSw; go_simp) <;> with_reducible rfl
      simp only [Act.put, List.setIfInBounds_toArray, List.set_cons_zero, List.set_cons_succ]
      refine takeH_at 3 14 (v := ?_) rfl rfl (by kernel_rfl) (by kernel_rfl) (by kernel_rfl) (fun _ _ _ h => h) (Or.inl ⟨by rfl, ?_⟩) (by assumption) ?_
      rotate_left
      · (intro wx hSw; clear hSw; go_simp) <;> with_reducible rfl
      simp only [Act.put, List.setIfInBounds_toArray, List.set_cons_zero, List.set_cons_succ]
      refine takeH_at 4 15 (v := ?_) rfl rfl (by kernel_rfl) (by kernel_rfl) (by kernel_rfl) (fun _ _ _ h => h) (Or.inl ⟨by rfl, ?_⟩) (by assumption) ?_
      rotate_left
      · (intro wx hSw; clear hSw; go_simp) <;> with_reducible rfl
      simp only [Act.put, List.setIfInBounds_toArray, List.set_cons_zero, List.set_cons_succ]
      refine takeH_at 5 16 (v := .agg (bcells x.1.1).toArray) rfl rfl (by kernel_rfl) (by kernel_rfl) (by kernel_rfl) (fun _ _ _ h => h) (yieldsIf_loadP (by rfl) 87 (.tmp 15) rfl ⟨g, off + k * 22, none⟩ rfl _ (fun w hw => HID.out w hw)) (by assumption) ?_
      simp only [Act.put, List.setIfInBounds_toArray, List.set_cons_zero, List.set_cons_succ]
      refine takeH_at 6 17 (v := ?_) rfl rfl (by kernel_rfl) (by kernel_rfl) (by kernel_rfl) (fun _ _ _ h => h) (Or.inl ⟨by rfl, ?_⟩) (by assumption) ?_
      rotate_left
      · (intro wx hSw; clear hSw; go_simp) <;> with_reducible rfl
      simp only [Act.put, List.setIfInBounds_toArray, List.set_cons_zero, List.set_cons_succ]
      refine takeH_at 7 18 (v := ?_) rfl rfl (by kernel_rfl) (by kernel_rfl) (by kernel_rfl) (fun _ _ _ h => h) (Or.inl ⟨by rfl, ?_⟩) (by assumption) ?_
      rotate_left
      · (intro wx hSw; clear hSw; go_simp) <;> with_reducible rfl
      simp only [Act.put, List.setIfInBounds_toArray, List.set_cons_zero, List.set_cons_succ]
      refine takeH_at 8 19 (v := ?_) rfl rfl (by kernel_rfl) (by kernel_rfl) (by kernel_rfl) (fun _ _ _ h => h) (Or.inl ⟨by rfl, ?_⟩) (by assumption) ?_
      rotate_left
      · (intro wx hSw; clear hSw; go_simp) <;> with_reducible rfl
      simp only [Act.put, List.setIfInBounds_toArray, List.set_cons_zero, List.set_cons_succ]
      refine takeH_at 9 20 (v := ?_) rfl rfl (by kernel_rfl) (by kernel_rfl) (by kernel_rfl) (fun _ _ _ h => h) (Or.inl ⟨by rfl, ?_⟩) (by assumption) ?_
      rotate_left
      · (intro wx hSw; clear hSw; go_simp) <;> with_reducible rfl
      simp only [Act.put, List.setIfInBounds_toArray, List.set_cons_zero, List.set_cons_succ]
      refine takeH_at 10 21 (v := ?_) rfl rfl (by kernel_rfl) (by kernel_rfl) (by kernel_rfl) (fun _ _ _ h => h) (Or.inl ⟨by rfl, ?_⟩) (by assumption) ?_
      rotate_left
      · (intro wx hSw; clear hSw; go_simp) <;> with_reducible rfl
      simp only [Act.put, List.setIfInBounds_toArray, List.set_cons_zero, List.set_cons_succ]
      refine takeH_at 11 22 (v := .int .u32 (x.1.2.1 : Int)) rfl rfl (by kernel_rfl) (by kernel_rfl) (by kernel_rfl) (fun _ _ _ h => h) (Or.inl ⟨by rfl, fun wx hSw => ?_⟩) (by assumption) ?_
      · have q := HHO.out wx hSw
        clear hSw
        go_simp
      simp only [Act.put, List.setIfInBounds_toArray, List.set_cons_zero, List.set_cons_succ]
      refine takeH_at 12 23 (v := ?_) rfl rfl (by kernel_rfl) (by kernel_rfl) (by kernel_rfl) (fun _ _ _ h => h) (Or.inl ⟨by rfl, ?_⟩) (by assumption) ?_
      rotate_left
      · (intro wx hSw; clear hSw; go_simp) <;> with_reducible rfl
      simp only [Act.put, List.setIfInBounds_toArray, List.set_cons_zero, List.set_cons_succ]
      refine takeH_at 13 24 (v := ?_) rfl rfl (by kernel_rfl) (by kernel_rfl) (by kernel_rfl) (fun _ _ _ h => h) (Or.inl ⟨by rfl, ?_⟩) (by assumption) ?_
      rotate_left
      · (intro wx hSw; clear hSw; go_simp) <;> with_reducible rfl
      simp only [Act.put, List.setIfInBounds_toArray, List.set_cons_zero, List.set_cons_succ]
      refine takeH_at 14 25 (v := ?_) rfl rfl (by kernel_rfl) (by kernel_rfl) (by kernel_rfl) (fun _ _ _ h => h) (Or.inl ⟨by rfl, ?_⟩) (by assumption) ?_
      rotate_left
      · (intro wx hSw; clear hSw; go_simp) <;> with_reducible rfl
      simp only [Act.put, List.setIfInBounds_toArray, List.set_cons_zero, List.set_cons_succ]
      refine takeH_at 15 26 (v := ?_) rfl rfl (by kernel_rfl) (by kernel_rfl) (by kernel_rfl) (fun _ _ _ h => h) (Or.inl ⟨by rfl, ?_⟩) (by assumption) ?_
      rotate_left
      · (intro wx hSw; clear hSw; go_simp) <;> with_reducible rfl
      simp only [Act.put, List.setIfInBounds_toArray, List.set_cons_zero, List.set_cons_succ]
      refine takeH_at 16 27 (v := ?_) rfl rfl (by kernel_rfl) (by kernel_rfl) (by kernel_rfl) (fun _ _ _ h => h) (Or.inl ⟨by rfl, ?_⟩) (by assumption) ?_
      rotate_left
      · (intro wx hSw; clear hSw; go_simp) <;> with_reducible rfl
      simp only [Act.put, List.setIfInBounds_toArray, List.set_cons_zero, List.set_cons_succ]
      refine takeH_at 17 28 (v := .int .u16 (x.1.2.2 : Int)) rfl rfl (by kernel_rfl) (by kernel_rfl) (by kernel_rfl) (fun _ _ _ h => h) (Or.inl ⟨by rfl, fun wx hSw => ?_⟩) (by assumption) ?_
      · have q := HPO.out wx hSw
        clear hSw
        go_simp
      simp only [Act.put, List.setIfInBounds_toArray, List.set_cons_zero, List.set_cons_succ]
      refine takeH_at 18 29 (v := .agg #[.int .u32 (x.1.2.1 : Int), .int .u16 (x.1.2.2 : Int)]) rfl rfl (by kernel_rfl) (by kernel_rfl) (by kernel_rfl) (fun _ _ _ h => h) (yieldsIf_buildP (by rfl) 61 _ rfl #[(0, .int .u32 (x.1.2.1 : Int)), (1, .int .u16 (x.1.2.2 : Int))] (by simp only [List.map_toArray, List.map_cons, List.map_nil]; rfl) _ (fun w => run_buildA61 _ _ w)) (by assumption) ?_
      simp only [Act.put, List.setIfInBounds_toArray, List.set_cons_zero, List.set_cons_succ]
      refine takeH_at 19 30 (v := .agg (encC x).toArray) rfl rfl (by kernel_rfl) (by kernel_rfl) (by kernel_rfl) (fun _ _ _ h => h) (yieldsIf_buildP (by rfl) 63 _ rfl #[(0, .agg (bcells x.1.1).toArray), (1, .agg #[.int .u32 (x.1.2.1 : Int), .int .u16 (x.1.2.2 : Int)])] (by simp only [List.map_toArray, List.map_cons, List.map_nil]; rfl) _ (fun w => run_buildC63 x w)) (by assumption) ?_
      simp only [Act.put, List.setIfInBounds_toArray, List.set_cons_zero, List.set_cons_succ]
      refine takeH_at 0 11 (v := ?_) rfl rfl (by kernel_rfl) (by kernel_rfl) (by kernel_rfl) (fun _ _ _ h => h) (Or.inl ⟨by rfl, ?_⟩) (by assumption) ?_
      rotate_left
      · (intro wx hSw; clear hSw; go_simp) <;> with_reducible rfl
      simp only [Act.put, List.setIfInBounds_toArray, List.set_cons_zero, List.set_cons_succ]
      refine wpAnyH_ready (rs := [20]) (by kernel_rfl) (by simp) (AllReadyH.cons rfl (fun K hK => ?_) AllReadyH.nil)
      refine step_wp (by rfl) ?_
      refine wp_build_oneC conP x (.tmp 30) rfl rfl ?_
      have hb4 : Below w.heap.size w (wr.drew.alloc (.cells (encC x).toArray 63)) := hS0.alloc hS0.size _
      have hw4 : Below wr.heap.size wr (wr.drew.alloc (.cells (encC x).toArray 63)) := ((Below.refl _ wr).drew).alloc (Nat.le_refl _) _
      have HO4 : Hid ((wr.drew.alloc (.cells (encC x).toArray 63)).ownsRow w.heap.size 63 22 _ (L.take k).length (flatE encC (L.take k))) := Lib.hid (by
        rw [HLK.out]
        exact HO.out.kept (grown_of_bel hw4 none) (Classical.em _))
      refine hK.out _ _ hb4 (fun _ => ?_)
      clear hK K
      simp only [Act.put, List.setIfInBounds_toArray, List.set_cons_zero, List.set_cons_succ]
      refine wpAnyH_ready (rs := [21]) (by kernel_rfl) (by simp) (AllReadyH.cons rfl (fun K hK => ?_) AllReadyH.nil)
      refine step_wp (by rfl) ?_
      refine wp_append_con conP (.tmp 11) (.tmp 31) rfl w.heap.size _ (L.take k) [x] rfl HO4.out _ rfl (src_newC conP x _) (by rw [HLK.out]; simp; omega) hb4.size ?_
      intro v5 w5 ho5 hg5
      have hb5 := below_ownB hb4 hb4.size hg5 (fun q hq => (HO4.out.lt q hq).1)
      rw [← HT.out, HLK1.out] at ho5
      refine hK.out _ _ hb5 (fun _ => ?_)
      clear hK K
      simp only [Act.put, List.setIfInBounds_toArray, List.set_cons_zero, List.set_cons_succ]
      refine takeH_at 22 3 (v := ?_) rfl rfl (by kernel_rfl) (by kernel_rfl) (by kernel_rfl) (fun _ _ _ h => h) (Or.inl ⟨by rfl, ?_⟩) (by assumption) ?_
      rotate_left
      · (intro wx hSw; clear hSw; go_simp) <;> with_reducible rfl
      simp only [Act.put, List.setIfInBounds_toArray, List.set_cons_zero, List.set_cons_succ]
      refine wpAnyH_done (by kernel_rfl) ?_ _
      refine NoPanic.normal ?_
      have HREL : Hid (∃ k' : Nat, Value.int .i64 ((k : Int) + 1) = .int .i64 (k' : Int) ∧ k' ≤ n ∧ w5.ownsRow w.heap.size 63 22 v5 k' (flatE encC (L.take k')) ∧ Below w.heap.size w w5) := Lib.hid ⟨k + 1, by go_num, by omega, ho5, hb5⟩
      clear hHeld hb4 hw4 hb5 ho5 hg5 hS0 HO HO4 HID HHO HPO
      go_wp2
      go_roundw
      case rel => exact HREL.out
      case measure => simp [RowKit.intOf]; omega
    · obtain rfl : k = n := by omega
      have hlt' : ¬ (k : Int) < (k : Int) := by omega
      have HO := Lib.hid ho
      have HB := Lib.hid hbr
      rw [HALL.out] at HO
      clear ho hbr
      go_wp2
      go_ret
      exact ⟨_, rfl, HO.out, HB.out⟩
theorem plain_none (A : Option Addr) (c : Nat) (w : World) : Calls Tryz.prog 29 #[.slice A 0 c] w fun e w' => e = .returned (.slice none 0 0) ∧ w' = w := by
  go_enter Tryz.func29, Tryz.ntmps29
  go_wp2
  go_loopg [3, 4] 0 (fun _ v s wr => v = .slice none 0 0 ∧ s = .int .i64 0 ∧ wr = w)
  case atStart => exact ⟨rfl, rfl, rfl⟩
  case round =>
    obtain ⟨rfl, rfl, rfl⟩ := hrel
    go_wp2
    go_ret
    exact ⟨rfl, rfl⟩
theorem plain_any (v : Value) (L : List Con) (w : World) (h : ConV w v L) (hL : L.length ≤ 10000) : Calls Tryz.prog 29 #[v] w fun e w' => ∃ v', e = .returned v' ∧ ConV w' v' L ∧ Below w.heap.size w w' := by
  obtain ⟨A, c, rfl, hA, hA2⟩ := h
  rcases hA with rfl | ⟨g, off, rfl, hg, hr⟩
  · refine (plain_none A c w).mono ?_
    rintro e w' ⟨rfl, rfl⟩
    exact ⟨_, rfl, conV_nil _, Below.refl _ _⟩
  · refine (plain_some g off c L.length L w rfl hL hg hr).mono ?_
    rintro e w' ⟨v', rfl, ho, hb⟩
    obtain ⟨B, k, rfl, hn, hB, hB2⟩ := own_formE ho
    exact ⟨_, rfl, ⟨B, k, rfl, hB, hB2⟩, hb⟩
theorem back_none (A : Option Addr) (c : Nat) (w : World) : Calls Tryz.prog 45 #[.slice A 0 c] w fun e w' => e = .returned (.slice none 0 0) ∧ w' = w := by
  go_enter Tryz.func45, Tryz.ntmps45
  go_wp2
  go_loopg [3, 4] 0 (fun _ v s wr => v = .slice none 0 0 ∧ s = .int .i64 0 ∧ wr = w)
  case atStart => exact ⟨rfl, rfl, rfl⟩
  case round =>
    obtain ⟨rfl, rfl, rfl⟩ := hrel
    go_wp2
    go_ret
    exact ⟨rfl, rfl⟩
end Go.Proofs.YtehgpnnfjgmiiaaGreat
