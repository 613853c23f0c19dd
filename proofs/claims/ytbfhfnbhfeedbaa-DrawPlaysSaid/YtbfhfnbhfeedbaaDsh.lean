/- Add and Clone of draw (the program). Conditions: the bytes are at most 900,000. -/
import Derived.Test.YtbfhfnbhfeedbaaDnx
namespace Go.Proofs.Ytbfhfnbhfeedbaa
set_option maxRecDepth 100000
set_option maxHeartbeats 1000000
open Go.RowKit Go.Lib Go.Great
section
variable {w w' w2 : World} {h : Nat} {go : Option Nat} {xs bs : List UInt8} {p A A2 : Option Addr} {v y : Value} {c c2 : Nat}
theorem bcells_len (L : List UInt8) : (bcells L).length = L.length := by simp [bcells]
theorem bcells_getO (L : List UInt8) (j : Nat) (hj : j < L.length) : (bcells L)[j]? = some (.int .u8 (L[j].toNat : Int)) := by simp [bcells, List.getElem?_map, List.getElem?_eq_getElem hj]
/-- append behind a source's own bytes. -/
theorem append_ownT (o : OwnT w v go xs) (hs : Src Try.prog 1 22 y bs.length (bcells bs) w) (hl : xs.length + bs.length ≤ 900000) (ty : TypeId) :
    ∃ v' w' go', (Builtin.append_ #[22, 22] ty #[v, y]).run Try.prog w = .ok v' w' ∧ OwnT w' v' go' (xs ++ bs) ∧ w.grownBy w' go ∧ (go' = go ∨ ∀ g, go' = some g → w.heap.size ≤ g) := by
  obtain ⟨i0, hi, hz0, hz1, hz2⟩ := info5b
  obtain ⟨hx, ⟨rfl, rfl, rfl⟩ | ⟨g, off, cap, cur, rfl, rfl, hg, hnc, hcm, hcs, hcur⟩⟩ := o
  · obtain ⟨v', w', hrun, h2, h3, _⟩ := run_append_srcK w w.heap.size 22 22 ty 5 i0 _ 1 1 undBs hi hz0 hz1 hz2 rfl (.slice none 0 0) 0 [] (World.ownsRow_nil w _ 5 1) y bs.length (bcells bs) hs (by simp only [maxLen]; omega) (by omega) (Nat.le_refl _)
    rw [Nat.zero_add, List.nil_append] at h2
    obtain ⟨go', ho, hge⟩ := own_tail w.heap.size h2 (by omega)
    exact ⟨v', w', go', hrun, ho, h3, .inr hge⟩
  · by_cases hroom : xs.length + bs.length ≤ cap
    · have hfit : (off + xs.length * i0.size) + (bcells bs).length ≤ cur.size := by rw [bcells_len, hz1]; omega
      have hst := run_storeCells_at Try.prog g (off + xs.length * i0.size) 5 (bcells bs) 0 cur w hg (by simpa using hfit) hs.one
      have hs' : Src Try.prog i0.size 22 y bs.length (bcells bs) w := by rw [hz1]; exact hs
      have hr : (Builtin.append_ #[22, 22] ty #[.slice (some ⟨g, off, none⟩) xs.length cap, y]).run Try.prog w =
          .ok (.slice (some ⟨g, off, none⟩) (xs.length + bs.length) cap) (w.setRow g (cur.toList.take (off + xs.length * i0.size) ++ bcells bs ++ cur.toList.drop (off + xs.length * i0.size + (bcells bs).length)).toArray) := by
        simp only [Nat.add_zero] at hst
        rcases hs.kind with ⟨e', hk⟩ | hk <;> simp [Builtin.append_, run_underlying undBs, run_underlying hk, sizeOf, typeInfo, hi, hs.len, hroom, hs'.cells, Addr.add_lit, hst]
      rw [hz1, Nat.mul_one] at hr hfit
      rw [bcells_len] at hr hfit
      refine ⟨_, _, some g, hr, ⟨by rw [List.length_append]; omega, .inr ⟨g, off, cap, _, by rw [List.length_append], rfl, setRow_heap w g cur _ 5 _ hg, by rw [List.length_append]; exact hroom, hcm, ?_, ?_⟩⟩, ⟨rfl, rfl, rfl, by simp, fun k _ hk => setRow_other w g k _ (fun e => hk (by simp [e]))⟩, .inl rfl⟩
      · simp only [List.size_toArray, List.length_append, List.length_take, List.length_drop, Array.length_toList, bcells_len]
        omega
      · intro j hj
        rw [List.length_append] at hj
        rw [List.getElem?_toArray]
        have ht : (cur.toList.take (off + xs.length)).length = off + xs.length := by rw [List.length_take]; have : cur.toList.length = cur.size := Array.length_toList; omega
        by_cases hjx : j < xs.length
        · rw [List.append_assoc, List.getElem?_append_left (by rw [ht]; omega), List.getElem?_take, if_pos (by omega), Array.getElem?_toList, hcur j hjx]; simp only [List.getElem_append_left hjx]
        · rw [List.append_assoc, List.getElem?_append_right (by rw [ht]; omega), ht, List.getElem?_append_left (by rw [bcells_len]; omega), show off + j - (off + xs.length) = j - xs.length from by omega, bcells_getO bs _ (by omega), List.getElem_append_right (by omega)]
    · have hs' : Src Try.prog i0.size 22 y bs.length (bcells bs) w := by rw [hz1]; exact hs
      have hold : (Builtin.firstCells i0.size xs.length (.slice (some ⟨g, off, none⟩) xs.length cap)).run Try.prog w.drew = .ok (bcells xs).toArray w.drew :=
        run_firstCells_some w.drew i0.size xs.length ⟨g, off, none⟩ xs.length cap (bcells xs) (by rw [hz1, bcells_len, Nat.mul_one]) (fun j u hu => by
          have hj : j < xs.length := by have := (List.getElem?_eq_some_iff.1 hu).1; rwa [bcells_len] at this
          rw [bcells_getO xs j hj] at hu
          injection hu with hu
          subst hu
          rw [Addr.add_mid]
          have hg' : w.drew.heap[g]? = _ := hg
          rw [cell_of_row w.drew g (off + j) _ 5 (0, 0) hg']
          exact hcur j hj)
      have hr := run_append_grow_src (P := Try.prog) w 22 22 ty 5 i0 _ undBs hi hz0 (some ⟨g, off, none⟩) xs.length cap (bcells xs) hold y bs.length (bcells bs) hs' (by omega) (by omega) (growslice_fits (by omega) (by rw [hz2]; omega))
      have hge := grownCap_ge w (xs.length + bs.length) cap 5
      have hcm2 : grownCap w (xs.length + bs.length) cap 5 ≤ maxLen := grownCap_le_maxLen w (xs.length + bs.length) cap 5 (by simp only [maxLen]; omega)
      refine ⟨_, _, some w.heap.size, hr, ⟨by rw [List.length_append]; omega, .inr ⟨w.heap.size, 0, _, _, by rw [List.length_append], rfl, heap_alloc_new w.drew _, by rw [List.length_append]; exact hge, hcm2, ?_, ?_⟩⟩, ⟨rfl, rfl, rfl, by simp, fun k hk _ => Below.heap_alloc w.drew _ k hk⟩, .inr (fun g' e => by injection e with e; omega)⟩
      · simp only [Array.size_append, List.size_toArray, size_zeroCells, List.length_append, bcells_len]
        simp [Value.cells]
        omega
      · intro j hj
        rw [Nat.zero_add, Array.getElem?_append_left (by simp only [List.size_toArray, List.length_append, bcells_len]; rw [List.length_append] at hj; exact hj), List.getElem?_toArray, ← bcells_app, bcells_getO _ j hj]
theorem wpList_append_ownT {ops : Array Oper} {rest : List Oper} {o : Oper} {a : Act} {Q : Exit → Act → World → Prop} (hgd : o.guard = none) (s x : Operand)
    (ho : o.op = .call { callee := .builtin .append, args := #[s, x], argTypes := #[22, 22] })
    (v : Value) (xs : List UInt8) (hs : a.eval s = v) (hown : OwnT w v go xs) (y : Value) (bs : List UInt8) (hx : a.eval x = y) (hr : Src Try.prog 1 22 y bs.length (bcells bs) w) (hl : xs.length + bs.length ≤ 900000)
    (h : ∀ v' w' go', OwnT w' v' go' (xs ++ bs) → w.grownBy w' go → (go' = go ∨ ∀ g, go' = some g → w.heap.size ≤ g) → wpList Try.prog ops Q rest (a.put o.dst v') w') : wpList Try.prog ops Q (o :: rest) a w :=
  wpList_plain hgd fun _ hK => by
    obtain ⟨v', w', go', hrun, h2, h3, h4⟩ := append_ownT hown hr hl o.type
    unfold Oper.wp execOp
    simp only [ho, resolve, invoke, builtin, Sem.run_bind, Sem.run_pure, Result.andThen_ok, List.map_toArray, List.map_cons, List.map_nil, hs, hx, hrun]
    exact hK _ _ (h v' w' go' h2 h3 h4)
theorem OwnT.slice_ (o : OwnT w v go xs) : ∃ A c, v = .slice A xs.length c := by
  obtain ⟨_, ⟨rfl, _, rfl⟩ | ⟨g, off, cap, cur, rfl, _⟩⟩ := o
  · exact ⟨_, _, rfl⟩
  · exact ⟨_, _, rfl⟩
/-- Two blocks may change. -/
def Two (w w' : World) (h : Nat) (go : Option Nat) : Prop := w'.os = w.os ∧ w'.tape = w.tape ∧ w'.output = w.output ∧ w.heap.size ≤ w'.heap.size ∧ ∀ i, i < w.heap.size → i ≠ h → go ≠ some i → w'.heap[i]? = w.heap[i]?
theorem nadd_full (s : DMade w h go xs) (hb : 65536 < xs.length + bs.length) (hb2 : bs.length ≤ 900000) : Calls Try.prog 20 #[.pointer (some ⟨h, 0, none⟩), .slice A2 bs.length c2] w fun e w' => e = .returned (.int .i64 31) ∧ ∃ n, w' = w.drewN n := by
  obtain ⟨k0, ⟨A, c, k1⟩, f⟩ := s.cells
  have hx := (DMade.st s).le
  have HM := Lib.hid (made_cell (h := h) true k0)
  have q : (65536 : Int) - (xs.length : Int) < (bs.length : Int) := by omega
  clear s hb
  generalize bs.length = b at *
  generalize xs.length = l at *
  go_enter Try.func20, Try.ntmps20
  go_wp2_with (go_at_call 58; (with_reducible refine HM.out.mono ?_); rintro e w1 ⟨rfl, rfl⟩)
  first
    | (go_ret; exact ⟨rfl, 0, rfl⟩)
    | (go_quiet (fail); go_wp2; go_ret; exact ⟨rfl, nq, rfl⟩)
theorem nadd_room (s : DMade w h go xs) (hb : xs.length + bs.length ≤ 65536) (hA : BAt w w.heap.size A2 bs) : Calls Try.prog 20 #[.pointer (some ⟨h, 0, none⟩), .slice A2 bs.length c2] w fun e w' => e = .returned (.int .i64 0) ∧ (∃ go', DMade w' h go' (xs ++ bs) ∧ (go' = go ∨ ∀ g, go' = some g → w.heap.size ≤ g)) ∧ Two w w' h go := by
  obtain ⟨k0, _, f⟩ := s.cells
  have hlt := s.lt
  obtain ⟨v, row, o, hne⟩ := s
  obtain ⟨A, c, rfl⟩ := o.slice_
  have k1 := cell_of_row w h 1 _ 51 (0, 0) row
  simp at k1
  have HM := Lib.hid (made_cell (h := h) true k0)
  have q : ¬ (65536 : Int) - (xs.length : Int) < (bs.length : Int) := by omega
  have HO := Lib.hid o
  have HS : Hid (Src Try.prog 1 22 (.slice A2 bs.length c2) bs.length (bcells bs) w) := Lib.hid (hA.srcB c2)
  have HL : Hid (xs.length + bs.length ≤ 900000) := Lib.hid (by omega)
  have hlx : xs.length ≤ 65536 := by omega
  have hlb : bs.length ≤ 65536 := by omega
  have HF : Hid (∀ v' w1 go', OwnT w1 v' go' (xs ++ bs) → w.grownBy w1 go → (go' = go ∨ ∀ g, go' = some g → w.heap.size ≤ g) → w1.cell? ⟨h, 1, none⟩ = some (.slice A xs.length c) ∧ w1.frozen? ⟨h, 1, none⟩ = false ∧ (∃ go', DMade (w1.setCell ⟨h, 1, none⟩ v') h go' (xs ++ bs) ∧ (go' = go ∨ ∀ g, go' = some g → w.heap.size ≤ g)) ∧ Two w (w1.setCell ⟨h, 1, none⟩ v') h go) := by
    refine Lib.hid (fun v' w1 go' o1 g1 hgo => ?_)
    have row1 : w1.heap[h]? = _ := (g1.block h hlt (by intro e; exact hne (by first | exact e | exact e.symm))).trans row
    have k1' := cell_of_row w1 h 1 _ 51 (0, 0) row1
    simp at k1'
    have hne' : go' ≠ some h := by
      rcases hgo with rfl | hgo
      · exact hne
      · intro e; have := hgo h e; omega
    refine ⟨k1', frozen_of_row w1 h 1 _ 51 row1, ⟨go', ⟨v', ?_, o1.keep (fun g e => Below.heap_setCell w1 ⟨h, 1, none⟩ v' g (by rintro rfl; exact hne' e)), hne'⟩, hgo⟩, g1.os, g1.tape, g1.output, by simpa [World.setCell] using g1.size, fun i hi h1 h2 => ?_⟩
    · have := heap_setCell_same w1 h 1 _ 51 v' row1
      simpa using this
    · exact (Below.heap_setCell w1 ⟨h, 1, none⟩ v' i (by rintro rfl; exact h1 rfl)).trans (g1.block i hi (by intro e; exact h2 (by first | exact e | exact e.symm)))
  obtain ⟨lb, hlb'⟩ : ∃ b, b = bs.length := ⟨_, rfl⟩
  obtain ⟨lx, hlx'⟩ : ∃ b, b = xs.length := ⟨_, rfl⟩
  have HS' : Hid (Src Try.prog 1 22 (.slice A2 lb c2) bs.length (bcells bs) w) := by rw [hlb']; exact HS
  have HO' : Hid (OwnT w (.slice A lx c) go xs) := by rw [hlx']; exact HO
  rw [← hlb'] at q hlb ⊢
  rw [← hlx'] at q hlx k1 HF
  clear HS HO row o hne hb hA hlb' hlx'
  go_enter Try.func20, Try.ntmps20
  go_upto_region 5 with (go_at_call 58; (with_reducible refine HM.out.mono ?_); rintro e w1 ⟨rfl, rfl⟩)
  go_wp2_with (refine wpList_append_ownT rfl (.tmp 21) (.tmp 22) rfl _ xs rfl HO'.out _ bs rfl HS'.out HL.out ?_; intro v' w1 go' ho1 hg1 hgo1; refine Hid.out ?_)
  refine Lib.hid ?_
  obtain ⟨A3, c3, rfl⟩ := ho1.slice_
  obtain ⟨j1, j2, j3⟩ := HF.out _ w1 go' ho1 hg1 hgo1
  have HJ := Lib.hid j3
  clear j3 HF ho1 hg1 hgo1 k1 k0 f
  generalize (xs ++ bs).length = l3 at *
  go_wp2
  go_ret
  exact ⟨rfl, HJ.out⟩
theorem OwnT.bat (o : OwnT w (.slice A xs.length c) go xs) : BAt w w.heap.size A xs := by
  obtain ⟨_, ⟨_, _, rfl⟩ | ⟨g, off, cap, cur, e, _, hg, _, _, _, hcur⟩⟩ := o
  · exact .inl rfl
  · injection e with e1 e2 e3
    subst e1
    exact .inr ⟨g, off, rfl, (Array.getElem?_eq_some_iff.1 hg).1, fun j hj => by rw [cell_of_row w g (off + j) _ 5 (0, 0) hg]; exact hcur j hj⟩
theorem nclone_made (s : DMade w h go xs) : Calls Try.prog 22 #[.pointer (some ⟨h, 0, none⟩)] w (NewIs w xs) := by
  obtain ⟨k0, _, f⟩ := s.cells
  obtain ⟨v, row, o, hne⟩ := s
  obtain ⟨A, c, rfl⟩ := o.slice_
  have k1 := cell_of_row w h 1 _ 51 (0, 0) row
  simp at k1
  have HM := Lib.hid (made_cell (h := h) true k0)
  have HN := Lib.hid (new_any c o.bat o.1)
  clear row o hne
  generalize xs.length = l at *
  go_enter Try.func22, Try.ntmps22
  go_wp2_with (first
    | (go_at_call 58; (with_reducible refine HM.out.mono ?_); rintro e w1 ⟨rfl, rfl⟩)
    | (go_at_call 11; (with_reducible refine HN.out.mono ?_); rintro e w2 ⟨h2, go2, rfl, hm2, hh2, hgo2, hb2⟩))
  go_ret
  exact ⟨h2, go2, rfl, hm2, hh2, hgo2, hb2⟩
end
end Go.Proofs.Ytbfhfnbhfeedbaa
