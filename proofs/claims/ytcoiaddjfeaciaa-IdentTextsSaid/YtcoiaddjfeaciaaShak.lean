/- A hash that no call made has nothing: for every text. Every call of a nil hash, and of one that is a plain Hash, answers its zero value. No condition. -/
import Derived.Test.YtcoiaddjfeaciaaShaj
import Derived.LoopTactic
import Derived.Stop.BytesEq
namespace Go.Proofs.Ytcoiaddjfeaciaa
set_option maxRecDepth 100000
open Go.RowKit Go.Great
set_option linter.unusedVariables false
set_option linter.unusedSimpArgs false

/-- A pointer to no hash, or to one that no call made. -/
def NotMade (w : World) (p : Option Addr) : Prop := p = none ∨ ∃ g, p = some ⟨g, 0, none⟩ ∧ w.cell? ⟨g, 0, none⟩ = some (.bool false)

theorem isMade_no (p : Option Addr) (w : World) (h : NotMade w p) : Calls Try.prog 60 #[.pointer p] w fun e w' => e = .returned (.bool false) ∧ w = w' := by
  rcases h with rfl | ⟨g, rfl, hc⟩
  · go_enter Try.func60, Try.ntmps60
    go_wp2
    go_ret
    exact ⟨rfl, rfl⟩
  · go_enter Try.func60, Try.ntmps60
    go_wp2
    go_ret
    exact ⟨rfl, rfl⟩

theorem clone_no (p : Option Addr) (w : World) (h : NotMade w p) : Calls Try.prog 18 #[.pointer p] w fun e w' => e = .returned (.pointer none) ∧ w = w' := by
  go_enter Try.func18, Try.ntmps18
  go_wp2_with (go_at_call 60; refine (isMade_no p w h).mono ?_; rintro e w1 ⟨rfl, rfl⟩)
  go_ret
  exact ⟨rfl, rfl⟩

theorem write_no (p : Option Addr) (w : World) (h : NotMade w p) (A : Option Addr) (n c : Nat) : Calls Try.prog 19 #[.pointer p, .slice A n c] w fun e w' => e = .returned (.int .i64 1) ∧ w = w' := by
  go_enter Try.func19, Try.ntmps19
  go_wp2_with (go_at_call 60; refine (isMade_no p w h).mono ?_; rintro e w1 ⟨rfl, rfl⟩)
  go_ret
  exact ⟨rfl, rfl⟩

theorem len_no (p : Option Addr) (w : World) (h : NotMade w p) : Calls Try.prog 21 #[.pointer p] w fun e w' => e = .returned (.int .u64 0) ∧ w = w' := by
  go_enter Try.func21, Try.ntmps21
  go_wp2_with (go_at_call 60; refine (isMade_no p w h).mono ?_; rintro e w1 ⟨rfl, rfl⟩)
  go_ret
  exact ⟨rfl, rfl⟩

theorem NotMade.alloc {w : World} {p : Option Addr} (h : NotMade w p) (o : Obj) : NotMade (w.alloc o) p := by
  rcases h with rfl | ⟨g, rfl, hc⟩
  · exact .inl rfl
  · refine .inr ⟨g, rfl, ?_⟩
    have hg : g < w.heap.size := by
      rcases Nat.lt_or_ge g w.heap.size with h' | h'
      · exact h'
      · simp [World.cell?, Array.getElem?_eq_none h'] at hc
    rw [((Below.refl w.heap.size w).alloc (Nat.le_refl _) o).cell (p := ⟨g, 0, none⟩) hg]
    exact hc
theorem NotMade.below {w w' : World} {p : Option Addr} (h : NotMade w p) (hb : Below w.heap.size w w') : NotMade w' p := by
  rcases h with rfl | ⟨g, rfl, hc⟩
  · exact .inl rfl
  · refine .inr ⟨g, rfl, ?_⟩
    have hg : g < w.heap.size := by
      rcases Nat.lt_or_ge g w.heap.size with h' | h'
      · exact h'
      · simp [World.cell?, Array.getElem?_eq_none h'] at hc
    rw [hb.cell (p := ⟨g, 0, none⟩) hg]
    exact hc
theorem eq61 (xs ys : List UInt8) (hx : xs.length = 20) (hy : ys.length = 20) (W : World) : (Op.equalIn 10000 26 (.agg (bcells xs).toArray) (.agg (bcells ys).toArray)).run Try.prog W = .ok (xs == ys) W :=
  run_equalIn_bytes W 9998 26 5 20 Try.underlying26 Try.underlying5 (fun w => by
    obtain ⟨i0, hi, hz0, hz1, hz2⟩ := info_parts info5
    simp [sizeOf, typeInfo, hi, hz1]) xs ys hx hy
theorem built61 (W : World) : (Instr.build 26 #[]).run Try.prog W = .ok (.agg (bcells (List.replicate 20 0)).toArray) W := run_build W 26 #[] _ (by kernel_rfl)

set_option maxRecDepth 100000 in
theorem sum_no (p : Option Addr) (w : World) (h : NotMade w p) : Calls Try.prog 20 #[.pointer p] w fun e w' => e = .returned (.agg (bcells (List.replicate 20 0)).toArray) ∧ Below w.heap.size w w' := by
  obtain ⟨Z, hZ⟩ : ∃ Z, Z = bcells (List.replicate 20 0) := ⟨_, rfl⟩
  have hz := fun W => zero61 W
  have hZl : Z.length = 20 := by rw [hZ, bcells_length, List.length_replicate]
  rw [← hZ] at hz
  have H0 := Lib.hid (h.alloc (.cells Z.toArray 26))
  have H1 : Hid ((w.alloc (.cells Z.toArray 26)).heap[w.heap.size]? = some (.cells Z.toArray 26 (0, 0))) := Lib.hid (heap_alloc_new w _)
  have HS1 : Hid ((Try.prog.info? 26).map (·.size) = some Z.length) := Lib.hid (by rw [hZl]; exact size61)
  have HS2 : Hid ((Try.prog.info? 26).map (·.size) = some Z.toArray.size) := Lib.hid (by rw [List.size_toArray, hZl]; exact size61)
  have HS3 : Hid (Z.toArray.all (·.oneCell') = true) := Lib.hid (all_oneCell_toArray (by rw [hZ]; exact bcells_one _))
  rw [← hZ]
  clear hZ hZl h
  go_enter Try.func20, Try.ntmps20
  go_wp2_with (first
    | (go_at_call 60; refine (isMade_no p _ H0.out).mono ?_; rintro e w1 ⟨rfl, rfl⟩)
    | ((with_reducible refine wpList_store_row rfl 26 (.tmp 2) (.tmp 7) rfl w.heap.size Z.toArray ?_ ?_ 26 Z.toArray H1.out HS2.out rfl HS3.out ?_); rfl; rfl))
  refine bodyPost_ret (v := .agg Z.toArray) ?_ rfl ⟨rfl, ?_⟩
  · refine results_cell1 (p := 2) (ty := 26) rfl _ _ w.heap.size 0 Z _ rfl (fun i u hu => ?_) Try.underlying26 rfl HS1.out
    rw [Nat.zero_add, cell_of_row _ _ i _ 26 (0, 0) (setRow_heap _ _ _ _ 26 _ H1.out)]
    simpa using hu
  · exact below_setRow ((Below.refl _ w).alloc (Nat.le_refl _) _) (Nat.le_refl _) _
end Go.Proofs.Ytcoiaddjfeaciaa
