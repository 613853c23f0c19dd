/- remove of the package timers, keys are ints. Conditions: a table. -/
import Derived.Test.YtkebgcalphajhaaTaf
namespace Go.Proofs.Ytkebgcalphajhaa
open Go.RowKit Go.Lib
set_option maxRecDepth 100000
set_option maxHeartbeats 400000
theorem len_mid (P D : List (Int × Nat)) (x : Int × Nat) : (P ++ x :: D).length = P.length + D.length + 1 := by simp; omega
theorem remove_any (g most : Nat) (v : Value) (P D : List (Int × Nat)) (x : Int × Nat) (w : World) (h : Tab w g most v (P ++ x :: D)) (hL : P.length + D.length ≤ 100000) :
    Calls Try.prog 37 #[.pointer (some ⟨g, 0, none⟩), .int .i64 (P.length : Int)] w fun e w' => ∃ v', e = .returned (.tuple #[]) ∧ Tab w' g most v' (P ++ D) ∧ Mov w w' g v v' := by
  have H := Lib.hid h
  have hr := Obj.row h
  rw [len_mid] at hr
  rcases id hr.2 with ⟨_, h0⟩ | ⟨b, off, cap, cur, rfl, hg, hn, hm, hsz, hx⟩
  · omega
  have HD := Lib.hid (del_some b off P.length D.length (P.length + D.length) cap cur P D x w rfl rfl rfl hL hn hm hg hx hsz)
  have q := Obj.c1 h
  have hw : IntKind.i64.wrap ((P.length : Int) + 1) = (P.length : Int) + 1 := by rw [IntKind.wrap_i64]; omega
  have HF : Hid (∀ w1 v1, RowAt w1 82 2 v1 (P.length + D.length) (flatT (P ++ D)) → v1.ownBlock = some b → w.grownBy w1 (some b) → ∃ A c, v1 = .slice A (P.length + D.length) c ∧ w1.cell? ⟨g, 1, none⟩ = some (.slice (some ⟨b, off, none⟩) (P.length + D.length + 1) cap) ∧ w1.frozen? ⟨g, 1, none⟩ = false ∧ Tab (w1.setCell ⟨g, 1, none⟩ v1) g most v1 (P ++ D) ∧ Mov w (w1.setCell ⟨g, 1, none⟩ v1) g (.slice (some ⟨b, off, none⟩) (P.length + D.length + 1) cap) v1) := Lib.hid (fun w1 v1 h1 h2 h3 => by
    have hb := h3.block g (Obj.lt H.out) (fun e => H.out.ne e.symm)
    obtain ⟨A, c, e, _⟩ := h1.form
    have hf : FreshV w (.slice (some ⟨b, off, none⟩) (P.length + D.length + 1) cap) v1 := fun k hk => .inl (by rw [h2] at hk; exact hk)
    refine ⟨A, c, e, (World.cell?_of_block (a := ⟨g, 1, none⟩) hb).trans (Obj.c1 H.out), (World.frozen?_of_block (a := ⟨g, 1, none⟩) hb).trans (Obj.fr H.out 1), ?_, Mov.store h3 hf _ _⟩
    unfold Tab
    rw [List.length_append]
    exact Obj.store H.out h3.size hb h1 hf)
  clear h hr hg hx hsz
  generalize P.length + D.length = n at *
  generalize P.length = p at *
  go_enter Try.func37, Try.ntmps37
  go_wp2_with (first
    | (go_at_call 61; (with_reducible refine HD.out.mono ?_); rintro e w1 ⟨v1, rfl, h1, h2, h3⟩; obtain ⟨A, c, rfl, q1, f1, hfin⟩ := HF.out _ _ h1 h2 h3))
  go_end0
  exact ⟨_, rfl, hfin⟩
theorem plT_no {L : List (Int × Nat)} {k : Int} (h : hasT L k = false) : plT L k = -1 := by unfold plT; rw [if_neg (by rw [h]; simp)]
theorem plT_mid {P D : List (Int × Nat)} {k : Int} {a : Nat} (h : hasT P k = false) : plT (P ++ (k, a) :: D) k = (P.length : Int) := by
  refine plT_at _ _ _ (by rw [len_mid]; omega) (by rw [List.take_left]; exact h) ?_
  rw [getElem!_pos _ _ (by rw [len_mid]; omega), List.getElem_append_right (Nat.le_refl _)]
  simp
/-- What a call leaves that may turn a table. -/
def Moved (w : World) (g most : Nat) (v : Value) (L : List (Int × Nat)) (r : Value) (e : Ending) (w' : World) : Prop := ∃ v', e = .returned r ∧ Tab w' g most v' L ∧ Mov w w' g v v'
end Go.Proofs.Ytkebgcalphajhaa
