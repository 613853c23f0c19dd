/- removeFirst of the package timers, keys are texts. Conditions: a table. -/
import Derived.Test.YtkebgcalphajhaaUak
namespace Go.Proofs.Ytkebgcalphajhaa.Str
open Go.RowKit Go.Lib Go.Shelf Go.Proofs.Ytkebgcalphajhaa
set_option maxRecDepth 100000
set_option maxHeartbeats 400000
theorem flatT_drop (L : List (ByteArray × Nat)) : ∀ n, (flatT L).drop (n * 2) = flatT (L.drop n) := by
  induction L with
  | nil => intro n; simp [flatT]
  | cons x L ih =>
    intro n
    cases n with
    | zero => simp
    | succ n =>
      rw [flatT_cons, show (n + 1) * 2 = (n * 2) + 1 + 1 by omega]
      exact ih n
theorem run_clear0 (w : World) (ty : TypeId) (A : Option Addr) (c : Nat) : (Builtin.clear_ #[97] ty #[.slice A 0 c]).run Try.prog w = .ok (.tuple #[]) w := by
  obtain ⟨i0, z, hi, hz, hks, hb, hzk, hz1⟩ := rowTm.info
  cases A <;> simp [Builtin.clear_, run_underlying rowTm.und, zeroValue, typeInfo, hi, hz]
theorem wpList_clear0 {w : World} {ops : Array Oper} {rest : List Oper} {o : Oper} {a : Act} {Q : Exit → Act → World → Prop} (hgd : o.guard = none) (x : Operand)
    (ho : o.op = .call { callee := .builtin .clear, args := #[x], argTypes := #[97] }) (A : Option Addr) (c : Nat) (hx : a.eval x = .slice A 0 c)
    (h : wpList Try.prog ops Q rest (a.put o.dst (.tuple #[])) w) : wpList Try.prog ops Q (o :: rest) a w :=
  wpList_plain hgd fun _ hK => by
    have hrun := run_clear0 w o.type A c
    unfold Oper.wp
    simp [execOp, ho, resolve, invoke, builtin, hx, hrun, Result.andThen]
    exact hK _ _ h
theorem rfirst_zero (g most : Nat) (v : Value) (L : List (ByteArray × Nat)) (w : World) (h : Tab w g most v L) :
    Calls Try.prog 59 #[.pointer (some ⟨g, 0, none⟩), .int .i64 0] w (Moved w g most v L (.tuple #[])) := by
  have H := Lib.hid h
  have q := Obj.c1 h
  have f := Obj.fr h 1
  obtain ⟨A, c, rfl, hn⟩ := (Obj.row h).form
  have HF : Hid (Tab (w.setCell ⟨g, 1, none⟩ (.slice A L.length c)) g most (.slice A L.length c) L ∧ Mov w (w.setCell ⟨g, 1, none⟩ (.slice A L.length c)) g (.slice A L.length c) (.slice A L.length c)) := Lib.hid ⟨Obj.store h (Nat.le_refl _) rfl (Obj.row h) (FreshV.refl _ _), Mov.store (World.grownBy.refl _ _) (FreshV.refl _ _) _ _⟩
  have h1 : (0 : Int) ≤ (L.length : Int) := by omega
  clear h
  generalize L.length = n at *
  go_enter Try.func59, Try.ntmps59
  go_wp2_with (first
    | ((with_reducible refine wpList_clear0 (o := ⟨none, _, _, _, _, _⟩) rfl (.tmp 9) rfl A c ?_ ?_); rfl))
  go_end0
  exact ⟨_, rfl, HF.out⟩
theorem rfirst_some (g most : Nat) (v : Value) (L : List (ByteArray × Nat)) (k : Nat) (w : World) (h : Tab w g most v L) (hk0 : 0 < k) (hk : k ≤ L.length) :
    Calls Try.prog 59 #[.pointer (some ⟨g, 0, none⟩), .int .i64 (k : Int)] w (Moved w g most v (L.drop k) (.tuple #[])) := by
  have H := Lib.hid h
  have q := Obj.c1 h
  have f := Obj.fr h 1
  rcases id (Obj.row h).2 with ⟨_, h0⟩ | ⟨b, off, cap, cur, rfl, hg, hn, hm, hsz, hx⟩
  · omega
  have hne : b ≠ g := fun e => H.out.ne (by rw [e]; rfl)
  have HG := Lib.hid hg
  have HFIT : Hid (off + k * 2 ≤ cur.length) := Lib.hid (by omega)
  have HF : Hid (∀ cs : List Value, cs.length = k * 2 → (w.setRow b (splice cur off cs).toArray).cell? ⟨g, 1, none⟩ = some (.slice (some ⟨b, off, none⟩) L.length cap) ∧ (w.setRow b (splice cur off cs).toArray).frozen? ⟨g, 1, none⟩ = false ∧
      ∀ o, (o = off + k * 2 ∨ (cap = k ∧ o = off)) → Moved w g most (.slice (some ⟨b, off, none⟩) L.length cap) (L.drop k) (.tuple #[]) (.returned (.tuple #[])) ((w.setRow b (splice cur off cs).toArray).setCell ⟨g, 1, none⟩ (.slice (some ⟨b, o, none⟩) (L.length - k) (cap - k)))) := Lib.hid (fun cs hcl => by
    have hgr : w.grownBy (w.setRow b (splice cur off cs).toArray) (some b) := setRow_grown _
    have hbk := hgr.block g (Obj.lt H.out) (fun e => hne (by injection e with e; exact e.symm))
    refine ⟨(World.cell?_of_block (a := ⟨g, 1, none⟩) hbk).trans (Obj.c1 H.out), (World.frozen?_of_block (a := ⟨g, 1, none⟩) hbk).trans (Obj.fr H.out 1), fun o ho => ?_⟩
    have hlen : (flatT (L.drop k)).length = (L.length - k) * 2 := by rw [flatT_length, List.length_drop]
    have hfit : off + cs.length ≤ cur.length := by rw [hcl]; exact HFIT.out
    have hr : RowAt (w.setRow b (splice cur off cs).toArray) 103 2 (.slice (some ⟨b, o, none⟩) (L.length - k) (cap - k)) (L.length - k) (flatT (L.drop k)) := by
      refine ⟨hlen, .inr ⟨b, o, cap - k, _, rfl, setRow_heap w b _ _ 103 _ hg, by omega, by omega, ?_, ?_⟩⟩
      · rw [length_splice _ _ _ hfit]
        rcases ho with rfl | ⟨e1, rfl⟩
        · rw [Nat.sub_mul]; omega
        · omega
      · rcases ho with rfl | ⟨e1, rfl⟩
        · unfold splice
          have e2 : (cur.take off ++ cs).length = off + k * 2 := by rw [List.length_append, List.length_take, hcl]; omega
          rw [← List.append_assoc, List.drop_left' e2, hcl, ← flatT_drop, ← hx, List.drop_take, List.drop_drop, ← Nat.sub_mul]
        · have : L.length - k = 0 := by omega
          rw [this, Nat.zero_mul, List.take_zero]
          exact (List.eq_nil_of_length_eq_zero (by rw [hlen, this])).symm
    have hf : FreshV w (.slice (some ⟨b, off, none⟩) L.length cap) (.slice (some ⟨b, o, none⟩) (L.length - k) (cap - k)) := fun j hj => .inl hj
    refine ⟨_, rfl, ?_, Mov.store hgr hf _ _⟩
    unfold Tab
    rw [List.length_drop]
    exact Obj.store H.out hgr.size hbk hr hf)
  have h1 : (0 : Int) ≤ (k : Int) := by omega
  have h2 : (k : Int) ≤ (L.length : Int) := by omega
  have h3 : (k : Int) ≤ (cap : Int) := by omega
  clear h hg hsz hx
  generalize L.length = n at *
  by_cases hc : cap = k
  · subst hc
    go_enter Try.func59, Try.ntmps59
    go_wp2_with (first
      | ((with_reducible refine wpList_clear rowTm (o := ⟨none, _, _, _, _, _⟩) rfl (.tmp 9) rfl b off cap cap ?_ hk0 cur HG.out HFIT.out ?_); rfl; intro cs hcl; obtain ⟨q1, f1, hfin⟩ := HF.out cs hcl))
    go_end0
    have := hfin off (by simp)
    rw [show n - cap = 0 by omega, Nat.sub_self] at this
    exact this
  · go_enter Try.func59, Try.ntmps59
    go_wp2_with (first
      | ((with_reducible refine wpList_clear rowTm (o := ⟨none, _, _, _, _, _⟩) rfl (.tmp 9) rfl b off k cap ?_ hk0 cur HG.out HFIT.out ?_); rfl; intro cs hcl; obtain ⟨q1, f1, hfin⟩ := HF.out cs hcl))
    go_end0
    exact hfin (off + k * 2) (.inl rfl)
theorem rfirst_any (g most : Nat) (v : Value) (L : List (ByteArray × Nat)) (k : Nat) (w : World) (h : Tab w g most v L) (hk : k ≤ L.length) :
    Calls Try.prog 59 #[.pointer (some ⟨g, 0, none⟩), .int .i64 (k : Int)] w (Moved w g most v (L.drop k) (.tuple #[])) := by
  by_cases h0 : k = 0
  · subst h0
    rw [List.drop_zero]
    exact rfirst_zero g most v L w h
  · exact rfirst_some g most v L k w h (by omega) hk
end Go.Proofs.Ytkebgcalphajhaa.Str
