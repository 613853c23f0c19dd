/- Contract of Join of package service. Conditions: the three have at most 1,500 bytes. -/
import Derived.Test.YtjiiignbejbiiaaXVcc
namespace Go.Proofs.Ytjiiignbejbiiaa
open Go.Shelf Go.RowKit Go.Lib Go.Great
set_option maxRecDepth 100000
set_option maxHeartbeats 1000000
theorem run_three (a b c : ByteArray) (W : World) : (Instr.buildSlice 25 3 #[(0, .string a), (1, .string b), (2, .string c)]).run Try.prog W = .ok (.slice (some ⟨W.heap.size, 0, none⟩) 3 3) (W.alloc (.cells #[.string a, .string b, .string c] 9)) := by kernel_rfl
theorem wpList_three {ops : Array Oper} {rest : List Oper} {o : Oper} {act : Act} {w : World} {Q : Exit → Act → World → Prop} (hgd : o.guard = none) (d : Nat) (hd : o.dst = some d) (x y z : Operand) (ho : o.op = .buildSlice 25 3 #[(0, x), (1, y), (2, z)]) (a b c : ByteArray)
    (hx : act.eval x = .string a) (hy : act.eval y = .string b) (hz : act.eval z = .string c)
    (h : wpList Try.prog ops Q rest (act.put (some d) (.slice (some ⟨w.heap.size, 0, none⟩) 3 3)) (w.alloc (.cells #[.string a, .string b, .string c] 9))) : wpList Try.prog ops Q (o :: rest) act w :=
  wpList_plain hgd fun _ hK => by
    unfold Oper.wp execOp
    simp only [ho, List.map_toArray, List.map_cons, List.map_nil, hx, hy, hz, Sem.run_bind, run_three, Result.andThen_ok, Sem.run_pure]
    rw [← hd] at h
    exact hK _ _ h
theorem three_at (a b c : List UInt8) (w : World) : SAt (w.alloc (.cells #[.string (bstr a), .string (bstr b), .string (bstr c)] 9)) (w.heap.size + 1) (some ⟨w.heap.size, 0, none⟩) [a, b, c] := by
  refine .inr ⟨w.heap.size, 0, rfl, by omega, fun j hj => ?_⟩
  have h := World.alloc_heap_new w (.cells #[.string (bstr a), .string (bstr b), .string (bstr c)] 9)
  have hc : ∀ k v, #[Value.string (bstr a), .string (bstr b), .string (bstr c)][k]? = some v → (w.alloc (.cells #[.string (bstr a), .string (bstr b), .string (bstr c)] 9)).cell? ⟨w.heap.size, k, none⟩ = some v := fun k v hk => by
    unfold World.cell?
    rw [h]
    exact hk
  match j, hj with
  | 0, _ => exact hc 0 _ rfl
  | 1, _ => exact hc 1 _ rfl
  | 2, _ => exact hc 2 _ rfl
theorem sname3 (a b c : List UInt8) (hl : a.length + b.length + c.length ≤ 1500) (w : World) : Calls Try.prog 47 #[.slice (some ⟨w.heap.size, 0, none⟩) 3 3] (w.alloc (.cells #[.string (bstr (95 :: a)), .string (bstr (95 :: b)), .string (bstr c)] 9)) fun e w' => e = .returned (.string (bstr (rawJ a b c))) ∧ Below w.heap.size w w' := by
  have hb : Below w.heap.size w (w.alloc (.cells #[.string (bstr (95 :: a)), .string (bstr (95 :: b)), .string (bstr c)] 9)) := (Below.refl _ w).alloc (Nat.le_refl _) _
  have h := name_any (some ⟨w.heap.size, 0, none⟩) 3 [95 :: a, 95 :: b, c] (w.alloc (.cells #[.string (bstr (95 :: a)), .string (bstr (95 :: b)), .string (bstr c)] 9)) (by
    have h3 := three_at (95 :: a) (95 :: b) c w
    simpa using h3) (by simp) (by simp [sizeD]; omega)
  refine h.mono ?_
  rintro e w' ⟨rfl, h2⟩
  exact ⟨rfl, hb.trans (h2.mono hb.size)⟩
theorem sjoin_any (a b c : List UInt8) (hl : a.length + b.length + c.length ≤ 1500) (w : World) : Calls Try.prog 36 #[.string (bstr a), .string (bstr b), .string (bstr c)] w fun e w' => e = .returned (tellsC (joinS a b c)) ∧ Below w.heap.size w w' := by
  have HN := Lib.hid (sname3 a b c hl w)
  have HS : Hid (∀ W, Below w.heap.size w W → Calls Try.prog 28 #[.string (bstr (rawJ a b c))] W fun e w' => e = .returned (tellsS (splitS (rawJ a b c))) ∧ Below w.heap.size w w') := Lib.hid (fun W hW => (ssplit_any (rawJ a b c) W).mono (by
    rintro e w' ⟨rfl, h⟩
    exact ⟨rfl, hW.trans (h.mono hW.size)⟩))
  have ha : (⟨#[95]⟩ : ByteArray) ++ bstr a = bstr (95 :: a) := bstr_append [95] a
  have hb : (⟨#[95]⟩ : ByteArray) ++ bstr b = bstr (95 :: b) := bstr_append [95] b
  have sa := bstr_size a
  have sb := bstr_size b
  have s1 : ¬ 9223372036854775807 < 1 + a.length := by omega
  have s2 : ¬ 9223372036854775807 < 1 + b.length := by omega
  obtain ⟨⟨p, q, t, g⟩, hx⟩ : ∃ x, x = splitS (rawJ a b c) := ⟨_, rfl⟩
  have hj : joinS a b c = if ((p, q, t, g) : List UInt8 × List UInt8 × List UInt8 × Int) = (a, b, c, 0) then (rawJ a b c, 0) else ([], 40) := by rw [joinS, hx]
  rw [← hx] at HS
  unfold tellsS at HS
  simp only at HS
  have hlst := bstr_list
  have hE : Hid (¬ (g = 0 ∧ p = a ∧ q = b ∧ t = c) → tellsC (joinS a b c) = .tuple #[.string ⟨#[]⟩, .int .i64 40]) := Lib.hid (fun h => by
    rw [hj, if_neg (fun e => h (by
      injection e with e1 e
      injection e with e2 e
      injection e with e3 e4
      exact ⟨e4, e1, e2, e3⟩))]
    rfl)
  have hT : Hid (g = 0 ∧ p = a ∧ q = b ∧ t = c → tellsC (joinS a b c) = .tuple #[.string (bstr (rawJ a b c)), .int .i64 0]) := Lib.hid (fun ⟨e1, e2, e3, e4⟩ => by
    rw [hj, if_pos (by rw [e1, e2, e3, e4])]
    rfl)
  generalize tellsC (joinS a b c) = V at *
  clear hj hx
  generalize bstr (rawJ a b c) = R at *
  generalize bstr (95 :: a) = A1 at *
  generalize bstr (95 :: b) = B1 at *
  have sc := bstr_size c
  go_enter Try.func36, Try.ntmps36
  go_upto_region 3 with (first
    | ((with_reducible refine wpList_three (o := ⟨some 18, _, _, _, _, _⟩) rfl 18 rfl _ _ _ rfl _ _ _ ?_ ?_ ?_ ?_); rfl; rfl; rfl)
    | (go_at_call 47; (with_reducible refine HN.out.mono ?_); rintro e w1 ⟨rfl, hb1⟩)
    | (go_at_call 28; (with_reducible refine (HS.out _ hb1).mono ?_); rintro e w2 ⟨rfl, hb2⟩))
  clear HN HS ha hb s1 s2
  by_cases hg : g = 0
  · subst hg
    by_cases hp : p = a
    · subst hp
      by_cases hq : q = b
      · subst hq
        by_cases ht : t = c
        · subst ht
          have HV := Lib.hid (hT.out ⟨rfl, rfl, rfl, rfl⟩)
          clear hT hE
          go_wp2
          refine bodyPost_ret (v := .tuple #[.string R, .int .i64 0]) (results_2b (p := 6) (q := 7) rfl _ _ _ _ rfl rfl) rfl ?_
          exact ⟨by rw [HV.out], hb2⟩
        · have HV := Lib.hid (hE.out (fun h => ht h.2.2.2))
          have htb : (t == c) = false := by simpa using ht
          clear ht
          clear hT hE
          go_wp2
          refine bodyPost_ret (v := .tuple #[.string ⟨#[]⟩, .int .i64 40]) (results_2b (p := 6) (q := 7) rfl _ _ _ _ rfl rfl) rfl ?_
          exact ⟨by rw [HV.out], hb2⟩
      · have HV := Lib.hid (hE.out (fun h => hq h.2.2.1))
        clear hT hE
        go_wp2
        refine bodyPost_ret (v := .tuple #[.string ⟨#[]⟩, .int .i64 40]) (results_2b (p := 6) (q := 7) rfl _ _ _ _ rfl rfl) rfl ?_
        exact ⟨by rw [HV.out], hb2⟩
    · have HV := Lib.hid (hE.out (fun h => hp h.2.1))
      clear hT hE
      go_wp2
      refine bodyPost_ret (v := .tuple #[.string ⟨#[]⟩, .int .i64 40]) (results_2b (p := 6) (q := 7) rfl _ _ _ _ rfl rfl) rfl ?_
      exact ⟨by rw [HV.out], hb2⟩
  · have HV := Lib.hid (hE.out (fun h => hg h.1))
    clear hT hE
    go_wp2
    refine bodyPost_ret (v := .tuple #[.string ⟨#[]⟩, .int .i64 40]) (results_2b (p := 6) (q := 7) rfl _ _ _ _ rfl rfl) rfl ?_
    exact ⟨by rw [HV.out], hb2⟩
end Go.Proofs.Ytjiiignbejbiiaa
