/- Push of the package ring. Conditions: the queue is made. -/
import Derived.Test.YtkebgcalphajhaaRab
namespace Go.Proofs.Ytkebgcalphajhaa
open Go.RowKit Go.Lib
set_option maxRecDepth 100000
set_option maxHeartbeats 400000
def Pushed (w : World) (g most : Nat) (v : Value) (L : List Int) (r : Int) (e : Ending) (w' : World) : Prop := ∃ v', e = .returned (.int .i64 r) ∧ Ring w' g most v' L ∧ Mov w w' g v v'
theorem push_full (g most : Nat) (h0 : 0 < most) (hm : most ≤ 65536) (v : Value) (L : List Int) (x : Int) (w : World) (hl : L.length = most) (h : Ring w g most v L) : Calls Try.prog 25 #[.pointer (some ⟨g, 0, none⟩), .int .i64 x] w (Pushed w g most v L 31) := by
  have HM := Lib.hid (rmade_yes g most h0 w (Obj.c0 h))
  have HR : Hid (Calls Try.prog 50 #[.pointer (some ⟨g, 0, none⟩)] w fun e w' => e = .returned (.int .i64 0) ∧ Below w.heap.size w w') := Lib.hid (by
    have := rroom_any g most h0 hm v L w (by omega) h
    rw [hl, Nat.sub_self] at this
    exact this)
  have H := Lib.hid h
  clear h hl
  go_enter Try.func25, Try.ntmps25
  go_wp2_with (first
    | (go_at_call 48; (with_reducible refine HM.out.mono ?_); rintro e w1 ⟨rfl, rfl⟩)
    | (go_at_call 50; (with_reducible refine HR.out.mono ?_); rintro e w2 ⟨rfl, hb2⟩))
  go_ret
  exact ⟨v, rfl, Obj.bel H.out hb2, Mov.of_below g v hb2⟩
theorem push_more (g most : Nat) (h0 : 0 < most) (hm : most ≤ 65536) (v : Value) (L : List Int) (x : Int) (w : World) (hl : L.length < most) (h : Ring w g most v L) : Calls Try.prog 25 #[.pointer (some ⟨g, 0, none⟩), .int .i64 x] w (Pushed w g most v (L ++ [x]) 0) := by
  have HM := Lib.hid (rmade_yes g most h0 w (Obj.c0 h))
  obtain ⟨r, hr⟩ : ∃ r, most - L.length = r + 1 := ⟨most - L.length - 1, by omega⟩
  have HR : Hid (Calls Try.prog 50 #[.pointer (some ⟨g, 0, none⟩)] w fun e w' => e = .returned (.int .i64 ((r : Int) + 1)) ∧ Below w.heap.size w w') := Lib.hid (by
    have := rroom_any g most h0 hm v L w (by omega) h
    rw [hr] at this
    exact this)
  have hr1 : (((r : Int) + 1 : Int) == 0) = false := by rw [beq_eq_false_iff_ne]; omega
  have hr2 : ¬ (r : Int) + 1 = 0 := by omega
  have H := Lib.hid h
  have HL : Hid (L.length + 1 ≤ 100000000) := Lib.hid (by omega)
  clear h hl hr
  go_enter Try.func25, Try.ntmps25
  go_wp2_with (first
    | (go_at_call 48; (with_reducible refine HM.out.mono ?_); rintro e w1 ⟨rfl, rfl⟩)
    | (go_at_call 50; (with_reducible refine HR.out.mono ?_); rintro e w2 ⟨rfl, hb2⟩; have H2 := Lib.hid (Obj.bel H.out hb2); have q2 := Obj.c1 H2.out; have H3 := Lib.hid (Obj.bel H2.out ((Below.refl _ w2).alloc (Nat.le_refl _) (.cells #[.int .i64 x] 3))); have HS := Lib.hid (src_new rowInt w2 1 [.int .i64 x] rfl (fun u hu => by rw [List.mem_singleton.1 hu]; rfl) 3 #[.int .i64 x] rfl))
    | ((with_reducible refine wpList_append_row rowInt (o := ⟨some 18, _, _, _, _, _⟩) rfl (.tmp 15) (.tmp 17) rfl v L.length (intsV L) ?_ (Obj.row H3.out) _ 1 [.int .i64 x] ?_ HS.out HL.out ?_); rfl; rfl; intro v3 w3 hr3 hf3 hg3; obtain ⟨A3, c3, rfl, hn3⟩ := hr3.form; have HB3 := Lib.hid (hg3.block g (Obj.lt H3.out) (fun e => H3.out.ne e.symm)); have q3 := (World.cell?_of_block (a := ⟨g, 1, none⟩) HB3.out).trans (Obj.c1 H3.out); have f3 := (World.frozen?_of_block (a := ⟨g, 1, none⟩) HB3.out).trans (Obj.fr H3.out 1)))
  go_ret
  have e1 : intsV (L ++ [x]) = intsV L ++ [.int .i64 x] := by simp [intsV]
  have hs : (w2.alloc (.cells #[.int .i64 x] 3)).heap.size = w2.heap.size + 1 := by simp
  refine ⟨.slice A3 (L.length + 1) c3, rfl, ?_, ?_⟩
  · unfold Ring
    rw [e1, List.length_append]
    exact Obj.store H3.out hg3.size HB3.out hr3 hf3
  · exact (Mov.of_below g v (hb2.trans (((Below.refl _ w2).alloc (Nat.le_refl _) _).mono hb2.size))).trans (Mov.store hg3 hf3 _ _)
/-- What is there behind a push, and what it answers. -/
def pushL (most : Nat) (L : List Int) (x : Int) : List Int := if L.length < most then L ++ [x] else L
def pushE (most : Nat) (L : List Int) : Int := if L.length < most then 0 else 31
theorem pushL_le {most : Nat} {L : List Int} {x : Int} (h : L.length ≤ most) : (pushL most L x).length ≤ most := by
  unfold pushL
  split
  · rw [List.length_append]
    simpa using by assumption
  · exact h
theorem push_any (g most : Nat) (h0 : 0 < most) (hm : most ≤ 65536) (v : Value) (L : List Int) (x : Int) (w : World) (hl : L.length ≤ most) (h : Ring w g most v L) : Calls Try.prog 25 #[.pointer (some ⟨g, 0, none⟩), .int .i64 x] w (Pushed w g most v (pushL most L x) (pushE most L)) := by
  unfold pushL pushE
  by_cases hc : L.length < most
  · rw [if_pos hc, if_pos hc]
    exact push_more g most h0 hm v L x w hc h
  · rw [if_neg hc, if_neg hc]
    exact push_full g most h0 hm v L x w (by omega) h
end Go.Proofs.Ytkebgcalphajhaa
