/- Due of the package timers, keys are texts. Conditions: a table that is made, in the order of its ticks. -/
import Derived.Test.YtkebgcalphajhaaUam
import Derived.Test.YtkebgcalphajhaaRak
namespace Go.Proofs.Ytkebgcalphajhaa.Str
open Go.RowKit Go.Lib Go.Shelf Go.Proofs.Ytkebgcalphajhaa
set_option maxRecDepth 100000
set_option maxHeartbeats 400000
/-- Behind pre, all of which are due: their keys lie in a row that block b holds; nothing else has turned. -/
def DueI (w4 : World) (b now : Nat) (pre : List (ByteArray × Nat)) (W : World) : Prop := w4.grownBy W (some b) ∧ ∃ vk, Boxed W b 73 vk ∧ RowAt W 9 1 vk pre.length (keysV pre) ∧ (∀ k, vk.ownBlock = some k → w4.heap.size ≤ k) ∧ ∀ t ∈ pre, dueT now t = true
def DueX (w4 : World) (b now : Nat) (pre : List (ByteArray × Nat)) (W : World) : Prop := ∃ pre' x, pre = pre' ++ [x] ∧ dueT now x = false ∧ DueI w4 b now pre' W
theorem RowAt.heapOf {w w' : World} {e k n : Nat} {v : Value} {xs : List Value} {row : Option Nat} (h : RowAt w e k v n xs) (hg : w.grownBy w' row) (hrow : ∀ r, row = some r → ∃ o : Go.Obj, w.heap[r]? = some o ∧ o.isCells = false) : RowAt w' e k v n xs := by
  refine h.grown hg (fun b hb e => ?_)
  rcases h.2 with ⟨rfl, _⟩ | ⟨g', off, cap, cur, rfl, hg', _⟩
  · cases hb
  · have hb : some g' = some b := hb
    injection hb with hb
    obtain ⟨o, ho, hc⟩ := hrow b e.symm
    rw [← hb, hg'] at ho
    cases ho
    cases hc
theorem dueI_own (w4 : World) (b now B : Nat) (hB : w4.heap.size ≤ B) : OwnFrom B (DueI w4 b now) := fun s X Y row h hg hr => by
  obtain ⟨h1, vk, h2, h3, h4, h5⟩ := h
  exact ⟨grownBy_more h1 hg (fun r e => Nat.le_trans hB (hr r e).1), vk, (grownBy_keeps_cells hg (fun r e => (hr r e).2) h2 rfl).trans h2, RowAt.heapOf h3 hg (fun r e => (hr r e).2), h4, h5⟩
theorem dueX_own (w4 : World) (b now B : Nat) (hB : w4.heap.size ≤ B) : OwnFrom B (DueX w4 b now) := fun s X Y row h hg hr => by
  obtain ⟨pre', x, h1, h2, h3⟩ := h
  exact ⟨pre', x, h1, h2, dueI_own w4 b now B hB pre' X Y row h3 hg hr⟩
/-- What Due answers and leaves. -/
def DueIs (w : World) (g most : Nat) (v : Value) (K R : List (ByteArray × Nat)) (e : Ending) (w' : World) : Prop := ∃ v' vk, e = .returned vk ∧ RowAt w' 9 1 vk K.length (keysV K) ∧ Tab w' g most v' R ∧ Mov w w' g v v' ∧ (∀ b, vk.ownBlock = some b → w.heap.size ≤ b)
theorem load39' {w : World} {a : Addr} {v : Value} (h : w.cell? a = some v) : (loadVar 73 a).run Try.prog w = .ok v w := by simp [loadVar, h]
theorem fst_of_take {now : Nat} {O pre : List (ByteArray × Nat)} {x : ByteArray × Nat} (hp : ∀ t ∈ pre, dueT now t = true) (hx : dueT now x = false) (h : pre ++ [x] <+: O) : O.takeWhile (dueT now) = pre ∧ O.dropWhile (dueT now) = O.drop pre.length := by
  obtain ⟨r, rfl⟩ := h
  rw [List.append_assoc, List.takeWhile_append_of_pos hp, List.dropWhile_append_of_pos hp, List.drop_left]
  rw [List.singleton_append, List.takeWhile_cons_of_neg (by rw [hx]; decide), List.dropWhile_cons_of_neg (by rw [hx]; decide), List.append_nil]
  exact ⟨rfl, rfl⟩
theorem all_of_take {now : Nat} {O : List (ByteArray × Nat)} (hp : ∀ t ∈ O, dueT now t = true) : O.takeWhile (dueT now) = O ∧ O.dropWhile (dueT now) = O.drop O.length := by
  have e1 := List.takeWhile_append_of_pos (l₂ := []) hp
  have e2 := List.dropWhile_append_of_pos (l₂ := []) hp
  rw [List.append_nil] at e1 e2
  rw [e1, e2, List.drop_length]
  simp
/-- The end of Due: what comes behind the loop. -/
structure DueK (w w4 : World) (g most now : Nat) (v : Value) (O : List (ByteArray × Nat)) : Prop where
  fin : ∀ W D pre, w4.heap.size ≤ D → DueI w4 (w.heap.size + 1) now pre W → W.heap[D]? = some (.deferred (some [])) → O.takeWhile (dueT now) = pre → O.dropWhile (dueT now) = O.drop pre.length →
    ∃ Ak ck, W.cell? ⟨w.heap.size + 1, 0, none⟩ = some (.slice Ak pre.length ck) ∧ Calls Try.prog 59 #[.pointer (some ⟨g, 0, none⟩), .int .i64 (pre.length : Int)] W fun e w5 => e = .returned (.tuple #[]) ∧ w5.cell? ⟨w.heap.size + 1, 0, none⟩ = some (.slice Ak pre.length ck) ∧ w5.heap[D]? = some (.deferred (some [])) ∧ DueIs w g most v (O.takeWhile (dueT now)) (O.dropWhile (dueT now)) (.returned (.slice Ak pre.length ck)) (w5.putObj D (.deferred none))
theorem dueK (w w4 : World) (g most now : Nat) (v : Value) (O : List (ByteArray × Nat)) (h : Tab w g most v O) (hb : Below w.heap.size w w4) (hs : w.heap.size + 3 ≤ w4.heap.size) : DueK w w4 g most now v O := ⟨fun W D pre hD hI hK e1 e2 => by
  obtain ⟨hg, vk, hx, hr, hv, hd⟩ := hI
  have hbW : Below w.heap.size w W := hb.grown hg hb.size (fun k hk => by cases hk; omega)
  have hT := Obj.bel h hbW
  obtain ⟨Ak, ck, rfl, hnk⟩ := hr.form
  refine ⟨Ak, ck, hx.cell, ?_⟩
  have hle : pre.length ≤ O.length := by rw [← e1]; exact (List.takeWhile_prefix _).length_le
  refine (rfirst_any g most v O pre.length W hT hle).mono ?_
  rintro e w5 ⟨v5, rfl, hT5, hm5⟩
  have hlt := hx.lt
  have hgl := Obj.lt h
  have hvl : ∀ b, v.ownBlock = some b → b < w.heap.size := (Obj.row h).lt
  have hx5 : w5.heap[w.heap.size + 1]? = some (.cells #[.slice Ak pre.length ck] 73 (0, 0)) := (hm5.block _ hlt (by omega) (fun e => by have := hvl _ e.symm; omega)).trans hx
  have hK5 : w5.heap[D]? = some (.deferred (some [])) := (hm5.block D (Array.getElem?_eq_some_iff.1 hK).1 (by omega) (fun e => by have := hvl _ e.symm; omega)).trans hK
  have hr5 : RowAt w5 9 1 (.slice Ak pre.length ck) pre.length (keysV pre) := hr.same (fun b hb' => hm5.block b (hr.lt b hb') (by have := hv b hb'; omega) (fun e => by have := hv b hb'; have := hvl _ e.symm; omega))
  refine ⟨rfl, Boxed.cell hx5, hK5, v5, .slice Ak pre.length ck, rfl, ?_, ?_, ?_, fun b hb' => Nat.le_trans (by omega) (hv b hb')⟩
  · rw [e1]
    exact RowAt.heapOf hr5 (grownBy_putObj' w5 D _) (fun r e => by cases e; exact ⟨_, hK5, rfl⟩)
  · rw [e2]
    exact Obj.heapOf hT5 (grownBy_putObj' w5 D _) (fun r e => by cases e; exact ⟨_, hK5, rfl⟩)
  · have hm := (Mov.of_below g v hbW).trans hm5
    exact ⟨hm.os, hm.tape, hm.output, Nat.le_trans hm.size (by simp [World.putObj]), fun k hk h1 h2 => (World.putObj_heap_other (by omega)).trans (hm.block k hk h1 h2), hm.fresh⟩⟩
theorem due_step (w4 W w6 : World) (b now : Nat) (S : Nat → Prop) (pre : List (ByteArray × Nat)) (x : ByteArray × Nat) (vk v6 : Value) (hI : DueI w4 b now pre W) (hx : Boxed W b 73 vk) (hr : RowAt W 9 1 vk pre.length (keysV pre)) (hb4 : b < w4.heap.size)
    (hS : ∀ k, S k → k < w4.heap.size ∧ k ≠ b) (hdx : dueT now x = true) (hr6 : RowAt w6 9 1 v6 (pre.length + 1) (keysV pre ++ [Value.string x.1])) (hf6 : FreshV (W.alloc (.cells #[Value.string x.1] 9)) vk v6) (hg6 : (W.alloc (.cells #[Value.string x.1] 9)).grownBy w6 vk.ownBlock) :
    w6.cell? ⟨b, 0, none⟩ = some vk ∧ w6.frozen? ⟨b, 0, none⟩ = false ∧ KeepsOthers W (w6.setCell ⟨b, 0, none⟩ v6) ∧ KpS S W (w6.setCell ⟨b, 0, none⟩ v6) ∧ DueI w4 b now (pre ++ [x]) (w6.setCell ⟨b, 0, none⟩ v6) := by
  obtain ⟨hg, vk', hx', hr', hv', hd⟩ := hI
  obtain rfl : vk' = vk := by
    have e := hx'.symm.trans hx
    simpa using e
  have hsz : (W.alloc (.cells #[Value.string x.1] 9)).heap.size = W.heap.size + 1 := by simp
  have hs6 := hg6.size
  have hg4 := hg.size
  -- what is neither the row's block nor new is as it was
  have hk : ∀ j, j < W.heap.size → some j ≠ vk'.ownBlock → w6.heap[j]? = W.heap[j]? := fun j hj hne => (hg6.block j (by omega) hne).trans (heap_alloc_old W _ hj)
  have hbv : some b ≠ vk'.ownBlock := fun e => by have := hv' b e.symm; omega
  have hx6 : Boxed w6 b 73 vk' := (hk b (by omega) hbv).trans hx
  have hv6 : ∀ k, v6.ownBlock = some k → w4.heap.size ≤ k := fun k hk' => by
    rcases hf6 k hk' with h1 | h1
    · exact hv' k h1
    · omega
  refine ⟨hx6.cell, hx6.frozen, ⟨by simp [World.setCell]; omega, fun j o hj ho => ?_⟩, ⟨by simp [World.setCell]; omega, fun k hk' => ?_⟩, ⟨hg6.os.trans hg.os, hg6.tape.trans hg.tape, hg6.output.trans hg.output, by simp [World.setCell]; omega, fun j hj hne => ?_⟩, v6, hx6.set _, ?_, hv6, fun t ht => ?_⟩
  · have hjl := (Array.getElem?_eq_some_iff.1 hj).1
    have hjb : j ≠ b := fun e => by
      subst e
      rw [show W.heap[j]? = _ from hx] at hj
      cases hj
      cases ho
    refine (heap_setCell_other _ _ _ _ hjb).trans ((hk j hjl (fun e => ?_)).trans hj)
    rcases hr.2 with ⟨rfl, _⟩ | ⟨g', off, cap, cur, rfl, hg', _⟩
    · cases e
    · have e : some j = some g' := e
      injection e with e
      subst e
      rw [hg'] at hj
      cases hj
      cases ho
  · obtain ⟨h1, h2⟩ := hS k hk'
    exact (heap_setCell_other _ _ _ _ h2).trans (hk k (by omega) (fun e => by have := hv' k e.symm; omega))
  · have hjb : j ≠ b := fun e => hne (by rw [e])
    exact (heap_setCell_other _ _ _ _ hjb).trans ((hk j (by omega) (fun e => by have := hv' j e.symm; omega)).trans (hg.block j hj hne))
  · have e1 : keysV (pre ++ [x]) = keysV pre ++ [Value.string x.1] := by simp [keysV]
    rw [e1, List.length_append]
    exact hr6.same (fun k hk' => heap_setCell_other _ _ _ _ (fun e => by have := hv6 k hk'; have e : k = b := e; omega))
  · rcases List.mem_append.1 ht with ht | ht
    · exact hd t ht
    · rw [List.mem_singleton.1 ht]
      exact hdx
theorem tdue_any (g most now : Nat) (h0 : 0 < most) (v : Value) (O : List (ByteArray × Nat)) (w : World) (h : Tab w g most v O) (hl : O.length ≤ 100000) :
    Calls Try.prog 33 #[.pointer (some ⟨g, 0, none⟩), .int .u64 (now : Int)] w (DueIs w g most v (O.takeWhile (dueT now)) (O.dropWhile (dueT now))) := by
  obtain ⟨w1, hw1⟩ : ∃ w1, w1 = (w.alloc (.cells #[.int .u64 (now : Int)] 27)).alloc (.cells #[.slice none 0 0] 73) := ⟨_, rfl⟩
  have hb1 : Below w.heap.size w w1 := by rw [hw1]; exact ((Below.refl _ w).alloc (Nat.le_refl _) _).alloc (by simp) _
  have hs1 : w1.heap.size = w.heap.size + 2 := by rw [hw1]; simp
  have k3 : w1.heap[w.heap.size]? = some (.cells #[.int .u64 (now : Int)] 27 (0, 0)) := by
    rw [hw1]
    exact (heap_alloc_old _ _ (by simp)).trans (heap_alloc_new w _)
  have k5 : w1.heap[w.heap.size + 1]? = some (.cells #[.slice none 0 0] 73 (0, 0)) := by
    rw [hw1]
    have := heap_alloc_new (w.alloc (.cells #[.int .u64 (now : Int)] 27)) (.cells #[.slice none 0 0] 73)
    rwa [show (w.alloc (.cells #[.int .u64 (now : Int)] 27)).heap.size = w.heap.size + 1 by simp] at this
  have h1 := Obj.bel h hb1
  have HM := Lib.hid (tmade_yes g most h0 (w.alloc (.cells #[.int .u64 (now : Int)] 27)) (Obj.c0 (Obj.bel h ((Below.refl _ w).alloc (Nat.le_refl _) _))))
  obtain ⟨A, c, rfl, hn⟩ := (Obj.row h1).form
  have q1 := Obj.c1 h1
  have q1u := q1
  rw [hw1] at q1u
  have HTO := Lib.hid (told_any A O.length c w1)
  obtain ⟨w4, hw4⟩ : ∃ w4, w4 = w1.alloc (.cells #[.slice A O.length c] 97) := ⟨_, rfl⟩
  have hb4 : Below w1.heap.size w1 w4 := by rw [hw4]; exact (Below.refl _ w1).alloc (Nat.le_refl _) _
  have hs4 : w4.heap.size = w1.heap.size + 1 := by rw [hw4]; simp
  have hX4 : Boxed w4 w1.heap.size 97 (.slice A O.length c) := by rw [hw4]; exact Boxed.new w1 97 _
  have h4 := Obj.bel h1 hb4
  have hlt4 := (Obj.row h1).lt
  have HSEQ := Lib.hid (told_stops (20 - 1) (by omega) A c O w1.heap.size (fun k => k = w1.heap.size ∨ (Value.slice A O.length c).ownBlock = some k) w4 (by omega) (.inl rfl) (fun b hb => by
    rcases hb with rfl | hb
    · omega
    · have := hlt4 b hb; omega) hX4.cell (by
    rcases RowAt.tms (Obj.row h4) rfl with e | ⟨b, off, e1, e2, e3⟩
    · exact .inl e
    · exact .inr ⟨b, off, e1, .inr e2, e3⟩))
  have HI0 : Hid (DueI w4 (w.heap.size + 1) now [] w4) := Lib.hid ⟨World.grownBy.refl _ _, .slice none 0 0, (hb4.block _ (by omega)).trans k5, RowAt.nil _ _ _, (fun k hk => by cases hk), (fun t ht => by cases ht)⟩
  have HZ : Hid (∀ k, k = w1.heap.size ∨ (Value.slice A O.length c).ownBlock = some k → k < w4.heap.size ∧ k ≠ w.heap.size + 1) := Lib.hid (fun k hk => by
    rcases hk with rfl | hk
    · omega
    · have := (Obj.row h).lt k hk
      omega)
  have HE := Lib.hid (dueK w w4 g most now _ O h (hb1.trans (hb4.mono hb1.size)) (by omega))
  have H3 : Hid (Boxed w4 w.heap.size 27 (.int .u64 (now : Int))) := Lib.hid ((hb4.block _ (by omega)).trans k3)
  have HS4 : Hid (w.heap.size + 3 = w4.heap.size) := Lib.hid (by omega)
  have HS1 : Hid (w1.heap.size = w.heap.size + 2) := Lib.hid hs1
  have HW1 := Lib.hid hw1
  have HW4 := Lib.hid hw4
  have HL := Lib.hid hl
  clear hw1 hw4 h hb1 h1 hb4 hX4 h4 hlt4 k3 k5 hs1 hs4 hl
  generalize hnn : O.length = n at *
  have HN := Lib.hid hnn
  clear hnn
  refine (callsIn_wide (n := 20)).1 ?_
  refine callsIn_of_wp_marks Try.func33 rfl trivial ?_ rfl
  simp only [Try.ntmps33, List.size_toArray, List.length_cons, List.length_nil, Nat.reduceAdd, Nat.reduceSub, Array.replicate_succ, Array.replicate_zero, List.push_toArray, List.append_toArray, List.nil_append, List.cons_append]
  gi_wp2_with (first
    | (refine ⟨trivial, ?_⟩; gi_at_call 53; (with_reducible refine (callsIn_wide.2 HM.out).mono ?_); rintro e w3 ⟨rfl, hw3⟩; rw [hw3]; clear hw3 w3)
    | (refine ⟨trivial, ?_⟩; gi_at_call 58; rw [← HW1.out]; (with_reducible refine (callsIn_wide.2 HTO.out).mono ?_); rintro e w3 ⟨rfl, hw3⟩; rw [hw3, ← HW4.out]; clear hw3 w3))
  clear HM HTO HW1 HW4 q1u
  refine wpIn_until (encs := encY) (S₀ := fun k => k = w1.heap.size ∨ (Value.slice A n c).ownBlock = some k) rfl (by omega) (gf := 74) (lb := #[.pointer (some ⟨w1.heap.size, 0, none⟩)]) rfl trivial (enters_of Try.func74 (by kernel_rfl) rfl) (fun k hk => (HZ.out k hk).1)
    HSEQ.out (Below.refl _ _) (fun _ => rfl)
    (fun p => #[.pointer (some ⟨g, 0, none⟩), .int .u64 (now : Int), undef, .pointer (some ⟨w.heap.size, 0, none⟩), .slice none 0 0, .pointer (some ⟨w.heap.size + 1, 0, none⟩), undef, undef, .pointer (some ⟨g, 0, none⟩), .bool true, .bool false, .pointer (some ⟨g, 0, none⟩), .pointer (some ⟨g, 0, none⟩), .pointer (some ⟨g, 1, none⟩), .slice A n c, .func (.func 74) #[] #[.pointer (some ⟨w1.heap.size, 0, none⟩)], Value.string p.1, .int .u64 (p.2 : Int), undef, undef, undef, undef, undef, undef, undef, undef, undef, undef, undef, undef, undef]) (fun x => by simp [encY])
    0 (DueI w4 (w.heap.size + 1) now) (DueX w4 (w.heap.size + 1) now)
    (fun pre p a W => DueI w4 (w.heap.size + 1) now pre W ∧ a = { tmps := #[.pointer (some ⟨g, 0, none⟩), .int .u64 (now : Int), undef, .pointer (some ⟨w.heap.size, 0, none⟩), .slice none 0 0, .pointer (some ⟨w.heap.size + 1, 0, none⟩), Value.string p.1, .int .u64 (p.2 : Int), .pointer (some ⟨g, 0, none⟩), .bool true, .bool false, .pointer (some ⟨g, 0, none⟩), .pointer (some ⟨g, 0, none⟩), .pointer (some ⟨g, 1, none⟩), .slice A n c, .func (.func 74) #[] #[.pointer (some ⟨w1.heap.size, 0, none⟩)], Value.string p.1, .int .u64 (p.2 : Int), undef, undef, undef, undef, undef, undef, undef, undef, undef, undef, undef, undef, undef], defers := [] })
    (dueI_own _ _ _ _ (Nat.le_refl _)) (dueX_own _ _ _ _ (Nat.le_refl _))
    (fun q A B' row h hg hr => ⟨dueI_own _ _ _ _ (Nat.le_refl _) _ _ _ _ h.1 hg hr, h.2⟩)
    HI0.out ?assign ?body ?done ?stop
  case assign =>
    intro l pre x W K hI hK
    have hsem := Oper.semAt_some l
    have HI := Lib.hid hI
    have HKK := Lib.hid hK
    clear hI hK
    gi_wp2
    exact HKK.out _ _ ⟨HI.out, rfl⟩ (KeepsOthers.refl W) (KpS.refl _ W)
  case body =>
    rintro l pre x a1 W hpre ⟨hI, rfl⟩
    have hsem := Oper.semAt_some l
    obtain ⟨hg, vk, hx, hr, hv, hd⟩ := id hI
    obtain ⟨Ak, ck, rfl, hnk⟩ := hr.form
    have hs4 := HS4.out
    have q3 : W.cell? ⟨w.heap.size, 0, none⟩ = some (.int .u64 (now : Int)) := Boxed.cell ((hg.block _ (by omega) (by simp)).trans H3.out)
    have q5 := hx.cell
    have f5 := hx.frozen
    cases hdx : dueT now x with
    | true =>
      have HC := Lib.hid (due43_yes x.2 now hdx W)
      have hlen : pre.length + 1 ≤ 100000000 := by
        have := hpre.length_le
        rw [List.length_append, List.length_singleton, HN.out] at this
        have := HL.out
        omega
      have HLN := Lib.hid hlen
      have HR3 := Lib.hid (hr.bel ((Below.refl _ W).alloc (Nat.le_refl _) (.cells #[Value.string x.1] 9)))
      have HSR := Lib.hid (src_new rowK W 1 [Value.string x.1] rfl (fun u hu => by rw [List.mem_singleton.1 hu]; rfl) 9 #[Value.string x.1] rfl)
      have HFIN := Lib.hid (fun v6 w6 => due_step w4 W w6 (w.heap.size + 1) now (fun k => k = w1.heap.size ∨ (Value.slice A n c).ownBlock = some k) pre x (.slice Ak pre.length ck) v6 hI hx hr (by omega) (fun k hk => (HZ.out k hk)) (by rw [hdx]))
      clear hpre hg hx hr hv hd hI hlen
      generalize pre.length = m at *
      gi_wp2_with (first
        | (refine ⟨trivial, ?_⟩; gi_at_call 43; (with_reducible refine (CallsIn.inRound l (callsIn_wide.2 HC.out)).mono ?_); rintro e w5 ⟨rfl, hw5⟩; rw [hw5]; clear hw5 w5)
        | ((with_reducible refine wpListIn_append_row rowK (o := ⟨some 25, _, _, _, _, _⟩) ?_ (by rfl) (.tmp 22) (.tmp 24) rfl _ m (keysV pre) ?_ HR3.out _ 1 [Value.string x.1] ?_ HSR.out HLN.out ?_); exact fun _ => trivial; rfl; rfl; intro v6 w6 hr6 hf6 hg6; obtain ⟨q6, f6, hfin⟩ := HFIN.out v6 w6 hr6 hf6 hg6; obtain ⟨A6, c6, rfl, hn6⟩ := hr6.form))
      all_goals exact .inl ⟨rfl, hfin⟩
    | false =>
      have HC := Lib.hid (due43_no x.2 now hdx W)
      have HI := Lib.hid hI
      have HD := Lib.hid hdx
      clear hpre hg hx hr hv hd hI hdx
      gi_wp2_with (first
        | (refine ⟨trivial, ?_⟩; gi_at_call 43; (with_reducible refine (CallsIn.inRound l (callsIn_wide.2 HC.out)).mono ?_); rintro e w5 ⟨rfl, hw5⟩; rw [hw5]; clear hw5 w5))
      exact ⟨KeepsOthers.refl W, pre, x, rfl, HD.out, HI.out⟩
  case done =>
    rintro D W hD hI hK
    obtain ⟨e1, e2⟩ := all_of_take hI.2.choose_spec.2.2.2
    obtain ⟨Ak, ck, q5, HC⟩ := HE.out.fin W D O hD hI hK e1 e2
    have HC := Lib.hid HC
    clear hI hK e1 e2
    gi_wp2_with (first
      | (refine ⟨trivial, ?_⟩; gi_at_call 59; (with_reducible refine (callsIn_wide.2 HC.out).mono ?_); rintro e w5 ⟨rfl, q6, hk5, hfin⟩))
    refine ⟨by simp, .inl ⟨_, _, rfl, run_takeDeferred hk5, ?_⟩⟩
    refine ⟨_, results_tmp rfl _ _ _, ?_⟩
    exact hfin
  case stop =>
    rintro D pre W hD hpre ⟨pre', x, rfl, hx, hI⟩ hK
    obtain ⟨e1, e2⟩ := fst_of_take hI.2.choose_spec.2.2.2 hx hpre
    obtain ⟨Ak, ck, q5, HC⟩ := HE.out.fin W D pre' hD hI hK e1 e2
    have HC := Lib.hid HC
    clear hI hK e1 e2 hx hpre
    gi_wp2_with (first
      | (refine ⟨trivial, ?_⟩; gi_at_call 59; (with_reducible refine (callsIn_wide.2 HC.out).mono ?_); rintro e w5 ⟨rfl, q6, hk5, hfin⟩))
    refine ⟨by simp, .inl ⟨_, _, rfl, run_takeDeferred hk5, ?_⟩⟩
    refine ⟨_, results_tmp rfl _ _ _, ?_⟩
    exact hfin
end Go.Proofs.Ytkebgcalphajhaa.Str
