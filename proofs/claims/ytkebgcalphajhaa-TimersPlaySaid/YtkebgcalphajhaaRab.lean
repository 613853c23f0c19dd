/- Queues in memory; New, isMade, Len, Room, At of the package ring. Conditions: the queue is made. -/
import Derived.Test.YtkebgcalphajhaaRaa
import Derived.Deep.QuietTactic
namespace Go.Proofs.Ytkebgcalphajhaa
open Go.RowKit Go.Lib
set_option maxRecDepth 100000
set_option maxHeartbeats 400000
theorem RowAt.form {w : World} {e k n : Nat} {v : Value} {xs : List Value} (h : RowAt w e k v n xs) : ∃ A c, v = .slice A n c ∧ n ≤ c := by
  rcases h.2 with ⟨rfl, rfl⟩ | ⟨g, off, cap, cur, rfl, _, hn, _⟩
  · exact ⟨none, 0, rfl, Nat.le_refl _⟩
  · exact ⟨_, _, rfl, hn⟩
theorem RowAt.filled {w : World} {e k n : Nat} {v : Value} {xs : List Value} (h : RowAt w e k v n xs) (hn : 0 < n) : ∃ b off c, v = .slice (some ⟨b, off, none⟩) n c ∧ n ≤ c := by
  rcases h.2 with ⟨rfl, h0⟩ | ⟨g, off, cap, cur, rfl, _, hn, _⟩
  · omega
  · exact ⟨_, _, _, rfl, hn⟩
/-- An object of two fields in block g: how many it may have, and a row of its own. -/
structure Obj (T e k : Nat) (w : World) (g most : Nat) (v : Value) (n : Nat) (xs : List Value) : Prop where
  blk : w.heap[g]? = some (.cells #[.int .i64 (most : Int), v] T (0, 0))
  row : RowAt w e k v n xs
  ne : v.ownBlock ≠ some g
section
variable {T e k : Nat} {w : World} {g most : Nat} {v : Value} {n : Nat} {xs : List Value}
theorem Obj.c0 (h : Obj T e k w g most v n xs) : w.cell? ⟨g, 0, none⟩ = some (.int .i64 (most : Int)) := by unfold World.cell?; rw [h.blk]; rfl
theorem Obj.c1 (h : Obj T e k w g most v n xs) : w.cell? ⟨g, 1, none⟩ = some v := by unfold World.cell?; rw [h.blk]; rfl
theorem Obj.fr (h : Obj T e k w g most v n xs) (i : Nat) : w.frozen? ⟨g, i, none⟩ = false := by unfold World.frozen?; rw [h.blk]; simp
theorem Obj.lt (h : Obj T e k w g most v n xs) : g < w.heap.size := (Array.getElem?_eq_some_iff.1 h.blk).1
theorem Obj.same {w' : World} (h : Obj T e k w g most v n xs) (hg : w'.heap[g]? = w.heap[g]?) (hb : ∀ b, v.ownBlock = some b → w'.heap[b]? = w.heap[b]?) : Obj T e k w' g most v n xs := ⟨hg.trans h.blk, h.row.same hb, h.ne⟩
theorem Obj.bel {w' : World} (h : Obj T e k w g most v n xs) (hb : Below w.heap.size w w') : Obj T e k w' g most v n xs := h.same (hb.block g h.lt) (fun b hv => hb.block b (h.row.lt b hv))
/-- The row has turned, and lies in the field anew. -/
theorem Obj.store {v' : Value} {n' : Nat} {xs' : List Value} {w1 : World} (h : Obj T e k w g most v n xs) (hs : w.heap.size ≤ w1.heap.size) (hg : w1.heap[g]? = w.heap[g]?) (hr : RowAt w1 e k v' n' xs') (hf : FreshV w v v') : Obj T e k (w1.setCell ⟨g, 1, none⟩ v') g most v' n' xs' := by
  have hlt := h.lt
  have hne : v'.ownBlock ≠ some g := fun hv => by
    rcases hf g hv with h1 | h1
    · exact h.ne h1
    · omega
  refine ⟨?_, hr.same (fun b hb => heap_setCell_other _ _ _ _ (fun e => hne (by rw [hb, e]))), hne⟩
  have := Go.heap_setCell_same w1 g 1 _ T v' (hg.trans h.blk)
  exact this
end
/-- From w to w' nothing that was there has turned but block g and the block of v; where v' lies is where v lay, or new. -/
structure Mov (w w' : World) (g : Nat) (v v' : Value) : Prop where
  os : w'.os = w.os
  tape : w'.tape = w.tape
  output : w'.output = w.output
  size : w.heap.size ≤ w'.heap.size
  block : ∀ k, k < w.heap.size → k ≠ g → some k ≠ v.ownBlock → w'.heap[k]? = w.heap[k]?
  fresh : FreshV w v v'
theorem Mov.refl (w : World) (g : Nat) (v : Value) : Mov w w g v v := ⟨rfl, rfl, rfl, Nat.le_refl _, fun _ _ _ _ => rfl, FreshV.refl w v⟩
theorem Mov.trans {w w1 w2 : World} {g : Nat} {v v1 v2 : Value} (h : Mov w w1 g v v1) (h1 : Mov w1 w2 g v1 v2) : Mov w w2 g v v2 :=
  ⟨h1.os.trans h.os, h1.tape.trans h.tape, h1.output.trans h.output, Nat.le_trans h.size h1.size, fun k hk hg hv => (h1.block k (Nat.lt_of_lt_of_le hk h.size) hg (fun e => by
    rcases h.fresh k e.symm with h2 | h2
    · exact hv h2.symm
    · omega)).trans (h.block k hk hg hv), h.fresh.trans h1.fresh h.size⟩
theorem Mov.of_below {w w' : World} (g : Nat) (v : Value) (h : Below w.heap.size w w') : Mov w w' g v v := ⟨h.os, h.tape, h.output, h.size, fun k hk _ _ => h.block k hk, FreshV.refl w v⟩
theorem Mov.below {w w' : World} {g B : Nat} {v v' : Value} (h : Mov w w' g v v') (hB : B ≤ w.heap.size) (hg : B ≤ g) (hv : ∀ b, v.ownBlock = some b → B ≤ b) : Below B w w' :=
  ⟨h.os, h.tape, h.output, h.size, fun k hk => h.block k (by omega) (by omega) (fun e => by have := hv k e.symm; omega)⟩
theorem Mov.base {w w' : World} {g B : Nat} {v v' : Value} (h : Mov w w' g v v') (hB : B ≤ w.heap.size) (hv : ∀ b, v.ownBlock = some b → B ≤ b) : ∀ b, v'.ownBlock = some b → B ≤ b := fun b hb => by
  rcases h.fresh b hb with h1 | h1
  · exact hv b h1
  · omega
/-- Behind a step on the row, and a store of it. -/
theorem Mov.store {w w1 : World} {g : Nat} {v v' : Value} (h : w.grownBy w1 v.ownBlock) (hf : FreshV w v v') (u : Value) (i : Nat) : Mov w (w1.setCell ⟨g, i, none⟩ u) g v v' :=
  ⟨h.os, h.tape, h.output, by simp [World.setCell]; exact h.size, fun k hk hg hv => (heap_setCell_other _ _ _ _ hg).trans (h.block k hk hv), hf⟩
/-- Another row stays. -/
theorem RowAt.mov {w w' : World} {g : Nat} {v v' u : Value} {e k n : Nat} {xs : List Value} (h : RowAt w e k u n xs) (hm : Mov w w' g v v') (h1 : u.ownBlock ≠ some g) (h2 : ∀ b, u.ownBlock = some b → v.ownBlock ≠ some b) : RowAt w' e k u n xs :=
  h.same fun b hb => hm.block b (h.lt b hb) (fun e => h1 (by rw [hb, e])) (fun e => h2 b hb e.symm)
/-- Another object stays. -/
theorem Obj.mov {T e k : Nat} {w w' : World} {g g1 most n : Nat} {v v1 v' : Value} {xs : List Value} (h : Obj T e k w g1 most v1 n xs) (hm : Mov w w' g v v') (h0 : g1 ≠ g) (h3 : v.ownBlock ≠ some g1) (h1 : v1.ownBlock ≠ some g) (h2 : ∀ b, v1.ownBlock = some b → v.ownBlock ≠ some b) : Obj T e k w' g1 most v1 n xs :=
  ⟨(hm.block g1 h.lt h0 (fun e => h3 e.symm)).trans h.blk, h.row.mov hm h1 h2, h.ne⟩
def intsV (L : List Int) : List Value := L.map (Value.int .i64)
theorem intsV_length (L : List Int) : (intsV L).length = L.length := by simp [intsV]
theorem intsV_one (L : List Int) : ∀ u ∈ intsV L, u.oneCell' = true := ints_oneCell .i64 L
theorem intsV_get (L : List Int) (j : Nat) (h : j < L.length) : (intsV L)[j]? = some (.int .i64 L[j]!) := by
  unfold intsV
  rw [List.getElem?_map, List.getElem?_eq_getElem h, getElem!_pos L j h]
  rfl
/-- A queue in block g with at most most elements, of which L are there. -/
def Ring (w : World) (g most : Nat) (v : Value) (L : List Int) : Prop := Obj 93 3 1 w g most v L.length (intsV L)
theorem rmade_yes (g most : Nat) (h0 : 0 < most) (w : World) (q : w.cell? ⟨g, 0, none⟩ = some (.int .i64 (most : Int))) : Calls Try.prog 48 #[.pointer (some ⟨g, 0, none⟩)] w fun e w' => e = .returned (.bool true) ∧ w' = w := by
  have h1 : (0 : Int) < (most : Int) := by omega
  go_enter Try.func48, Try.ntmps48
  go_wp2
  go_ret
  exact ⟨rfl, rfl⟩
theorem rnew_yes (most : Nat) (h0 : 0 < most) (h1 : most ≤ 65536) (w : World) : Calls Try.prog 22 #[.int .i64 (most : Int)] w fun e w' => e = .returned (.pointer (some ⟨w.heap.size, 0, none⟩)) ∧ w' = w.alloc (.cells #[.int .i64 (most : Int), .slice none 0 0] 93) := by
  have h2 : ¬ (most : Int) < 1 := by omega
  have h3 : ¬ (most : Int) > 65536 := by omega
  go_enter Try.func22, Try.ntmps22
  go_wp2
  go_ret
  exact ⟨rfl, rfl⟩
theorem rnew_no (z : Int) (h : z < 1 ∨ 65536 < z) (w : World) : Calls Try.prog 22 #[.int .i64 z] w fun e w' => e = .returned (.pointer none) ∧ w' = w := by
  rcases h with h | h
  · go_enter Try.func22, Try.ntmps22
    go_wp2
    go_ret
    exact ⟨rfl, rfl⟩
  · have h2 : ¬ z < 1 := by omega
    go_enter Try.func22, Try.ntmps22
    go_wp2
    go_ret
    exact ⟨rfl, rfl⟩
theorem ring_new (most : Nat) (w : World) : Ring (w.alloc (.cells #[.int .i64 (most : Int), .slice none 0 0] 93)) w.heap.size most (.slice none 0 0) [] := ⟨heap_alloc_new w _, RowAt.nil _ 3 1, fun h => by cases h⟩
theorem rlen_any (g most : Nat) (h0 : 0 < most) (v : Value) (L : List Int) (w : World) (h : Ring w g most v L) : Calls Try.prog 30 #[.pointer (some ⟨g, 0, none⟩)] w fun e w' => e = .returned (.int .i64 (L.length : Int)) ∧ w' = w := by
  have HM := Lib.hid (rmade_yes g most h0 w (Obj.c0 h))
  obtain ⟨A, c, rfl, hn⟩ := (Obj.row h).form
  have q := Obj.c1 h
  clear h
  generalize L.length = n at *
  go_enter Try.func30, Try.ntmps30
  go_wp2_with (go_at_call 48; (with_reducible refine HM.out.mono ?_); rintro e w1 ⟨rfl, rfl⟩)
  go_ret
  exact ⟨rfl, rfl⟩
theorem rroom_any (g most : Nat) (h0 : 0 < most) (hm : most ≤ 65536) (v : Value) (L : List Int) (w : World) (hl : L.length ≤ most) (h : Ring w g most v L) : Calls Try.prog 50 #[.pointer (some ⟨g, 0, none⟩)] w fun e w' => e = .returned (.int .i64 ((most - L.length : Nat) : Int)) ∧ Below w.heap.size w w' := by
  have HM := Lib.hid (rmade_yes g most h0 w (Obj.c0 h))
  obtain ⟨A, c, rfl, hn⟩ := (Obj.row h).form
  have q := Obj.c1 h
  have q0 := Obj.c0 h
  clear h
  generalize L.length = n at *
  have h3 : (0 : Int) ≤ (most : Int) - (n : Int) := by omega
  have h4 : (most : Int) - (n : Int) = ((most - n : Nat) : Int) := by omega
  have h5 : IntKind.i64.wrap ((most : Int) - (n : Int)) = ((most - n : Nat) : Int) := by rw [IntKind.wrap_i64]; omega
  clear h4
  go_enter Try.func50, Try.ntmps50
  go_wp2_with (go_at_call 48; (with_reducible refine HM.out.mono ?_); rintro e w1 ⟨rfl, rfl⟩)
  go_quiet (fail)
  go_wp2
  go_ret
  exact ⟨rfl, ⟨rfl, rfl, rfl, Nat.le_refl _, fun _ _ => rfl⟩⟩
theorem rat_in (g most : Nat) (h0 : 0 < most) (v : Value) (L : List Int) (w : World) (h : Ring w g most v L) (i : Nat) (hi : i < L.length) : Calls Try.prog 51 #[.pointer (some ⟨g, 0, none⟩), .int .i64 (i : Int)] w fun e w' => e = .returned (.tuple #[.int .i64 L[i]!, .bool true]) ∧ w' = w := by
  have HL := Lib.hid (rlen_any g most h0 v L w h)
  obtain ⟨b, off, c, rfl, hn⟩ := (Obj.row h).filled (by omega)
  have q := Obj.c1 h
  have q0 := (Obj.row h).cell i _ (intsV_get L i hi)
  clear h
  have h1 : ¬ (i : Int) < 0 := by omega
  have h2 : ¬ (i : Int) ≥ (L.length : Int) := by omega
  generalize L[i]! = z at *
  generalize L.length = n at *
  go_enter Try.func51, Try.ntmps51
  go_wp2_with (go_at_call 30; (with_reducible refine HL.out.mono ?_); rintro e w1 ⟨rfl, rfl⟩)
  go_ret2
  exact ⟨rfl, rfl⟩
theorem rat_out (g most : Nat) (h0 : 0 < most) (v : Value) (L : List Int) (w : World) (h : Ring w g most v L) (i : Int) (hi : i < 0 ∨ (L.length : Int) ≤ i) : Calls Try.prog 51 #[.pointer (some ⟨g, 0, none⟩), .int .i64 i] w fun e w' => e = .returned (.tuple #[.int .i64 0, .bool false]) ∧ w' = w := by
  have HL := Lib.hid (rlen_any g most h0 v L w h)
  clear h
  generalize L.length = n at *
  rcases hi with hi | hi
  · go_enter Try.func51, Try.ntmps51
    go_wp2
    go_ret2
    exact ⟨rfl, rfl⟩
  · have h1 : ¬ i < 0 := by omega
    have h2 : i ≥ (n : Int) := by omega
    go_enter Try.func51, Try.ntmps51
    go_wp2_with (go_at_call 30; (with_reducible refine HL.out.mono ?_); rintro e w1 ⟨rfl, rfl⟩)
    go_ret2
    exact ⟨rfl, rfl⟩
end Go.Proofs.Ytkebgcalphajhaa
