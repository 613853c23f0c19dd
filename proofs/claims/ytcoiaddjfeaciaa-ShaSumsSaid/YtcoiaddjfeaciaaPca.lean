/- What stays while pieces are written into a hash: plain lemmas on memory. No condition. -/
import Derived.Test.YtcoiaddjfeaciaaShaq
namespace Go.Proofs.Ytcoiaddjfeaciaa
set_option maxRecDepth 100000
open Go.RowKit Go.Great
set_option linter.unusedVariables false

theorem HashOf.grown {w w' : World} {g : Nat} {row : Option Nat} {m : List UInt8} (h : HashOf w g m) (hg : w.grownBy w' row) (hne : some g ≠ row) : HashOf w' g m := by
  have hlt := h.lt
  obtain ⟨t, hh, hT⟩ := h
  exact ⟨t, ⟨(hg.block g hlt hne).trans hh.1, hh.2⟩, hT⟩
theorem bat_ne {w : World} {B g : Nat} {A : Option Addr} {xs : List UInt8} (hx : BAt w B A xs) (hg : B ≤ g) : ∀ g' off, A = some ⟨g', off, none⟩ → xs ≠ [] → g' ≠ g := by
  intro g' off e hne
  rcases hx with rfl | ⟨g1, off1, e1, h1, _⟩
  · exact absurd rfl hne
  · rw [e] at e1
    injection e1 with e1
    injection e1 with e1
    omega

/-- The hash at g has been written m; v holds k; what lay below is as it was. -/
structure PS (w : World) (b1 g : Nat) (m : List UInt8) (v : Value) (k : List UInt8) (W : World) : Prop where
  hash : HashOf W g m
  all : W.ownsRow b1 5 1 v k.length (bcells k)
  bel : Below w.heap.size w W
  lo : w.heap.size ≤ g
  lt : g < b1
  le : b1 ≤ W.heap.size
section
variable {w W W' : World} {b1 g : Nat} {m k : List UInt8} {v : Value}
theorem PS.wle (h : PS w b1 g m v k W) : w.heap.size ≤ W.heap.size := h.bel.size
theorem PS.grow {row : Option Nat} (h : PS w b1 g m v k W) (hg : W.grownBy W' row) (hr : some g ≠ row) (hv : v.ownBlock = none ∨ v.ownBlock ≠ row) (hb : ∀ x, row = some x → w.heap.size ≤ x) : PS w b1 g m v k W' :=
  ⟨h.hash.grown hg hr, h.all.kept hg hv, h.bel.grown hg h.wle hb, h.lo, h.lt, Nat.le_trans h.le hg.size⟩
theorem PS.below (h : PS w b1 g m v k W) (hb : Below W.heap.size W W') : PS w b1 g m v k W' :=
  h.grow (row := none) (grownBy_of_below hb (Nat.le_refl _) none) (by simp) (by cases v.ownBlock <;> simp) (by simp)
theorem PS.allNe (h : PS w b1 g m v k W) (r : Nat) (hr : r < b1 ∨ W.heap.size ≤ r) : v.ownBlock = none ∨ v.ownBlock ≠ some r := by
  cases e : v.ownBlock with
  | none => exact .inl rfl
  | some x =>
    have := h.all.lt x e
    right
    intro e2
    injection e2 with e2
    omega
theorem PS.write {m' : List UInt8} (h : PS w b1 g m v k W) (hg : W.grownBy W' (some g)) (hh : HashOf W' g m') : PS w b1 g m' v k W' :=
  ⟨hh, h.all.kept hg (h.allNe g (.inl h.lt)), h.bel.grown hg h.wle (fun x e => by injection e with e; have := h.lo; omega), h.lo, h.lt, Nat.le_trans h.le hg.size⟩
theorem PS.all' {v' : Value} {k' : List UInt8} (h : PS w b1 g m v k W) (hg : W.grownBy W' v.ownBlock) (ho : W'.ownsRow b1 5 1 v' k'.length (bcells k')) : PS w b1 g m v' k' W' := by
  refine ⟨h.hash.grown hg (fun e => ?_), ho, h.bel.grown hg h.wle (fun x e => ?_), h.lo, h.lt, Nat.le_trans h.le hg.size⟩
  · have := (h.all.lt g e.symm).1
    have := h.lt
    omega
  · have := (h.all.lt x e).1
    have := h.lt
    have := h.lo
    omega
end
theorem own_grown {W W' : World} {b : Nat} {v : Value} {n : Nat} {xs : List Value} {row : Option Nat} (h : W.ownsRow b 5 1 v n xs) (hg : W.grownBy W' row) (hne : ∀ x, row = some x → x < b) : W'.ownsRow b 5 1 v n xs :=
  h.kept hg (by
    cases e : v.ownBlock with
    | none => exact .inl rfl
    | some x =>
      right
      intro e2
      have := (h.lt x e).1
      have := hne x e2.symm
      omega)
theorem wpList_append_srcG {P : Program} (w : World) {ops : Array Oper} {rest : List Oper} {o : Oper} {a : Act} {Q : Exit → Act → World → Prop} (hw : Region.wanted o (yielded ops a.tmps) = true) (s x : Operand) (t tx : TypeId)
    (ho : o.op = .call { callee := .builtin .append, args := #[s, x], argTypes := #[t, tx] })
    (base : Nat) (e : TypeId) (i : TypeInfo) (z : Value) (bytes : Nat) (ht : P.underlying t = some (.slice e)) (hi : P.info? e = some i) (hz : i.zero = some z)
    (hsize : i.size = 1) (hby : i.bytes = bytes) (hzs : z.cells.size = 1)
    (v : Value) (n : Nat) (xs : List Value) (hs : a.eval s = v) (hown : w.ownsRow base e 1 v n xs)
    (y : Value) (m : Nat) (news : List Value) (hx : a.eval x = y) (hr : Src P 1 tx y m news w)
    (h63 : n + m ≤ maxLen) (hbytes : (n + m) * bytes ≤ 140737488355328) (hbase : base ≤ w.heap.size)
    (h : ∀ v' w', w'.ownsRow base e 1 v' (n + m) (xs ++ news) → w.grownBy w' v.ownBlock → (v'.ownBlock = v.ownBlock ∨ v'.ownBlock = some w.heap.size) → wpList P ops Q rest (a.put o.dst v') w') : wpList P ops Q (o :: rest) a w :=
  wpList_step fun _ hK => by
    rw [if_pos hw]
    exact wp_append_src w s x t tx ho base e i z bytes ht hi hz hsize hby hzs v n xs hs hown y m news hx hr h63 hbytes hbase fun v' w' h2 h3 h4 => hK _ _ (h v' w' h2 h3 h4)
theorem src_own {W : World} {b c : Nat} {A : Option Addr} {m : List UInt8} (h : W.ownsRow b 5 1 (.slice A m.length c) m.length (bcells m)) : Src Try.prog 1 22 (.slice A m.length c) m.length (bcells m) W :=
  (BAt.of_own h (Nat.le_refl _)).src Try.underlying22 c
end Go.Proofs.Ytcoiaddjfeaciaa
