/- Contract of the reference of Pad of package sha. No condition but that a length is a number of 64 bits. Contract of the reference's words of a block. Condition: a block has 64 bytes. Contract of Text of package ident. Conditions: an id has 20 bytes. Contracts of Of of package ident and of the chapter's examples. Conditions: a text has at most 900,000 bytes. The chapter's examples of package ident hold. No condition. The walk of the statement IdentFar of this seat: it answers true for every three ids. No condition. -/
import Derived.Test.YtcoiaddjfeaciaaGf
import Derived.LoopTactic
import Derived.Lib.ConvBytes
section
namespace Go.Proofs.Ytcoiaddjfeaciaa
set_option maxRecDepth 100000
open Go.RowKit Go.Great
set_option linter.unusedVariables false
set_option linter.unusedSimpArgs false

def RPadRel (w : World) (n : Nat) (v : Value) (wr : World) : Prop :=
  ∃ (j : Nat) (A : Option Addr) (c : Nat), j ≤ zerosN n ∧ v = .slice A (1 + j) c ∧ wr.ownsRow w.heap.size 5 1 (.slice A (1 + j) c) (1 + j) (bcells (128 :: List.replicate j 0)) ∧ Below w.heap.size w wr

theorem pad_mod (n j : Nat) : (IntKind.u64.wrap ((n : Int) + (1 + (j : Int)))).tmod 64 = ((n : Int) + (1 + (j : Int))) % 64 := by
  rw [IntKind.wrap_u64, Int.tmod_eq_emod_of_nonneg (by omega)]
  omega

set_option maxRecDepth 100000 in
theorem rpad_any (n : Nat) (hn : n < 18446744073709551616) (w : World) : Calls Try.prog 16 #[.int .u64 (n : Int)] w (OwnB w (padB n)) := by
  obtain ⟨i0, hi, hz0, hz1, hz2⟩ := info_parts info5
  have hz : zerosN n ≤ 63 := by unfold zerosN; omega
  have HN := Lib.hid hn
  clear hn
  go_enter Try.func16, Try.ntmps16
  go_wp2
  have R0 : RPadRel w n (.slice (some ⟨w.heap.size, 0, none⟩) 1 1) (w.alloc (.cells #[.int .u8 128] 5)) := by
    refine ⟨0, _, _, Nat.zero_le _, rfl, ?_, (Below.refl _ w).alloc (Nat.le_refl _) _⟩
    exact ⟨by simp [bcells], .inr ⟨w.heap.size, 1, _, rfl, Nat.le_refl _, heap_alloc_new w _, Nat.le_refl _, by simp only [maxLen]; omega, rfl, by simp [bcells]⟩⟩
  have HR0 := Lib.hid R0
  clear R0
  go_loopw [3] (RPadRel w n) (fun v _ => zerosN n + 1 - sliceLen v)
  case atStart => exact HR0.out
  case round =>
    obtain ⟨j, A, c, hj, rfl, hown, hb⟩ := hrel
    clear HR0
    by_cases hlt : j < zerosN n
    · obtain ⟨X, hX, hX'⟩ : ∃ X, (IntKind.u64.wrap ((n : Int) + (1 + (j : Int)))).tmod 64 = X ∧ (X != 56) = true := ⟨_, rfl, by rw [pad_mod]; unfold zerosN at hlt; simp; omega⟩
      have R : ∀ v2 w2, w2.ownsRow w.heap.size 5 1 v2 (1 + j + 1) (bcells (128 :: List.replicate j 0) ++ bcells [0]) → (wr.alloc (.cells #[.int .u8 0] 5)).grownBy w2 (Value.ownBlock (.slice A (1 + j) c)) → RPadRel w n v2 w2 ∧ zerosN n + 1 - sliceLen v2 < zerosN n + 1 - sliceLen (.slice A (1 + j) c) := by
        intro v2 w2 h2 g2
        obtain ⟨A2, c2, rfl⟩ := slice_of_own h2
        refine ⟨⟨j + 1, A2, c2, by omega, by rw [show 1 + (j + 1) = 1 + j + 1 from by omega], ?_, (hb.alloc hb.size _).grown g2 (by have := hb.size; simp; omega) (fun b hbb => (hown.lt b hbb).1)⟩, ?_⟩
        · rw [show 1 + (j + 1) = 1 + j + 1 from by omega, List.replicate_succ', ← List.cons_append, bcells_append]
          exact h2
        · simp only [sliceLen]
          omega
      have HH := Lib.hid hown
      have HB := Lib.hid hb
      have HR := Lib.hid R
      clear hown hb R
      go_wp2_with (at_builtin; refine wpList_append_src _ rfl (.tmp 12) (.tmp 13) _ _ rfl w.heap.size 5 i0 _ 1 Try.underlying22 hi hz0 hz1 hz2 rfl _ _ _ rfl (HH.out.alloc _) _ 1 (bcells [0]) rfl (src_one Try.underlying22 _ _ _ _ rfl) (by simp only [maxLen]; omega) (by omega) (by have := HB.out.size; simp; omega) ?_; intro v2 w2 hown2 hg2 hat2)
      exact HR.out v2 w2 hown2 hg2
    · obtain rfl : j = zerosN n := by omega
      have hX : (IntKind.u64.wrap ((n : Int) + (1 + (zerosN n : Int)))).tmod 64 = 56 := by rw [pad_mod]; unfold zerosN; omega
      have e3 : (128 :: List.replicate (zerosN n) (0 : UInt8)).length = 1 + zerosN n := by simp; omega
      have hP := rput_yes A c (n * 8 % 18446744073709551616) 8 (128 :: List.replicate (zerosN n) 0) wr (BAt.of_own hown (Nat.le_refl _)) (by omega) (by omega) (by omega) (by omega)
      rw [e3] at hP
      have e2 : ((n * 8 % 18446744073709551616 : Nat) : Int) = IntKind.u64.wrap ((n : Int) * 8) := by rw [IntKind.wrap_u64]; omega
      rw [e2] at hP
      have hP' : Calls Try.prog 57 #[.slice A (1 + zerosN n) c, .int .u64 (IntKind.u64.wrap ((n : Int) * 8)), .int .i64 8] wr (OwnB wr (padB n)) := hP
      have HP := Lib.hid hP'
      have HB := Lib.hid hb
      clear hP hP' e2 e3 hown hb hlt hj
      go_wp2_with (go_at_call 57; refine (HP.out).mono ?_; rintro e w2 ⟨v2, rfl, ho2, hb2⟩)
      go_ret
      exact ⟨v2, rfl, own_base ho2 HB.out.size, HB.out.trans (hb2.mono HB.out.size)⟩
end Go.Proofs.Ytcoiaddjfeaciaa
end
section
namespace Go.Proofs.Ytcoiaddjfeaciaa
set_option maxRecDepth 100000
open Go.RowKit Go.Great
set_option linter.unusedVariables false
set_option linter.unusedSimpArgs false

/-- append onto a row of the call's own, from whatever source. -/
theorem run_append_keep {P : Program} (w : World) (base : Nat) (t tx ty e : TypeId) (i : TypeInfo) (z : Value) (bytes : Nat) (ht : P.underlying t = some (.slice e)) (hi : P.info? e = some i) (hz : i.zero = some z)
    (hsize : i.size = 1) (hby : i.bytes = bytes) (hzs : z.cells.size = 1)
    (v : Value) (n : Nat) (xs : List Value) (hown : w.ownsRow base e 1 v n xs)
    (x : Value) (m : Nat) (news : List Value) (hs : Src P 1 tx x m news w)
    (h63 : n + m ≤ maxLen) (hbytes : (n + m) * bytes ≤ 140737488355328) (hbase : base ≤ w.heap.size) :
    ∃ v' w', (Builtin.append_ #[t, tx] ty #[v, x]).run P w = .ok v' w' ∧ w'.ownsRow base e 1 v' (n + m) (xs ++ news) ∧ w.grownBy w' v.ownBlock ∧
      (v'.ownBlock = v.ownBlock ∨ (v'.ownBlock = some w.heap.size ∧ w.grownBy w' none)) := by
  subst hby
  have hl : news.length = m := by simpa using hs.newsLen
  have hxl : xs.length = n := by simpa using hown.1
  have hlen : (xs ++ news).length = (n + m) * 1 := by rw [List.length_append, hxl, hl, Nat.mul_one]
  have hs' : Src P i.size tx x m news w := by rw [hsize]; exact hs
  have grown : ∀ (old : Nat), old < n + m → ∀ (row : Option Nat),
      (w.drew.alloc (.cells ((xs ++ news).toArray ++ Builtin.zeroCells z.cells (grownCap w (n + m) old e - (n + m))) e)).ownsRow base e 1
        (.slice (some ⟨w.heap.size, 0, none⟩) (n + m) (grownCap w (n + m) old e)) (n + m) (xs ++ news) ∧
      w.grownBy (w.drew.alloc (.cells ((xs ++ news).toArray ++ Builtin.zeroCells z.cells (grownCap w (n + m) old e - (n + m))) e)) row := by
    intro old ho row
    have hge := grownCap_ge w (n + m) old e
    have hcm : grownCap w (n + m) old e ≤ maxLen := grownCap_le_maxLen w (n + m) old e h63
    refine ⟨⟨hlen, .inr ⟨w.heap.size, _, _, rfl, hbase, heap_alloc_new w.drew _, hge, hcm, ?_, ?_⟩⟩, ⟨rfl, rfl, rfl, by simp, fun k hk _ => Below.heap_alloc w.drew _ k hk⟩⟩
    · simp only [Array.size_append, List.size_toArray, size_zeroCells, hzs, List.length_append, hxl, hl]
      omega
    · simp only [Array.toList_append]
      rw [← hlen]
      exact List.take_left
  rcases hown.2 with ⟨rfl, rfl⟩ | ⟨g, cap, cur, rfl, hbg, hg, hnc, hcm, hcs, htake⟩
  · have hx : xs = [] := List.eq_nil_of_length_eq_zero hxl
    subst hx
    by_cases hm : m = 0
    · subst hm
      have hn : news = [] := List.eq_nil_of_length_eq_zero hl
      subst hn
      refine ⟨.slice none 0 0, w, ?_, World.ownsRow_nil w base e 1, ⟨rfl, rfl, rfl, Nat.le_refl _, fun _ _ _ => rfl⟩, Or.inl rfl⟩
      have hcl := hs'.cells
      rcases hs.kind with ⟨e', hk⟩ | hk <;> simp [Builtin.append_, run_underlying ht, run_underlying hk, sizeOf, typeInfo, hi, hs.len, hcl]
    · have hold : (Builtin.firstCells i.size 0 (.slice none 0 0)).run P w.drew = .ok ([] : List Value).toArray w.drew := run_firstCells_none w.drew i.size 0 0 0
      have hr := run_append_grow_src (P := P) w t tx ty e i z ht hi hz none 0 0 [] hold x m news hs' (by omega) (by simp only [maxLen] at h63; omega) (growslice_fits (by omega) hbytes)
      have hgr := grown 0 (by omega) (Value.ownBlock (.slice none 0 0))
      exact ⟨_, _, hr, hgr.1, hgr.2, Or.inr ⟨rfl, (grown 0 (by omega) none).2⟩⟩
  · by_cases hroom : n + m ≤ cap
    · have hst := run_storeCells_at P g (n * i.size) e news 0 cur w hg (by rw [hsize, hcs]; omega) hs.one
      have hr : (Builtin.append_ #[t, tx] ty #[.slice (some ⟨g, 0, none⟩) n cap, x]).run P w =
          .ok (.slice (some ⟨g, 0, none⟩) (n + m) cap) (w.setRow g (cur.toList.take (n * i.size) ++ news ++ cur.toList.drop (n * i.size + news.length)).toArray) := by
        simp only [Nat.add_zero] at hst
        rcases hs.kind with ⟨e', hk⟩ | hk <;> simp [Builtin.append_, run_underlying ht, run_underlying hk, sizeOf, typeInfo, hi, hs.len, hroom, hs'.cells, Addr.add_lit, hst]
      rw [hsize] at hr
      refine ⟨_, _, hr, ⟨hlen, .inr ⟨g, cap, _, rfl, hbg, setRow_heap w g cur _ e _ hg, hroom, hcm, ?_, ?_⟩⟩, ⟨rfl, rfl, rfl, by simp, fun k _ hk => setRow_other w g k _ (fun e => hk (by simp [Value.ownBlock, e]))⟩, Or.inl rfl⟩
      · simp only [List.size_toArray, List.length_append, List.length_take, List.length_drop, Array.length_toList]
        omega
      · rw [htake, ← hlen]
        exact List.take_left
    · have holds : (Builtin.firstCells i.size n (.slice (some ⟨g, 0, none⟩) n cap)).run P w.drew = .ok xs.toArray w.drew :=
        run_firstCells_some w.drew i.size n ⟨g, 0, none⟩ n cap xs (by rw [hsize]; exact hown.1) (hown.cells (g := g) rfl)
      have hr := run_append_grow_src (P := P) w t tx ty e i z ht hi hz (some ⟨g, 0, none⟩) n cap xs holds x m news hs' (by omega) (by simp only [maxLen] at h63; omega) (growslice_fits (by omega) hbytes)
      have hgr := grown cap (by omega) (Value.ownBlock (.slice (some ⟨g, 0, none⟩) n cap))
      exact ⟨_, _, hr, hgr.1, hgr.2, Or.inr ⟨rfl, (grown cap (by omega) none).2⟩⟩

theorem wp_append_keep {P : Program} (w : World) {o : Oper} {a : Act} {K : Act → World → Prop} {Q : Exit → Act → World → Prop} (s x : Operand) (t tx : TypeId)
    (ho : o.op = .call { callee := .builtin .append, args := #[s, x], argTypes := #[t, tx] })
    (base : Nat) (e : TypeId) (i : TypeInfo) (z : Value) (bytes : Nat) (ht : P.underlying t = some (.slice e)) (hi : P.info? e = some i) (hz : i.zero = some z)
    (hsize : i.size = 1) (hby : i.bytes = bytes) (hzs : z.cells.size = 1)
    (v : Value) (n : Nat) (xs : List Value) (hs : a.eval s = v) (hown : w.ownsRow base e 1 v n xs)
    (y : Value) (m : Nat) (news : List Value) (hx : a.eval x = y) (hr : Src P 1 tx y m news w)
    (h63 : n + m ≤ maxLen) (hbytes : (n + m) * bytes ≤ 140737488355328) (hbase : base ≤ w.heap.size)
    (h : ∀ v' w', w'.ownsRow base e 1 v' (n + m) (xs ++ news) → w.grownBy w' v.ownBlock → (v'.ownBlock = v.ownBlock ∨ (v'.ownBlock = some w.heap.size ∧ w.grownBy w' none)) → K (a.put o.dst v') w') : o.wp P a w K Q := by
  obtain ⟨v', w', hrun, h2, h3, h4⟩ := run_append_keep (P := P) w base t tx o.type e i z bytes ht hi hz hsize hby hzs v n xs hown y m news hr h63 hbytes hbase
  unfold Oper.wp execOp
  simp only [ho, resolve, invoke, builtin, Sem.run_bind, Sem.run_pure, Result.andThen_ok, List.map_toArray, List.map_cons, List.map_nil, hs, hx, hrun]
  exact h v' w' h2 h3 h4

theorem step_append_keep {P : Program} (w : World) {ops : Array Oper} {o : Oper} {a : Act} {K : Act → World → Prop} {Q : Exit → Act → World → Prop} {E : Prop} (hgd : o.guard = none) (dd : Nat) (hd : o.dst = some dd) (s x : Operand) (t tx : TypeId)
    (ho : o.op = .call { callee := .builtin .append, args := #[s, x], argTypes := #[t, tx] })
    (base : Nat) (e : TypeId) (i : TypeInfo) (z : Value) (bytes : Nat) (ht : P.underlying t = some (.slice e)) (hi : P.info? e = some i) (hz : i.zero = some z)
    (hsize : i.size = 1) (hby : i.bytes = bytes) (hzs : z.cells.size = 1)
    (v : Value) (n : Nat) (xs : List Value) (hs : a.eval s = v) (hown : w.ownsRow base e 1 v n xs)
    (y : Value) (m : Nat) (news : List Value) (hx : a.eval x = y) (hr : Src P 1 tx y m news w)
    (h63 : n + m ≤ maxLen) (hbytes : (n + m) * bytes ≤ 140737488355328) (hbase : base ≤ w.heap.size)
    (h : ∀ v' w', w'.ownsRow base e 1 v' (n + m) (xs ++ news) → w.grownBy w' v.ownBlock → (v'.ownBlock = v.ownBlock ∨ (v'.ownBlock = some w.heap.size ∧ w.grownBy w' none)) → K (a.put (some dd) v') w') :
    if Region.wanted o (yielded ops a.tmps) = true then Oper.wp P o a w K Q else E := by
  have hw : Region.wanted o (yielded ops a.tmps) = true := by simp [Region.wanted, hgd]
  rw [if_pos hw]
  exact wp_append_keep w s x t tx ho base e i z bytes ht hi hz hsize hby hzs v n xs hs hown y m news hx hr h63 hbytes hbase (by rw [hd]; exact h)

/-- What was there stays there. -/
theorem own_keeps {w w' : World} {base g n c : Nat} {e : TypeId} {v' : Value} {xs news : List Value} {m : Nat} (hown : w.ownsRow base e 1 (.slice (some ⟨g, 0, none⟩) n c) n xs) (h2 : w'.ownsRow base e 1 v' (n + m) (xs ++ news))
    (hat : v'.ownBlock = Value.ownBlock (.slice (some ⟨g, 0, none⟩) n c) ∨ (v'.ownBlock = some w.heap.size ∧ w.grownBy w' none)) (i : Nat) (hi : i < n) : w'.cell? ⟨g, i, none⟩ = w.cell? ⟨g, i, none⟩ := by
  have hl := hown.1
  have h0 : w.cell? ⟨g, i, none⟩ = xs[i]? := hown.cellAt i (by omega)
  rcases hat with hat | ⟨_, hg⟩
  · rcases h2.2 with ⟨rfl, hn⟩ | ⟨g2, cap, cur, rfl, _⟩
    · omega
    · have : g2 = g := by simpa [Value.ownBlock] using hat
      subst this
      rw [h2.cellAt i (by omega), h0, List.getElem?_append_left (by omega)]
  · have hlt : g < w.heap.size := (hown.lt g rfl).2
    have := (Below.refl w.heap.size w).grown hg (Nat.le_refl _) (fun k hk => by cases hk)
    exact this.cell (p := ⟨g, i, none⟩) hlt

theorem src_u32 {P : Program} {t e' : TypeId} (hk : P.underlying t = some (.slice e')) (w : World) (e : TypeId) (n : Int) :
    Src P 1 t (.slice (some ⟨w.heap.size, 0, none⟩) 1 1) 1 (ucells [n]) (w.alloc (.cells #[.int .u32 n] e)) := by
  refine Src.ofSlice _ hk _ 1 1 (ucells [n]) rfl (fun j u hu => ?_) (ucells_one _)
  match j, hu with
  | 0, hu =>
    simp [ucells] at hu
    subst hu
    have e0 : (⟨w.heap.size, 0, none⟩ : Addr).add 0 = ⟨w.heap.size, 0, none⟩ := addr_add _ _ _
    rw [e0, cell_of_row _ w.heap.size 0 _ e (0, 0) (heap_alloc_new w _)]
    rfl
  | j + 1, hu => simp [ucells] at hu

def RWRel (w : World) (xs : List UInt8) (v i : Value) (wr : World) : Prop :=
  ∃ (j : Nat) (A : Option Addr) (c : Nat), j ≤ 80 ∧ i = .int .i64 (j : Int) ∧ v = .slice A j c ∧ wr.ownsRow w.heap.size 86 1 (.slice A j c) j (ucells (schI xs j)) ∧ Below w.heap.size w wr
theorem RWRel.step {w wr : World} {xs : List UInt8} {A : Option Addr} {c j : Nat} (hj : j < 80) (hown : wr.ownsRow w.heap.size 86 1 (.slice A j c) j (ucells (schI xs j))) (hb : Below w.heap.size w wr) (n : Int) (hn : n = nextI xs (schI xs j) j) :
    ∀ v2 w2, w2.ownsRow w.heap.size 86 1 v2 (j + 1) (ucells (schI xs j) ++ ucells [n]) → (wr.alloc (.cells #[.int .u32 n] 86)).grownBy w2 (Value.ownBlock (.slice A j c)) → RWRel w xs v2 (.int .i64 ((j : Int) + 1)) w2 := by
  intro v2 w2 h2 g2
  obtain ⟨A2, c2, rfl⟩ := slice_of_own h2
  refine ⟨j + 1, A2, c2, by omega, by go_num, rfl, ?_, (hb.alloc hb.size _).grown g2 (by have := hb.size; simp; omega) (fun b hbb => (hown.lt b hbb).1)⟩
  subst hn
  rw [show schI xs (j + 1) = schI xs j ++ [nextI xs (schI xs j) j] from rfl]
  rw [show ucells (schI xs j ++ [nextI xs (schI xs j) j]) = ucells (schI xs j) ++ ucells [nextI xs (schI xs j) j] from by simp [ucells]]
  exact h2

end Go.Proofs.Ytcoiaddjfeaciaa
end
section
namespace Go.Proofs.Ytcoiaddjfeaciaa
set_option maxRecDepth 100000
set_option maxHeartbeats 1000000
open Go.RowKit

def digL (n : Nat) : UInt8 := if n < 10 then UInt8.ofNat (48 + n) else UInt8.ofNat (87 + n)
def hexL (x : UInt8) : List UInt8 := [digL (x.toNat / 16), digL (x.toNat % 16)]
def textL (xs : List UInt8) : List UInt8 := xs.flatMap hexL
theorem textL_length (xs : List UInt8) : (textL xs).length = 2 * xs.length := by
  induction xs with
  | nil => rfl
  | cons x xs ih =>
    simp only [textL, List.flatMap_cons, List.length_append, List.length_cons] at ih ⊢
    rw [ih]
    simp only [hexL, List.length_cons, List.length_nil]
    omega
theorem textL_take (xs : List UInt8) (j : Nat) (hj : j < xs.length) : textL (xs.take (j + 1)) = textL (xs.take j) ++ hexL (xs.getD j 0) := by
  have h : xs.take (j + 1) = xs.take j ++ [xs[j]] := by rw [List.take_add_one, List.getElem?_eq_getElem hj]; rfl
  unfold textL
  rw [h, List.flatMap_append, List.flatMap_cons, List.flatMap_nil, List.append_nil, List.getD_eq_getElem?_getD, List.getElem?_eq_getElem hj]
  rfl
theorem src_two {P : Program} {t e' : TypeId} (hk : P.underlying t = some (.slice e')) (w : World) (e : TypeId) (n m : Int) (a b : UInt8) (h : n = (a.toNat : Int)) (h' : m = (b.toNat : Int)) :
    Src P 1 t (.slice (some ⟨w.heap.size, 0, none⟩) 2 2) 2 (bcells [a, b]) (w.alloc (.cells #[.int .u8 n, .int .u8 m] e)) := by
  subst h
  subst h'
  refine Src.ofSlice _ hk _ 2 2 (bcells [a, b]) rfl (fun j u hu => ?_) (bcells_one _)
  match j, hu with
  | 0, hu =>
    simp [bcells] at hu
    subst hu
    simp [Addr.add]
  | 1, hu =>
    simp [bcells] at hu
    subst hu
    simp [Addr.add]

theorem and15 : ∀ z : Fin 256, bits .and .u8 (z.val : Int) 15 = ((z.val % 16 : Nat) : Int) := by decide +kernel
theorem and15' (z : UInt8) : bits .and .u8 (z.toNat : Int) 15 = ((z.toNat % 16 : Nat) : Int) := and15 ⟨z.toNat, z.toNat_lt⟩
theorem dig_fin : ∀ q, q < 16 → (([48, 49, 50, 51, 52, 53, 54, 55, 56, 57, 97, 98, 99, 100, 101, 102] : List UInt8).getD q 0).toNat = (digL q).toNat := by decide
theorem dig_at (q : Nat) (hq : q < 16) (h : q < (⟨#[48, 49, 50, 51, 52, 53, 54, 55, 56, 57, 97, 98, 99, 100, 101, 102]⟩ : ByteArray).size) : (((⟨#[48, 49, 50, 51, 52, 53, 54, 55, 56, 57, 97, 98, 99, 100, 101, 102]⟩ : ByteArray)[q]'h).toNat : Int) = ((digL q).toNat : Int) := by
  rw [ba_get]
  exact congrArg Int.ofNat (dig_fin q hq)
def TextRel (w : World) (xs : List UInt8) (v i : Value) (wr : World) : Prop :=
  ∃ j : Nat, j ≤ 20 ∧ i = .int .i64 (j : Int) ∧ wr.ownsRow w.heap.size 5 1 v (2 * j) (bcells (textL (xs.take j))) ∧ Below w.heap.size w wr

theorem run_index26 (xs : List UInt8) (hx : xs.length = 20) (j : Nat) (hj : j < 20) (W : World) : (Instr.index 26 (.agg (bcells xs).toArray) (.int .i64 (j : Int))).run Try.prog W = .ok (.int .u8 ((xs.getD j 0).toNat : Int)) W := by
  have hl : j < xs.length := by omega
  have hi : (0 : Int) ≤ (j : Int) ∧ (j : Int) < ((20 : Nat) : Int) := by omega
  have hp : (part 5 (bcells xs).toArray j).run Try.prog W = .ok (.int .u8 ((xs.getD j 0).toNat : Int)) W := by
    have ha : (isAgg 5).run Try.prog W = .ok false W := by kernel_rfl
    simp [part, ha, bcells, List.getElem?_eq_getElem hl]
  obtain ⟨i0, hi0, hz0, hz1, hz2⟩ := info_parts info5
  have hu : Try.prog.underlying 26 = some (.array 20 5) := by kernel_rfl
  simp [Instr.index, asIntOf, run_underlying hu, hj, sizeOf, typeInfo, hi0, hz1, hp]

theorem make40 : ∃ C : Array Value, C.size = 40 ∧ ∀ W, (Instr.makeSlice 22 (.int .i64 0) (.int .i64 40)).run Try.prog W = .ok (.slice (some ⟨W.heap.size, 0, none⟩) 0 40) (W.alloc (.cells C 5)) := by
  obtain ⟨i0, hi, hz0, hz1, hz2⟩ := info_parts info5
  refine ⟨madeCells (Value.int .u8 0).cells (40 * i0.size), by simp [madeCells, hz1], fun W => ?_⟩
  exact run_make (P := Try.prog) W 22 5 i0 _ Try.underlying22 hi hz0 .i64 .i64 0 40 (by omega) (by omega) (by rw [hz2]; omega) (by omega)

theorem text_any (xs : List UInt8) (hx : xs.length = 20) (w : World) :
    Calls Try.prog 37 #[.agg (bcells xs).toArray] w fun e w' => e = .returned (.string (bstr (textL xs))) ∧ Below w.heap.size w w' := by
  have hid := fun j hj W => run_index26 xs hx j hj W
  obtain ⟨C, hC, hmk⟩ := make40
  obtain ⟨X, hX⟩ : ∃ X, X = (bcells xs).toArray := ⟨_, rfl⟩
  have hk : (loadVar 26 ⟨w.heap.size, 0, none⟩).run Try.prog ((w.alloc (.cells X 26)).alloc (.cells C 5)) = .ok (.agg X) ((w.alloc (.cells X 26)).alloc (.cells C 5)) := by
    rw [hX]
    exact load26 hx (heap2 w _ _).1
  simp only [← hX] at hid ⊢
  have HID := Lib.hid hid
  have HK := Lib.hid hk
  have HX := Lib.hid hx
  clear hid hk hx hX
  go_enter Try.func37, Try.ntmps37
  go_wp2_with ((with_reducible refine wpList_loadV (op := ⟨some 7, _, _, _, _, _⟩) rfl 26 (.tmp 1) rfl _ ?_ _ HK.out ?_); rfl)
  have R0 : TextRel w xs (.slice (some ⟨w.heap.size + 1, 0, none⟩) 0 40) (.int .i64 0) ((w.alloc (.cells X 26)).alloc (.cells C 5)) := by
    refine ⟨0, by omega, rfl, ?_, (heap2 w _ _).2.2⟩
    have := World.ownsRow_made (e := 5) (size := 1) (w.alloc (.cells X 26)) C 40 (base := w.heap.size) (by simp) (by simp [maxLen]) (by simp [hC])
    simpa [textL, bcells] using this
  have HR0 := Lib.hid R0
  clear R0 HK
  obtain ⟨i0, hi, hz0, hz1, hz2⟩ := info_parts info5
  go_loopw [3, 8] (TextRel w xs) (fun _ i _ => 20 - (intOf i).toNat)
  case atStart => exact HR0.out
  case round =>
    obtain ⟨j, hj, rfl, hown, hb⟩ := hrel
    clear HR0
    by_cases hlt : j < 20
    · have hidx := fun W => HID.out j hlt W
      have hb8 := (xs.getD j 0).toNat_lt
      obtain ⟨q, hq⟩ : ∃ q, (xs.getD j 0).toNat / 16 = q := ⟨_, rfl⟩
      obtain ⟨r, hr⟩ : ∃ r, (xs.getD j 0).toNat % 16 = r := ⟨_, rfl⟩
      have hbq : ((xs.getD j 0).toNat : Int) / 16 = (q : Int) := by omega
      have hbr : bits .and .u8 ((xs.getD j 0).toNat : Int) 15 = (r : Int) := by rw [← hr]; exact and15' _
      have q16 : (q : Int) < 16 := by omega
      have r16 : (r : Int) < 16 := by omega
      have HT := Lib.hid (textL_take xs j (by have := HX.out; omega))
      have HH : Hid (hexL (xs.getD j 0) = [digL q, digL r]) := Lib.hid (by unfold hexL; rw [hq, hr])
      generalize (xs.getD j 0).toNat = b at hidx hbq hbr
      clear hb8 hq hr
      go_wp2
      refine wp_region_any (by kernel_rfl) ?_
      try (change wpAny _ _ _ _ _ _ _ (World.drew _))
      refine take_at 0 11 (v := ?_) rfl rfl (by kernel_rfl) (by kernel_rfl) (by kernel_rfl) (fun _ _ _ h => h) (Or.inl ⟨by rfl, ?_⟩) ?_
      rotate_left
      · (intro wx; go_simp) <;> with_reducible rfl
      simp only [Act.put, List.setIfInBounds_toArray, List.set_cons_zero, List.set_cons_succ]
      refine take_at 1 12 (v := ?_) rfl rfl (by kernel_rfl) (by kernel_rfl) (by kernel_rfl) (fun _ _ _ h => h) (Or.inl ⟨by rfl, ?_⟩) ?_
      rotate_left
      · (intro wx; go_simp) <;> with_reducible rfl
      simp only [Act.put, List.setIfInBounds_toArray, List.set_cons_zero, List.set_cons_succ]
      refine take_at 2 13 (v := ?_) rfl rfl (by kernel_rfl) (by kernel_rfl) (by kernel_rfl) (fun _ _ _ h => h) (Or.inl ⟨by rfl, ?_⟩) ?_
      rotate_left
      · (intro wx; go_simp) <;> with_reducible rfl
      simp only [Act.put, List.setIfInBounds_toArray, List.set_cons_zero, List.set_cons_succ]
      refine take_at 3 14 (v := ?_) rfl rfl (by kernel_rfl) (by kernel_rfl) (by kernel_rfl) (fun _ _ _ h => h) (Or.inl ⟨by rfl, ?_⟩) ?_
      rotate_left
      · (intro wx; go_simp) <;> with_reducible rfl
      simp only [Act.put, List.setIfInBounds_toArray, List.set_cons_zero, List.set_cons_succ]
      refine take_at 4 15 (v := ?_) rfl rfl (by kernel_rfl) (by kernel_rfl) (by kernel_rfl) (fun _ _ _ h => h) (Or.inl ⟨by rfl, ?_⟩) ?_
      rotate_left
      · (intro wx; go_simp) <;> with_reducible rfl
      simp only [Act.put, List.setIfInBounds_toArray, List.set_cons_zero, List.set_cons_succ]
      refine take_at 5 16 (v := ?_) rfl rfl (by kernel_rfl) (by kernel_rfl) (by kernel_rfl) (fun _ _ _ h => h) (Or.inl ⟨by rfl, ?_⟩) ?_
      rotate_left
      · (intro wx; go_simp) <;> with_reducible rfl
      simp only [Act.put, List.setIfInBounds_toArray, List.set_cons_zero, List.set_cons_succ]
      refine take_at 6 17 (v := ?_) rfl rfl (by kernel_rfl) (by kernel_rfl) (by kernel_rfl) (fun _ _ _ h => h) (Or.inl ⟨by rfl, ?_⟩) ?_
      rotate_left
      · (intro wx; go_simp) <;> with_reducible rfl
      simp only [Act.put, List.setIfInBounds_toArray, List.set_cons_zero, List.set_cons_succ]
      refine wpAny_ready (rs := [7]) (by kernel_rfl) (by simp) ?_
      refine AllReady.cons rfl (fun K hK => ?_) ?_
      · go_simp
        refine hK _ _ ?_
        clear hK K
        refine wpAny_ready (rs := [8]) (by kernel_rfl) (by simp) ?_
        refine AllReady.cons rfl (fun K hK => ?_) ?_
        · refine step_append_keep _ rfl 19 rfl (.tmp 11) (.tmp 18) _ _ rfl w.heap.size 5 i0 _ 1 Try.underlying22 hi hz0 hz1 hz2 rfl u3 (2 * j) (bcells (textL (xs.take j))) rfl (hown.alloc _) (.slice (some ⟨wr.heap.size, 0, none⟩) 2 2) 2 (bcells [digL q, digL r]) rfl (src_two Try.underlying22 wr.drew 5 _ _ _ _ (dig_at q (by omega) _) (dig_at r (by omega) _)) (by simp only [maxLen]; omega) (by omega) (by have := hb.size; simp; omega) ?_
          intro v2 w2 ho2 hg2 hat2
          refine hK _ _ ?_
          have hr2 : TextRel w xs v2 (.int .i64 ((j : Int) + 1)) w2 := by
            refine ⟨j + 1, by omega, by go_num, ?_, ?_⟩
            · rw [HT.out, HH.out, bcells_append]
              exact ho2
            · exact (hb.drew.alloc (by have := hb.size; simp; omega) _).grown hg2 (by have := hb.size; simp; omega) (fun b hbb => (hown.lt b hbb).1)
          have HREL := Lib.hid hr2
          clear hK K ho2 hg2 hat2 hr2 hown
          simp only [Act.put, List.setIfInBounds_toArray, List.set_cons_zero, List.set_cons_succ]
          refine take_at 9 3 (v := ?_) rfl rfl (by kernel_rfl) (by kernel_rfl) (by kernel_rfl) (fun _ _ _ h => h) (Or.inl ⟨by rfl, ?_⟩) ?_
          rotate_left
          · (intro wx; go_simp) <;> with_reducible rfl
          simp only [Act.put, List.setIfInBounds_toArray, List.set_cons_zero, List.set_cons_succ]
          refine wpAny_done (by kernel_rfl) ?_ _
          go_wp2
          go_roundw
          case rel => exact HREL.out
          case measure => simp [intOf]; omega
        exact AllReady.nil
      exact AllReady.nil
    · obtain rfl : j = 20 := by omega
      have hxl := HX.out
      have e : xs.take 20 = xs := by rw [← hxl]; exact List.take_length
      rw [e] at hown
      have hcv := run_convert_own 22 9 5 Try.underlying22 Try.underlying5 Try.underlying9 hown
      clear e hxl HID
      go_wp2
      go_ret
      exact ⟨rfl, hb⟩
end Go.Proofs.Ytcoiaddjfeaciaa
end
section
namespace Go.Proofs.Ytcoiaddjfeaciaa
set_option maxRecDepth 100000
set_option maxHeartbeats 200000
open Go.RowKit Go.Great

/-- A text's bytes, as a new slice. -/
theorem str_bytes (xs : List UInt8) (w : World) : ∃ c W', (convert 9 22 (.string (bstr xs))).run Try.prog w = .ok (.slice (some ⟨w.heap.size, 0, none⟩) xs.length c) W' ∧ BAt W' W'.heap.size (some ⟨w.heap.size, 0, none⟩) xs ∧ Below w.heap.size w W' ∧ xs.length ≤ c := by
  have hr := Lib.run_convert_string_bytes (P := Try.prog) w 9 22 5 (bstr xs) Try.underlying9 Try.underlying22 Try.underlying5
  refine ⟨_, _, hr, ?_, ?_, ?_⟩
  · right
    refine ⟨w.heap.size, 0, rfl, by rw [Lib.bytesWorld_size]; omega, fun j hj => ?_⟩
    rw [Nat.zero_add, Lib.bytesWorld_cell w 5 (bstr xs) j hj]
    simp [bstr, List.getElem?_eq_getElem hj]
  · refine ⟨rfl, rfl, rfl, by rw [Lib.bytesWorld_size]; omega, fun k hk => Lib.bytesWorld_at_old w 5 (bstr xs) k hk⟩
  · exact grownCap_ge w xs.length 0 5

theorem of_any (xs : List UInt8) (hl : xs.length ≤ 900000) (w : World) :
    Calls Try.prog 39 #[.string (bstr xs)] w fun e w' => e = .returned (.agg (bcells (shaI xs)).toArray) ∧ Below w.heap.size w w' := by
  obtain ⟨Z, hZ⟩ : ∃ Z, Z = bcells (List.replicate 20 0) := ⟨_, rfl⟩
  have hz := fun W => zero61 W
  rw [← hZ] at hz
  have hZl : Z.length = 20 := by rw [hZ, bcells_length, List.length_replicate]
  obtain ⟨c, W1, hcv, hx, hb1, hc⟩ := str_bytes xs (w.alloc (.cells Z.toArray 26))
  have HS := Lib.hid (sum_any _ c xs hx hc hl)
  obtain ⟨S, hS⟩ : ∃ S, S = bcells (shaI xs) := ⟨_, rfl⟩
  have hSl : S.length = 20 := by rw [hS, bcells_length]; exact idI_length _
  have hone : ∀ u ∈ S, u.oneCell' = true := by rw [hS]; exact bcells_one _
  rw [← hS] at HS
  have h0 : (w.alloc (.cells Z.toArray 26)).heap[w.heap.size]? = some (.cells Z.toArray 26 (0, 0)) := heap_alloc_new w _
  have hs1 := hb1.size
  have hrow : ∀ W2, Below W1.heap.size W1 W2 → W2.heap[w.heap.size]? = some (.cells Z.toArray 26 (0, 0)) := fun W2 hb => by
    have l0 : w.heap.size < (w.alloc (.cells Z.toArray 26)).heap.size := by simp
    rw [hb.block _ (by omega), hb1.block _ l0]
    exact h0
  have hB : ∀ W2, Below W1.heap.size W1 W2 → Below w.heap.size w W2 := fun W2 hb => by
    have l0 : w.heap.size ≤ (w.alloc (.cells Z.toArray 26)).heap.size := by simp
    exact ((Below.refl _ w).alloc (Nat.le_refl _) _).trans ((hb1.mono l0).trans (hb.mono (by omega)))
  have hsz : S.toArray.size = 20 := (List.size_toArray).trans hSl
  have T1 : Hid ((Try.prog.info? 26).map (·.size) = some S.toArray.size) := Lib.hid (by rw [hsz]; exact size61)
  have R2 := Lib.hid hrow
  have T6 : Hid (Z.toArray.size = S.toArray.size) := Lib.hid (by rw [hsz, List.size_toArray, hZl])
  have T3 : Hid (S.toArray.all (·.oneCell') = true) := Lib.hid (all_oneCell_toArray hone)
  have T4 : Hid ((Try.prog.info? 26).map (·.size) = some S.length) := Lib.hid (by rw [hSl]; exact size61)
  have HBB := Lib.hid hB
  have HSS := Lib.hid hS
  have e1 : (w.alloc (.cells Z.toArray 26)).heap.size = w.heap.size + 1 := by simp
  rw [e1] at hcv HS
  clear e1
  obtain ⟨s, hs⟩ : ∃ s, s = bstr xs := ⟨_, rfl⟩
  rw [← hs] at hcv ⊢
  generalize xs.length = n at hcv HS
  clear hs
  clear hZ hZl hx hb1 hc hSl hone h0 hs1 hrow hB hl hsz hS
  go_enter Try.func39, Try.ntmps39
  go_wp2_with (first
    | (go_at_call 13; refine (HS.out).mono ?_; rintro e w2 ⟨rfl, hb2⟩)
    | ((with_reducible refine wpList_store_row rfl 26 (.tmp 2) (.tmp 5) rfl w.heap.size S.toArray ?_ ?_ 26 Z.toArray (R2.out _ hb2) T1.out T6.out T3.out ?_); rfl; rfl))
  refine bodyPost_ret (v := .agg S.toArray) ?_ rfl ?_
  · exact results_cell1 (p := 2) (ty := 26) rfl _ _ w.heap.size 0 S _ rfl (row_range (setRow_heap _ _ _ S.toArray 26 (0, 0) (R2.out _ hb2))) Try.underlying26 rfl T4.out
  · exact ⟨by rw [← HSS.out], below_setRow (HBB.out _ hb2) (Nat.le_refl _) _⟩
end Go.Proofs.Ytcoiaddjfeaciaa
end
section
namespace Go.Proofs.Ytcoiaddjfeaciaa
set_option maxRecDepth 100000
set_option maxHeartbeats 200000
open Go.RowKit Go.Great

theorem abc_text : ∃ T : List UInt8, textL (shaI [97, 98, 99]) = [97, 57, 57, 57, 51, 101, 51, 54] ++ T ∧ T.length = 32 := by
  have h := List.take_append_drop 4 (shaI [97, 98, 99])
  rw [sha_abc] at h
  have hl : (shaI [97, 98, 99]).length = 20 := idI_length _
  refine ⟨textL ((shaI [97, 98, 99]).drop 4), ?_, by rw [textL_length, List.length_drop, hl]⟩
  rw [← h]
  rfl
theorem built128 (W : World) : (Instr.build 26 #[(0, .int .u8 128)]).run Try.prog W = .ok (.agg (bcells (128 :: List.replicate 19 0)).toArray) W := run_build W 26 _ _ (by kernel_rfl)
theorem built129 (W : World) : (Instr.build 26 #[(0, .int .u8 129)]).run Try.prog W = .ok (.agg (bcells (129 :: List.replicate 19 0)).toArray) W := run_build W 26 _ _ (by kernel_rfl)
theorem pfx_ex : pfxN (128 :: List.replicate 19 0) (129 :: List.replicate 19 0) = 7 := by decide +kernel

theorem wpList_buildV {P : Program} {ops : Array Oper} {rest : List Oper} {o : Oper} {a : Act} {w : World} {Q : Exit → Act → World → Prop} (hg : o.guard = none) (t : TypeId) (parts : Array (Nat × Operand)) (ho : o.op = .build t parts) (vs : Array (Nat × Value))
    (hv : (parts.map fun (i, x) => (i, a.eval x)) = vs) (v : Value) (hr : (Instr.build t vs).run P w = .ok v w) (h : wpList P ops Q rest (a.put o.dst v) w) : wpList P ops Q (o :: rest) a w :=
  wpList_plain hg fun _ hK => by
    unfold Oper.wp execOp
    simp only [ho, hv, Sem.run_bind, hr, Result.andThen_ok]
    exact hK _ _ h

theorem ext8 (T : List UInt8) : (((bstr ([97, 57, 57, 57, 51, 101, 51, 54] ++ T)).extract 0 8).toList == [97, 57, 57, 57, 51, 101, 51, 54]) = true := by
  have h : (bstr ([97, 57, 57, 57, 51, 101, 51, 54] ++ T)).extract 0 8 = bstr [97, 57, 57, 57, 51, 101, 51, 54] := by
    apply ByteArray.ext
    rw [ByteArray.data_extract]
    simp [bstr]
  rw [h]
  decide +kernel

theorem ilives_any (w : World) : Calls Try.prog 34 #[] w fun e w' => e = .returned (.bool true) ∧ Below w.heap.size w w' := by
  obtain ⟨T, hT, hTl⟩ := abc_text
  have HO := Lib.hid (fun W => of_any [97, 98, 99] (by simp) W)
  have HT := Lib.hid (fun W => text_any (shaI [97, 98, 99]) (idI_length _) W)
  have HP := Lib.hid (fun W => prefix_any (128 :: List.replicate 19 0) (129 :: List.replicate 19 0) (by simp) (by simp) W)
  have b1 := fun W => built128 W
  have b2 := fun W => built129 W
  rw [pfx_ex] at HP
  rw [hT] at HT
  have e1 : bstr [97, 98, 99] = ⟨#[97, 98, 99]⟩ := rfl
  rw [e1] at HO
  have hs : (bstr ([97, 57, 57, 57, 51, 101, 51, 54] ++ T)).size = 40 := by
    show ([97, 57, 57, 57, 51, 101, 51, 54] ++ T : List UInt8).length = 40
    rw [List.length_append, hTl]
    rfl
  have hx8 := ext8 T
  generalize bstr ([97, 57, 57, 57, 51, 101, 51, 54] ++ T) = s at HT hs hx8
  generalize (bcells (shaI [97, 98, 99])).toArray = S at HT HO
  generalize (bcells (128 :: List.replicate 19 0)).toArray = X at HP b1
  generalize (bcells (129 :: List.replicate 19 0)).toArray = Y at HP b2
  have B1 := Lib.hid b1
  have B2 := Lib.hid b2
  clear hT hTl e1 b1 b2
  go_enter Try.func34, Try.ntmps34
  go_wp2_with (first
    | (go_at_call 39; refine (HO.out _).mono ?_; rintro e w1 ⟨rfl, hb1⟩)
    | (go_at_call 37; refine (HT.out _).mono ?_; rintro e w2 ⟨rfl, hb2⟩)
    | (go_at_call 32; refine (HP.out _).mono ?_; rintro e w3 ⟨rfl, hb3⟩)
    | ((with_reducible refine wpList_buildV (o := ⟨some 4, _, _, _, _, _⟩) rfl 26 _ rfl _ ?_ _ (B1.out _) ?_); (simp only [List.map_toArray, List.map_cons, List.map_nil]; rfl))
    | ((with_reducible refine wpList_buildV (o := ⟨some 5, _, _, _, _, _⟩) rfl 26 _ rfl _ ?_ _ (B2.out _) ?_); (simp only [List.map_toArray, List.map_cons, List.map_nil]; rfl)))
  go_ret
  exact ⟨rfl, hb1.trans ((hb2.mono hb1.size).trans (hb3.mono (Nat.le_trans hb1.size hb2.size)))⟩
end Go.Proofs.Ytcoiaddjfeaciaa
end
section
namespace Go.Proofs.Ytcoiaddjfeaciaa
set_option maxRecDepth 100000
set_option maxHeartbeats 400000
open Go.RowKit Go.Great

theorem cmpL_vals (xs ys : List UInt8) : cmpL xs ys = 0 ∨ cmpL xs ys = 1 ∨ cmpL xs ys = -1 := by
  unfold cmpL
  repeat (first | split | simp)
theorem xor_len {a b : List UInt8} (ha : a.length = 20) (hb : b.length = 20) : (xorL a b).length = 20 := (xorL_length (ha.trans hb.symm)).trans ha

theorem quiet_buildV {P : Program} {B : Nat} {W0 : World} {o : Oper} {a : Act} {K : Act → Prop} (t : TypeId) (parts : Array (Nat × Operand)) (ho : o.op = .build t parts) (vs : Array (Nat × Value)) (hv : (parts.map fun (i, x) => (i, a.eval x)) = vs) (v : Value) (hr : ∀ W, (Instr.build t vs).run P W = .ok v W)
    (hk : K (a.put o.dst v)) : o.quiet P a (fun w' => ∃ n : Kept B W0, w' = n.val) K :=
  ⟨v, fun w ⟨n, hn⟩ => by
    subst hn
    unfold Oper.quietAt execOp
    simp only [ho, hv, Sem.run_bind, hr, Result.andThen_ok]
    exact ⟨rfl, rfl⟩, hk⟩

theorem far_walk (a b c : List UInt8) (ha : a.length = 20) (hb : b.length = 20) (hc : c.length = 20) (w : World) :
    Calls Try.prog 8 #[.agg (bcells a).toArray, .agg (bcells b).toArray, .agg (bcells c).toArray] w fun e w' => e = .returned (.bool true) ∧ Below w.heap.size w w' := by
  have p1 := fun W => prefix_any a b ha hb W
  have p2 := fun W => prefix_any b c hb hc W
  have p3 := fun W => prefix_any a c ha hc W
  have hthree := pfxN_three a b c (ha.trans hb.symm) (hb.trans hc.symm)
  have x1 := fun W => xor_any a b ha hb W
  have x2 := fun W => xor_any b a hb ha W
  have x3 := fun W => xor_any b c hb hc W
  have x4 := fun W => xor_any (xorL a b) (xorL b c) (xor_len ha hb) (xor_len hb hc) W
  have x5 := fun W => xor_any a c ha hc W
  rw [xorL_comm b a] at x2
  rw [xorL_three a b c (ha.trans hb.symm) (hb.trans hc.symm)] at x4
  have c1 := fun W => cmp_any a b ha hb W
  have c2 := fun W => cmp_any b a hb ha W
  have hneg := cmpL_neg a b (ha.trans hb.symm)
  have hv := cmpL_vals b a
  have hbz : ∀ W, (Instr.build 26 #[]).run Try.prog W = .ok (.agg (bcells (List.replicate 20 0)).toArray) W := fun W => built61 W
  have e1 := fun W => eq61 (xorL a b) (List.replicate 20 0) (xor_len ha hb) (by simp) W
  have e2 := fun W => eq61 a b ha hb W
  have e3 := fun W => eq61 (xorL a b) (xorL a b) (xor_len ha hb) (xor_len ha hb) W
  have e4 := fun W => eq61 (xorL a c) (xorL a c) (xor_len ha hc) (xor_len ha hc) W
  have hxz := xorL_zero 20 a b ha hb
  have hxe : (xorL a b == List.replicate 20 0) = (a == b) := by
    by_cases h : a = b
    · rw [beq_iff_eq.2 h, beq_iff_eq.2 (hxz.2 h)]
    · rw [beq_eq_false_iff_ne.2 h, beq_eq_false_iff_ne.2 (fun e => h (hxz.1 e))]
  simp only [hxe, beq_self_eq_true] at e1 e3 e4
  generalize (a == b) = eab at e1 e2
  obtain ⟨A, hA⟩ : ∃ A, A = (bcells a).toArray := ⟨_, rfl⟩
  obtain ⟨B, hB⟩ : ∃ B, B = (bcells b).toArray := ⟨_, rfl⟩
  obtain ⟨C, hC⟩ : ∃ C, C = (bcells c).toArray := ⟨_, rfl⟩
  obtain ⟨W0, hW0⟩ : ∃ W0, W0 = ((w.alloc (.cells A 26)).alloc (.cells B 26)).alloc (.cells C 26) := ⟨_, rfl⟩
  obtain ⟨h1, h2, h3, h4⟩ := heap3 w (.cells A 26) (.cells B 26) (.cells C 26)
  rw [← hW0] at h1 h2 h3 h4
  have hs0 : W0.heap.size = w.heap.size + 3 := by rw [hW0]; simp
  have HL1 : Hid (∀ n : Kept W0.heap.size W0, (loadVar 26 ⟨w.heap.size, 0, none⟩).run Try.prog n.val = .ok (.agg A) n.val) := Lib.hid (fun n => by
    rw [hA] at h1 ⊢
    exact load26 ha (kept_row h1 (by omega) n))
  have HL2 : Hid (∀ n : Kept W0.heap.size W0, (loadVar 26 ⟨w.heap.size + 1, 0, none⟩).run Try.prog n.val = .ok (.agg B) n.val) := Lib.hid (fun n => by
    rw [hB] at h2 ⊢
    exact load26 hb (kept_row h2 (by omega) n))
  have HL3 : Hid (∀ n : Kept W0.heap.size W0, (loadVar 26 ⟨w.heap.size + 1 + 1, 0, none⟩).run Try.prog n.val = .ok (.agg C) n.val) := Lib.hid (fun n => by
    rw [hC] at h3 ⊢
    exact load26 hc (kept_row h3 (by omega) n))
  simp only [← hA, ← hB, ← hC] at p1 p2 p3 x1 x2 x3 x5 c1 c2 e2 ⊢
  generalize (bcells (xorL a b)).toArray = X1 at x1 x2 x4 e1 e3
  generalize (bcells (xorL b c)).toArray = X2 at x3 x4
  generalize (bcells (xorL a c)).toArray = X3 at x4 x5 e4
  generalize (bcells (List.replicate 20 0)).toArray = Z at hbz e1
  rw [hneg] at c1
  generalize cmpL b a = k at c1 c2 hv
  generalize pfxN a b = m1 at p1 hthree
  generalize pfxN b c = m2 at p2 hthree
  generalize pfxN a c = m3 at p3 hthree
  have P1 := Lib.hid p1
  have P2 := Lib.hid p2
  have P3 := Lib.hid p3
  have X1' := Lib.hid x1
  have X2' := Lib.hid x2
  have X3' := Lib.hid x3
  have X4' := Lib.hid x4
  have X5' := Lib.hid x5
  have C1 := Lib.hid c1
  have C2 := Lib.hid c2
  have HW := Lib.hid hW0
  have HBL := Lib.hid h4
  have HZ := Lib.hid hbz
  have hk : k ≤ 1 ∧ -1 ≤ k := by omega
  have hk1 := hk.1
  have hk2 := hk.2
  clear p1 p2 p3 x1 x2 x3 x4 x5 c1 c2 h1 h2 h3 h4 hW0 hs0 hA hB hC hxz hxe hneg hbz ha hb hc hv hk
  go_enter Try.func8, Try.ntmps8
  go_upto_region 1 with fail
  rw [← HW.out]
  refine wp_region_kept W0.heap.size W0 (Below.refl _ _) (by kernel_rfl) (by kernel_rfl) ?_
  repeat (first
    | (go_big_quiet_want; (with_reducible refine quiet_loadV 26 (.tmp 3) rfl _ ?_ _ HL1.out ?_); rfl; simp only [Act.put, List.setIfInBounds_toArray, List.set_cons_zero, List.set_cons_succ]; go_big_quiet_on)
    | (go_big_quiet_want; (with_reducible refine quiet_loadV 26 (.tmp 4) rfl _ ?_ _ HL2.out ?_); rfl; simp only [Act.put, List.setIfInBounds_toArray, List.set_cons_zero, List.set_cons_succ]; go_big_quiet_on)
    | (go_big_quiet_want; (with_reducible refine quiet_loadV 26 (.tmp 5) rfl _ ?_ _ HL3.out ?_); rfl; simp only [Act.put, List.setIfInBounds_toArray, List.set_cons_zero, List.set_cons_succ]; go_big_quiet_on)
    | go_big_quiet_step (first | (go_at_call 32; with_reducible exact kept_of (Nat.le_refl _) P1.out _) | (go_at_call 32; with_reducible exact kept_of (Nat.le_refl _) P2.out _) | (go_at_call 32; with_reducible exact kept_of (Nat.le_refl _) P3.out _)))
  refine wpQuiet_nil ?_
  rintro _ ⟨⟨wk, hwk⟩, rfl⟩
  have HWK := Lib.hid hwk
  clear hwk P1 P2 P3
  have hcase : (m1 = m2 ∧ ¬ m3 < m1) ∨ (m2 = m3 ∧ m2 < m1) ∨ (m1 = m3 ∧ m1 < m2) := by omega
  clear hthree
  rcases hcase with ⟨rfl, n1⟩ | ⟨rfl, n1⟩ | ⟨rfl, n1⟩
  all_goals
    have n2 : ¬ m1 < m1 := by omega
    try (have n3 : ¬ m2 < m2 := by omega)
    try (have n4 : ¬ m2 = m1 := by omega)
    try (have n5 : ¬ m1 = m2 := by omega)
    try (have n6 : ¬ m2 < m1 := by omega)
    go_upto_region 4 with fail
    refine wp_region_kept W0.heap.size W0 HWK.out (by kernel_rfl) (by kernel_rfl) ?_
    repeat (first
      | (go_big_quiet_want; (with_reducible refine quiet_loadV 26 (.tmp 3) rfl _ ?_ _ HL1.out ?_); rfl; simp only [Act.put, List.setIfInBounds_toArray, List.set_cons_zero, List.set_cons_succ]; go_big_quiet_on)
      | (go_big_quiet_want; (with_reducible refine quiet_loadV 26 (.tmp 4) rfl _ ?_ _ HL2.out ?_); rfl; simp only [Act.put, List.setIfInBounds_toArray, List.set_cons_zero, List.set_cons_succ]; go_big_quiet_on)
      | (go_big_quiet_want; (with_reducible refine quiet_loadV 26 (.tmp 5) rfl _ ?_ _ HL3.out ?_); rfl; simp only [Act.put, List.setIfInBounds_toArray, List.set_cons_zero, List.set_cons_succ]; go_big_quiet_on)
      | (go_big_quiet_want; (with_reducible refine quiet_buildV 26 _ rfl _ ?_ _ HZ.out ?_); (simp only [List.map_toArray, List.map_nil]); simp only [Act.put, List.setIfInBounds_toArray, List.set_cons_zero, List.set_cons_succ]; go_big_quiet_on)
      | go_big_quiet_step (first
        | (go_at_call 28; with_reducible exact kept_of (Nat.le_refl _) X1'.out _)
        | (go_at_call 28; with_reducible exact kept_of (Nat.le_refl _) X2'.out _)
        | (go_at_call 28; with_reducible exact kept_of (Nat.le_refl _) X3'.out _)
        | (go_at_call 28; with_reducible exact kept_of (Nat.le_refl _) X4'.out _)
        | (go_at_call 28; with_reducible exact kept_of (Nat.le_refl _) X5'.out _)
        | (go_at_call 30; with_reducible exact kept_of (Nat.le_refl _) C1.out _)
        | (go_at_call 30; with_reducible exact kept_of (Nat.le_refl _) C2.out _)
        | (go_at_call 34; exact kept_of (Nat.le_refl _) ilives_any _)))
    refine wpQuiet_nil ?_
    rintro _ ⟨⟨wz, hwz⟩, rfl⟩
    go_wp2
    go_ret
    exact ⟨rfl, HBL.out.trans (hwz.mono HBL.out.size)⟩
end Go.Proofs.Ytcoiaddjfeaciaa
end
