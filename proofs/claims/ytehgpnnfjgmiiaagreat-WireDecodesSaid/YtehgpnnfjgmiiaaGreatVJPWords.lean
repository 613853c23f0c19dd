/- Words on slices of bytes for the walks of this seat: plain lemmas on memory, over any program. No condition. Contracts of the functions of package octet that make bytes, and of their references: what Put and Text put. Conditions: the bytes that come in are fewer than a million. Contract of Bit of package ident. Conditions: an id has 20 bytes. A reader of package octet in memory, and contracts of the calls that read: Num, Take, Text, Left, Bad, Done. Conditions: the bytes that are left are fewer than 900,000. A reader of the program and one of the reference side by side in memory. Conditions: the bytes are fewer than 900,000; a number that comes in is an int. Contract of Xor of package ident. Conditions: an id has 20 bytes. Regions that draw their order and whose calls only make memory of their own: one walk, in every world that keeps what lay below a bound. No condition. Words on slices of bytes for the walks of this seat: plain lemmas on memory, over any program. No condition. Numbers as bytes: plain lemmas without a program. No condition. Contracts of the functions of package octet that make bytes, and of their references: what Put and Text put. Conditions: the bytes that come in are fewer than a million. Contracts of the references of Put and Text. Conditions: the bytes that come in are fewer than a million. A reader of package octet in memory, and contracts of the calls that read: Num, Take, Text, Left, Bad, Done. Conditions: the bytes that are left are fewer than 900,000 -/
import Derived.Test.YtehgpnnfjgmiiaaGreatProg
import Derived.WalkKit
import Derived.Deep.AppendSrc
import Derived.Laws.BytesString
import Derived.Laws.CopyOwn
import Derived.Deep.AppendLies
import Derived.Deep.Draws
import Derived.WalkSpells
import Derived.Test.YtehgpnnfjgmiiaaGreatRows
import Derived.WalkLawsBesides
import Derived.Lib.Hide
import Derived.Outline
import Derived.Laws.BitsAllLaws
import Derived.Laws.BitsLemmas
import Derived.Laws.Bits64
import Derived.LoopTactic
import Derived.Deep.MidRow
import Derived.BigQuiet
import Derived.RegionTactic
import Derived.RegionCalls
import Derived.Deep.RegionHeld3
import Derived.Deep.QuietTactic
import Derived.Deep.DeepCutAuto
import Derived.Great.BuildSlice
import Derived.Lib.SlBytesConst
import Derived.Stop.BytesEq
section
namespace Go.Proofs.YtehgpnnfjgmiiaaGreat
set_option maxRecDepth 100000
open Go.RowKit

/-- Bytes as cells. -/
def bcells (xs : List UInt8) : List Value := xs.map fun c => Value.int .u8 c.toNat
theorem bcells_length (xs : List UInt8) : (bcells xs).length = xs.length := by simp [bcells]
theorem bcells_get (xs : List UInt8) (j : Nat) (h : j < xs.length) : (bcells xs)[j]? = some (.int .u8 (xs[j].toNat : Int)) := by
  simp [bcells, h]

/-- The address A leads to the bytes xs, in a block below B (nothing is asked of an empty list). -/
def BAt (w : World) (B : Nat) (A : Option Addr) (xs : List UInt8) : Prop :=
  xs = [] ∨ ∃ g off, A = some ⟨g, off, none⟩ ∧ g < B ∧ ∀ j (h : j < xs.length), w.cell? ⟨g, off + j, none⟩ = some (.int .u8 (xs[j].toNat : Int))

section
variable {w w' : World} {B B' : Nat} {A : Option Addr} {xs : List UInt8}
theorem BAt.some_ (h : BAt w B A xs) (hx : 0 < xs.length) : ∃ g off, A = some ⟨g, off, none⟩ ∧ g < B ∧ ∀ j (h : j < xs.length), w.cell? ⟨g, off + j, none⟩ = some (.int .u8 (xs[j].toNat : Int)) := by
  rcases h with rfl | h
  · simp at hx
  · exact h
theorem BAt.keep (h : BAt w B A xs) (hk : ∀ p : Addr, p.block < B → w'.cell? p = w.cell? p) : BAt w' B A xs := by
  rcases h with rfl | ⟨g, off, rfl, hg, hc⟩
  · exact .inl rfl
  · exact .inr ⟨g, off, rfl, hg, fun j hj => (hk _ hg).trans (hc j hj)⟩
theorem BAt.more (h : BAt w B A xs) (hB : B ≤ B') : BAt w B' A xs := by
  rcases h with rfl | ⟨g, off, rfl, hg, hc⟩
  · exact .inl rfl
  · exact .inr ⟨g, off, rfl, by omega, hc⟩
theorem BAt.below (h : BAt w B A xs) (hb : Below B w w') : BAt w' B A xs := h.keep fun _ hp => hb.cell hp
theorem BAt.drewN (h : BAt w B A xs) (k : Nat) : BAt (w.drewN k) B A xs := h
theorem BAt.none_ (h : BAt w B none xs) : xs = [] := by
  rcases h with h | ⟨g, off, h, _⟩
  · exact h
  · cases h
theorem BAt.of_own {base : Nat} {e : TypeId} {n c : Nat} (h : w.ownsRow base e 1 (.slice A n c) n (bcells xs)) (hB : w.heap.size ≤ B) : BAt w B A xs := by
  rcases h.2 with ⟨hv, hn⟩ | ⟨g, cap, cur, hv, hb, hg, _⟩
  · left
    have := h.1
    rw [bcells_length] at this
    exact List.eq_nil_of_length_eq_zero (by omega)
  · right
    simp only [Value.slice.injEq, true_and] at hv
    obtain ⟨rfl, rfl⟩ := hv
    refine ⟨g, 0, rfl, Nat.lt_of_lt_of_le (Array.getElem?_eq_some_iff.1 hg).1 hB, fun j hj => ?_⟩
    have hl := h.1
    rw [bcells_length] at hl
    rw [Nat.zero_add, h.cellAt j (by omega), bcells_get xs j hj]

theorem BAt.cells (h : BAt w B A xs) : 0 < (bcells xs).length → ∃ ad, A = some ad ∧ ∀ j v, (bcells xs)[j]? = some v → w.cell? (ad.add j) = some v := by
  intro hp
  rcases h with rfl | ⟨g, off, rfl, hg, hc⟩
  · simp [bcells] at hp
  · refine ⟨_, rfl, fun j u hu => ?_⟩
    have hj : j < xs.length := by
      have := (List.getElem?_eq_some_iff.1 hu).1
      rwa [bcells_length] at this
    rw [bcells_get xs j hj] at hu
    rw [← hu, ← hc j hj]
    congr 1
    unfold Addr.add
    split <;> simp_all

end

/-- append onto a row of the call's own, from whatever source. -/
theorem run_append_src {P : Program} (w : World) (base : Nat) (t tx ty e : TypeId) (i : TypeInfo) (z : Value) (bytes : Nat) (ht : P.underlying t = some (.slice e)) (hi : P.info? e = some i) (hz : i.zero = some z)
    (hsize : i.size = 1) (hby : i.bytes = bytes) (hzs : z.cells.size = 1)
    (v : Value) (n : Nat) (xs : List Value) (hown : w.ownsRow base e 1 v n xs)
    (x : Value) (m : Nat) (news : List Value) (hs : Src P 1 tx x m news w)
    (h63 : n + m ≤ maxLen) (hbytes : (n + m) * bytes ≤ 140737488355328) (hbase : base ≤ w.heap.size) :
    ∃ v' w', (Builtin.append_ #[t, tx] ty #[v, x]).run P w = .ok v' w' ∧ w'.ownsRow base e 1 v' (n + m) (xs ++ news) ∧ w.grownBy w' v.ownBlock ∧
      (v'.ownBlock = v.ownBlock ∨ v'.ownBlock = some w.heap.size) := by
  subst hby
  have hl : news.length = m := by simpa using hs.newsLen
  have hxl : xs.length = n := by simpa using hown.1
  have hlen : (xs ++ news).length = (n + m) * 1 := by rw [List.length_append, hxl, hl, Nat.mul_one]
  have hs' : Src P i.size tx x m news w := by rw [hsize]; exact hs
  have grown : ∀ (old : Nat), old < n + m → ∀ (row : Option Nat),
      (w.drew.alloc (.cells ((xs ++ news).toArray ++ Builtin.zeroCells z.cells (grownCap w (n + m) old e - (n + m))) e)).ownsRow base e 1
        (.slice (some ⟨w.heap.size, 0, none⟩) (n + m) (grownCap w (n + m) old e)) (n + m) (xs ++ news) ∧
      w.grownBy (w.drew.alloc (.cells ((xs ++ news).toArray ++ Builtin.zeroCells z.cells (grownCap w (n + m) old e - (n + m))) e)) row := by
    intro old ho row
    have hge := grownCap_ge w (n + m) old e
    have hcm : grownCap w (n + m) old e ≤ maxLen := grownCap_le_maxLen w (n + m) old e h63
    refine ⟨⟨hlen, .inr ⟨w.heap.size, _, _, rfl, hbase, heap_alloc_new w.drew _, hge, hcm, ?_, ?_⟩⟩, ⟨rfl, rfl, rfl, by simp, fun k hk _ => Below.heap_alloc w.drew _ k hk⟩⟩
    · simp only [Array.size_append, List.size_toArray, size_zeroCells, hzs, List.length_append, hxl, hl]
      omega
    · simp only [Array.toList_append]
      rw [← hlen]
      exact List.take_left
  rcases hown.2 with ⟨rfl, rfl⟩ | ⟨g, cap, cur, rfl, hbg, hg, hnc, hcm, hcs, htake⟩
  · have hx : xs = [] := List.eq_nil_of_length_eq_zero hxl
    subst hx
    by_cases hm : m = 0
    · subst hm
      have hn : news = [] := List.eq_nil_of_length_eq_zero hl
      subst hn
      refine ⟨.slice none 0 0, w, ?_, World.ownsRow_nil w base e 1, ⟨rfl, rfl, rfl, Nat.le_refl _, fun _ _ _ => rfl⟩, Or.inl rfl⟩
      have hcl := hs'.cells
      rcases hs.kind with ⟨e', hk⟩ | hk <;> simp [Builtin.append_, run_underlying ht, run_underlying hk, sizeOf, typeInfo, hi, hs.len, hcl]
    · have hold : (Builtin.firstCells i.size 0 (.slice none 0 0)).run P w.drew = .ok ([] : List Value).toArray w.drew := run_firstCells_none w.drew i.size 0 0 0
      have hr := run_append_grow_src (P := P) w t tx ty e i z ht hi hz none 0 0 [] hold x m news hs' (by omega) (by simp only [maxLen] at h63; omega) (growslice_fits (by omega) hbytes)
      have hgr := grown 0 (by omega) (Value.ownBlock (.slice none 0 0))
      exact ⟨_, _, hr, hgr.1, hgr.2, Or.inr rfl⟩
  · by_cases hroom : n + m ≤ cap
    · have hst := run_storeCells_at P g (n * i.size) e news 0 cur w hg (by rw [hsize, hcs]; omega) hs.one
      have hr : (Builtin.append_ #[t, tx] ty #[.slice (some ⟨g, 0, none⟩) n cap, x]).run P w =
          .ok (.slice (some ⟨g, 0, none⟩) (n + m) cap) (w.setRow g (cur.toList.take (n * i.size) ++ news ++ cur.toList.drop (n * i.size + news.length)).toArray) := by
        simp only [Nat.add_zero] at hst
        rcases hs.kind with ⟨e', hk⟩ | hk <;> simp [Builtin.append_, run_underlying ht, run_underlying hk, sizeOf, typeInfo, hi, hs.len, hroom, hs'.cells, Addr.add_lit, hst]
      rw [hsize] at hr
      refine ⟨_, _, hr, ⟨hlen, .inr ⟨g, cap, _, rfl, hbg, setRow_heap w g cur _ e _ hg, hroom, hcm, ?_, ?_⟩⟩, ⟨rfl, rfl, rfl, by simp, fun k _ hk => setRow_other w g k _ (fun e => hk (by simp [Value.ownBlock, e]))⟩, Or.inl rfl⟩
      · simp only [List.size_toArray, List.length_append, List.length_take, List.length_drop, Array.length_toList]
        omega
      · rw [htake, ← hlen]
        exact List.take_left
    · have holds : (Builtin.firstCells i.size n (.slice (some ⟨g, 0, none⟩) n cap)).run P w.drew = .ok xs.toArray w.drew :=
        run_firstCells_some w.drew i.size n ⟨g, 0, none⟩ n cap xs (by rw [hsize]; exact hown.1) (hown.cells (g := g) rfl)
      have hr := run_append_grow_src (P := P) w t tx ty e i z ht hi hz (some ⟨g, 0, none⟩) n cap xs holds x m news hs' (by omega) (by simp only [maxLen] at h63; omega) (growslice_fits (by omega) hbytes)
      have hgr := grown cap (by omega) (Value.ownBlock (.slice (some ⟨g, 0, none⟩) n cap))
      exact ⟨_, _, hr, hgr.1, hgr.2, Or.inr rfl⟩

theorem wp_append_src {P : Program} (w : World) {o : Oper} {a : Act} {K : Act → World → Prop} {Q : Exit → Act → World → Prop} (s x : Operand) (t tx : TypeId)
    (ho : o.op = .call { callee := .builtin .append, args := #[s, x], argTypes := #[t, tx] })
    (base : Nat) (e : TypeId) (i : TypeInfo) (z : Value) (bytes : Nat) (ht : P.underlying t = some (.slice e)) (hi : P.info? e = some i) (hz : i.zero = some z)
    (hsize : i.size = 1) (hby : i.bytes = bytes) (hzs : z.cells.size = 1)
    (v : Value) (n : Nat) (xs : List Value) (hs : a.eval s = v) (hown : w.ownsRow base e 1 v n xs)
    (y : Value) (m : Nat) (news : List Value) (hx : a.eval x = y) (hr : Src P 1 tx y m news w)
    (h63 : n + m ≤ maxLen) (hbytes : (n + m) * bytes ≤ 140737488355328) (hbase : base ≤ w.heap.size)
    (h : ∀ v' w', w'.ownsRow base e 1 v' (n + m) (xs ++ news) → w.grownBy w' v.ownBlock → (v'.ownBlock = v.ownBlock ∨ v'.ownBlock = some w.heap.size) → K (a.put o.dst v') w') : o.wp P a w K Q := by
  obtain ⟨v', w', hrun, h2, h3, h4⟩ := run_append_src (P := P) w base t tx o.type e i z bytes ht hi hz hsize hby hzs v n xs hown y m news hr h63 hbytes hbase
  unfold Oper.wp execOp
  simp only [ho, resolve, invoke, builtin, Sem.run_bind, Sem.run_pure, Result.andThen_ok, List.map_toArray, List.map_cons, List.map_nil, hs, hx, hrun]
  exact h v' w' h2 h3 h4

theorem wpList_append_src {P : Program} (w : World) {ops : Array Oper} {rest : List Oper} {o : Oper} {a : Act} {Q : Exit → Act → World → Prop} (hgd : o.guard = none) (s x : Operand) (t tx : TypeId)
    (ho : o.op = .call { callee := .builtin .append, args := #[s, x], argTypes := #[t, tx] })
    (base : Nat) (e : TypeId) (i : TypeInfo) (z : Value) (bytes : Nat) (ht : P.underlying t = some (.slice e)) (hi : P.info? e = some i) (hz : i.zero = some z)
    (hsize : i.size = 1) (hby : i.bytes = bytes) (hzs : z.cells.size = 1)
    (v : Value) (n : Nat) (xs : List Value) (hs : a.eval s = v) (hown : w.ownsRow base e 1 v n xs)
    (y : Value) (m : Nat) (news : List Value) (hx : a.eval x = y) (hr : Src P 1 tx y m news w)
    (h63 : n + m ≤ maxLen) (hbytes : (n + m) * bytes ≤ 140737488355328) (hbase : base ≤ w.heap.size)
    (h : ∀ v' w', w'.ownsRow base e 1 v' (n + m) (xs ++ news) → w.grownBy w' v.ownBlock → (v'.ownBlock = v.ownBlock ∨ v'.ownBlock = some w.heap.size) → wpList P ops Q rest (a.put o.dst v') w') : wpList P ops Q (o :: rest) a w :=
  wpList_plain hgd fun _ hK => wp_append_src w s x t tx ho base e i z bytes ht hi hz hsize hby hzs v n xs hs hown y m news hx hr h63 hbytes hbase fun v' w' h2 h3 h4 => hK _ _ (h v' w' h2 h3 h4)

/-- Bytes as a string. -/
def bstr (xs : List UInt8) : ByteArray := ⟨xs.toArray⟩
theorem bstr_fold (xs : List UInt8) (s : ByteArray) : (xs.map fun c => ((c.toNat : Nat) : Int)).foldl (fun r n => r.push (UInt8.ofNat n.toNat)) s = ⟨s.data ++ xs.toArray⟩ := by
  induction xs generalizing s with
  | nil => simp
  | cons c xs ih =>
    simp only [List.map_cons, List.foldl_cons]
    rw [ih]
    apply congrArg ByteArray.mk
    apply Array.ext'
    simp [ByteArray.push]

theorem run_convert_bat {P : Program} {w : World} {B : Nat} {A : Option Addr} {xs : List UInt8} (src dst e : TypeId) (c : Nat) (hs : P.underlying src = some (.slice e)) (he : P.underlying e = some (.int .u8)) (hd : P.underlying dst = some .string)
    (h : BAt w B A xs) : (convert src dst (.slice A xs.length c)).run P w = .ok (.string (bstr xs)) w := by
  rw [run_convert_bytes_string w src dst e A xs.length c hs he hd]
  cases A with
  | none =>
    have := h.none_
    subst this
    simp [Conv.bytesToString, bstr]
    rfl
  | some a =>
    rw [run_bytesToString w a xs.length c (xs.map fun c => ((c.toNat : Nat) : Int)), bstr_fold]
    · simp [bstr]
    · have hl := run_firstCells_some (P := P) w 1 xs.length a xs.length c (bcells xs) (by rw [bcells_length, Nat.mul_one]) (fun j u hu => ?_)
      · simp [Builtin.firstCells] at hl
        rw [hl]
        simp [bcells]
      · rcases h with rfl | ⟨g, off, ha, hg, hc⟩
        · simp [bcells] at hu
        · injection ha with ha
          subst ha
          have hj : j < xs.length := by
            have := (List.getElem?_eq_some_iff.1 hu).1
            rwa [bcells_length] at this
          rw [bcells_get xs j hj] at hu
          rw [← hu, ← hc j hj]
          congr 1
          unfold Addr.add
          split <;> simp_all

end Go.Proofs.YtehgpnnfjgmiiaaGreat
end
section
namespace Go.Proofs.YtehgpnnfjgmiiaaGreat
set_option maxRecDepth 100000
open Go.RowKit

theorem info5 : (Tryz.prog.info? 5).map (fun i => (i.zero, i.size, i.bytes)) = some (some (.int .u8 0), 1, 1) := by kernel_rfl

end Go.Proofs.YtehgpnnfjgmiiaaGreat
end
section
namespace Go.Proofs.YtehgpnnfjgmiiaaGreat
set_option maxRecDepth 100000
set_option maxHeartbeats 1000000
open Go.RowKit

theorem below_drewN {B : Nat} {a w : World} (h : Below B a w) (n : Nat) : Below B a (w.drewN n) := ⟨h.os, h.tape, h.output, h.size, h.block⟩
end Go.Proofs.YtehgpnnfjgmiiaaGreat
end
section
namespace Go.Proofs.YtehgpnnfjgmiiaaGreat
set_option maxRecDepth 100000
open Go.RowKit
set_option linter.unusedVariables false

theorem BAt.set {w : World} {B g j : Nat} {A : Option Addr} {ys : List UInt8} (h : BAt w B A ys) (u : Value) (hne : ∀ g' off, A = some ⟨g', off, none⟩ → ys ≠ [] → g' ≠ g) : BAt (w.setCell ⟨g, j, none⟩ u) B A ys := by
  rcases h with rfl | ⟨g', off, rfl, hg, hc⟩
  · exact .inl rfl
  · by_cases hy : ys = []
    · exact .inl hy
    · exact .inr ⟨g', off, rfl, hg, fun i hi => (World.cell?_setCell_other w _ _ u (fun e => by
        have := hne g' off rfl hy
        simp only [Addr.mk.injEq] at e
        exact this e.1.symm)).trans (hc i hi)⟩

end Go.Proofs.YtehgpnnfjgmiiaaGreat
end
section
namespace Go.Proofs.YtehgpnnfjgmiiaaGreat
set_option maxRecDepth 100000
open Go.RowKit
set_option linter.unusedVariables false

section
variable {w w' : World} {g h : Nat} {A : Option Addr} {c : Nat} {xs : List UInt8}

theorem BAt.grown {B x : Nat} {ys : List UInt8} (hx : BAt w B A ys) (hB : B ≤ w.heap.size) (hg : w.grownBy w' (some x)) (hne : ∀ g' off, A = some ⟨g', off, none⟩ → ys ≠ [] → g' ≠ x) : BAt w' B A ys := by
  by_cases hy : ys = []
  · exact .inl hy
  · obtain ⟨g', off, rfl, hlt, hc⟩ := hx.some_ (List.length_pos_iff.2 hy)
    exact .inr ⟨g', off, rfl, hlt, fun j hj => hg.cell (hc j hj) (fun e => hne g' off rfl hy (by injection e))⟩

variable {w0 : World}
end
end Go.Proofs.YtehgpnnfjgmiiaaGreat
end
section
namespace Go.Proofs.YtehgpnnfjgmiiaaGreat
set_option maxRecDepth 100000
set_option maxHeartbeats 1000000
open Go.RowKit

theorem row_range {w : World} {g : Nat} {cs : List Value} {ty : TypeId} (h : w.heap[g]? = some (.cells cs.toArray ty (0, 0))) : w.rangeAt g 0 cs := fun i v hv => by
  rw [Nat.zero_add, cell_of_row w _ i _ ty (0, 0) h]
  simpa using hv
end Go.Proofs.YtehgpnnfjgmiiaaGreat
end
section
namespace Go.Proofs.YtehgpnnfjgmiiaaGreat
set_option maxRecDepth 100000
open Go.RowKit

theorem wp_loadV {P : Program} {op : Oper} {a : Act} {w : World} {K : Act → World → Prop} {Q : Exit → Act → World → Prop} (ty : TypeId) (x : Operand) (ho : op.op = .load ty x) (p : Addr) (hx : a.eval x = .pointer (some p)) (v : Value) (hl : (loadVar ty p).run P w = .ok v w)
    (h : K (a.put op.dst v) w) : op.wp P a w K Q := by
  unfold Oper.wp execOp
  simp only [ho, hx, Instr.loadAt, Instr.sureAddr, Sem.run_bind, Sem.run_pure, Result.andThen_ok, hl]
  exact h
end Go.Proofs.YtehgpnnfjgmiiaaGreat
end
section
namespace Go.Proofs.YtehgpnnfjgmiiaaGreat
set_option maxRecDepth 100000
open Go.RowKit

theorem bcells_append (xs ys : List UInt8) : bcells (xs ++ ys) = bcells xs ++ bcells ys := by simp [bcells]
theorem bcells_one (xs : List UInt8) : ∀ u ∈ bcells xs, u.oneCell' = true := by
  intro u hu
  obtain ⟨_, _, rfl⟩ := List.mem_map.1 hu
  rfl
section
variable {w w' : World} {B B' : Nat} {A : Option Addr} {xs : List UInt8}
/-- What stands at A is a source for append. -/
theorem BAt.src {P : Program} {t e' : TypeId} (hk : P.underlying t = some (.slice e')) (h : BAt w B A xs) (c : Nat) : Src P 1 t (.slice A xs.length c) xs.length (bcells xs) w := by
  cases A with
  | none =>
    have := h.none_
    subst this
    exact Src.ofNil w hk c
  | some a =>
    refine Src.ofSlice w hk a xs.length c (bcells xs) (by rw [bcells_length, Nat.mul_one]) (fun j u hu => ?_) (bcells_one xs)
    rcases h with rfl | ⟨g, off, ha, hg, hc⟩
    · simp [bcells] at hu
    · injection ha with ha
      subst ha
      have hj : j < xs.length := by
        have := (List.getElem?_eq_some_iff.1 hu).1
        rwa [bcells_length] at this
      rw [bcells_get xs j hj] at hu
      rw [← hu, ← hc j hj]
      congr 1
      unfold Addr.add
      split <;> simp_all
end

/-- One new byte as a source for append. -/
theorem src_one {P : Program} {t e' : TypeId} (hk : P.underlying t = some (.slice e')) (w : World) (e : TypeId) (n : Int) (b : UInt8) (h : n = (b.toNat : Int)) :
    Src P 1 t (.slice (some ⟨w.heap.size, 0, none⟩) 1 1) 1 (bcells [b]) (w.alloc (.cells #[.int .u8 n] e)) := by
  subst h
  refine Src.ofSlice _ hk _ 1 1 (bcells [b]) rfl (fun j u hu => ?_) (bcells_one _)
  match j, hu with
  | 0, hu =>
    simp [bcells] at hu
    subst hu
    simp [Addr.add]

theorem own_of_splice {w : World} {base g : Nat} {e : TypeId} {z : Value} {xs : List UInt8} {k : Nat} (hb : base ≤ g) (hl : xs.length + k ≤ maxLen)
    (h : w.heap[g]? = some (.cells (splice (List.replicate (xs.length + k) z) 0 (bcells xs)).toArray e (0, 0))) :
    w.ownsRow base e 1 (.slice (some ⟨g, 0, none⟩) xs.length (xs.length + k)) xs.length (bcells xs) := by
  refine ⟨by rw [bcells_length, Nat.mul_one], .inr ⟨g, _, _, rfl, hb, h, by omega, hl, ?_, ?_⟩⟩
  · simp [splice, bcells_length]
  · simp only [splice, List.take_zero, List.nil_append, Nat.mul_one]
    rw [← bcells_length xs]
    exact List.take_left

end Go.Proofs.YtehgpnnfjgmiiaaGreat
end
section
namespace Go.Proofs.YtehgpnnfjgmiiaaGreat
set_option maxRecDepth 100000

/-- The lowest k bytes of N, the most significant one first. -/
def putB (N k : Nat) : List UInt8 := (List.range k).map fun i => UInt8.ofNat (N / 2 ^ (8 * (k - 1 - i)))
theorem putB_length (N k : Nat) : (putB N k).length = k := by simp [putB]
theorem putB_take (N k i : Nat) (h : i < k) : (putB N k).take (i + 1) = (putB N k).take i ++ [UInt8.ofNat (N / 2 ^ (8 * (k - 1 - i)))] := by
  rw [List.take_succ_eq_append_getElem (by rw [putB_length]; exact h)]
  congr 2
  simp [putB]
theorem putB_all (N k : Nat) : (putB N k).take k = putB N k := List.take_of_length_le (by rw [putB_length]; exact Nat.le_refl _)

theorem byte_div (N j : Nat) : (N : Int) / 2 ^ j % 256 = ((UInt8.ofNat (N / 2 ^ j)).toNat : Int) := by
  have h : ((N : Int) / 2 ^ j) = ((N / 2 ^ j : Nat) : Int) := by
    rw [Int.natCast_ediv]; congr 1
  rw [h]
  simp

end Go.Proofs.YtehgpnnfjgmiiaaGreat
end
section
namespace Go.Proofs.YtehgpnnfjgmiiaaGreat
set_option maxRecDepth 100000
open Go.RowKit

/-- What a call leaves that answers a new slice of bytes. -/
def OwnB (w : World) (xs : List UInt8) (e : Ending) (w' : World) : Prop :=
  ∃ v, e = .returned v ∧ w'.ownsRow w.heap.size 5 1 v xs.length (bcells xs) ∧ Below w.heap.size w w'

theorem isWidth_yes (n : Int) (w : World) (h1 : 1 ≤ n) (h2 : n ≤ 8) : Calls Tryz.prog 49 #[.int .i64 n] w fun e w' => e = .returned (.bool true) ∧ w = w' := by
  have d1 : decide (1 ≤ n) = true := by simpa using h1
  have d2 : decide (n ≤ 8) = true := by simpa using h2
  go_enter Tryz.func49, Tryz.ntmps49
  go_wp2
  go_ret
  exact ⟨rfl, rfl⟩

theorem run_make_u8 (n c : Nat) (hnc : n ≤ c) (hc : c ≤ 2000000) (w : World) :
    (Instr.makeSlice 31 (.int .i64 (n : Int)) (.int .i64 (c : Int))).run Tryz.prog w = .ok (.slice (some ⟨w.heap.size, 0, none⟩) n c) (w.alloc (.cells (List.replicate c (Value.int .u8 0)).toArray 5)) := by
  obtain ⟨i0, hi, hz0, hz1, hz2⟩ := info_parts info5
  have hr := run_make (P := Tryz.prog) w 31 5 i0 _ Tryz.underlying31 hi hz0 .i64 .i64 n c (by omega) (by omega) (by rw [hz2]; omega) (by omega)
  simp only [Int.toNat_natCast, hz1] at hr
  rw [hr]
  congr 3
  apply Array.ext
  · simp [madeCells]
  · intro j h1 h2
    simp [madeCells, Value.cells, Nat.mod_one]

set_option maxRecDepth 100000 in
theorem grown_any (A : Option Addr) (c k : Nat) (xs : List UInt8) (w : World) (hx : BAt w w.heap.size A xs) (hl : xs.length ≤ 1000000) (hk : k ≤ 8) :
    Calls Tryz.prog 51 #[.slice A xs.length c, .int .i64 (k : Int)] w (OwnB w xs) := by
  have hmk : ∀ W, (Instr.makeSlice 31 (.int .i64 (xs.length : Int)) (.int .i64 ((xs.length : Int) + (k : Int)))).run Tryz.prog W = .ok (.slice (some ⟨W.heap.size, 0, none⟩) xs.length (xs.length + k)) (W.alloc (.cells (List.replicate (xs.length + k) (Value.int .u8 0)).toArray 5)) := fun W => by
    have := run_make_u8 xs.length (xs.length + k) (by omega) (by omega) W
    rwa [Int.natCast_add] at this
  go_enter Tryz.func51, Tryz.ntmps51
  go_wp2_with (with_reducible refine wpList_copy_splice rfl (.tmp 13) (.tmp 14) 31 31 rfl 5 Tryz.underlying31 (by kernel_rfl) _ _ _ _ _ _ rfl rfl w.heap.size 0 (List.replicate (xs.length + k) (Value.int .u8 0)) 5 (heap_alloc_new w _) (bcells xs) ?_ ?_ ?_ (bcells_one xs) w.heap.size w ((Below.refl _ w).alloc (Nat.le_refl _) _) (Nat.le_refl _) ?_)
  · rw [bcells_length]; simp
  · exact (hx.below ((Below.refl _ w).alloc (Nat.le_refl _) _)).cells
  · simp [bcells_length]
  · intro w1 hs hb
    go_wp2
    go_ret
    exact ⟨_, rfl, own_of_splice (Nat.le_refl _) (by simp only [maxLen]; omega) hs.out, hb⟩

/-- The relation of Put's loop. -/
def PutRel (w : World) (xs : List UInt8) (N k : Nat) (v i : Value) (wr : World) : Prop :=
  ∃ j : Nat, j ≤ k ∧ i = .int .i64 (j : Int) ∧ wr.ownsRow w.heap.size 5 1 v (xs.length + j) (bcells (xs ++ (putB N k).take j)) ∧ Below w.heap.size w wr

set_option maxRecDepth 100000 in
theorem put_yes (A : Option Addr) (c N k : Nat) (xs : List UInt8) (w : World) (hx : BAt w w.heap.size A xs) (hl : xs.length ≤ 1000000) (hN : N < 18446744073709551616) (hk1 : 1 ≤ k) (hk : k ≤ 8) :
    Calls Tryz.prog 22 #[.slice A xs.length c, .int .u64 (N : Int), .int .i64 (k : Int)] w (OwnB w (xs ++ putB N k)) := by
  obtain ⟨i0, hi, hz0, hz1, hz2⟩ := info_parts info5
  have HN := Lib.hid hN
  clear hN
  go_enter Tryz.func22, Tryz.ntmps22
  go_wp2_with (first
    | (go_at_call 49; refine (isWidth_yes _ _ (by omega) (by omega)).mono ?_; rintro e w1 ⟨rfl, rfl⟩)
    | (go_at_call 51; refine (grown_any A c k xs w hx hl hk).mono ?_; rintro e w1 ⟨v1, rfl, hown1, hb1⟩))
  go_loopw [7, 18] (PutRel w xs N k) (fun _ i _ => k - (intOf i).toNat)
  case atStart => exact ⟨0, Nat.zero_le _, rfl, by simpa using hown1, hb1⟩
  case round =>
    obtain ⟨j, hj, rfl, hown, hb⟩ := hrel
    by_cases hlt : j < k
    · go_wp2_with (at_builtin; refine wpList_append_src _ rfl (.tmp 21) (.tmp 30) _ _ rfl w.heap.size 5 i0 _ 1 Tryz.underlying31 hi hz0 hz1 hz2 rfl _ _ _ rfl (hown.alloc _) _ 1 (bcells [UInt8.ofNat (N / 2 ^ (8 * (k - 1 - j)))]) rfl (src_one Tryz.underlying31 _ _ _ _ (byte_div _ _)) (by simp only [maxLen]; omega) (by omega) (by have := hb.size; simp; omega) ?_; intro v2 w2 hown2 hg2 hat2)
      have R : PutRel w xs N k v2 (.int .i64 ((j : Int) + 1)) w2 := ⟨j + 1, by omega, by go_num, by rw [putB_take N k j hlt, ← List.append_assoc, bcells_append (xs ++ _)]; exact hown2, (hb.alloc hb.size _).grown hg2 (by have := hb.size; simp; omega) (fun b hbb => (hown.lt b hbb).1)⟩
      clear hown2 hg2 hat2 hown hb
      go_wp2
      go_roundw
      case rel => exact R
      case measure => simp [intOf]; omega
    · obtain rfl : j = k := by omega
      go_wp2
      go_ret
      exact ⟨_, rfl, by rw [List.length_append, putB_length]; simpa [putB_all] using hown, hb⟩

/-- What a call leaves that answers a new slice of bytes and an error's number. -/
def OwnB2 (w : World) (xs : List UInt8) (n : Int) (e : Ending) (w' : World) : Prop :=
  ∃ v, e = .returned (.tuple #[v, .int .i64 n]) ∧ w'.ownsRow w.heap.size 5 1 v xs.length (bcells xs) ∧ Below w.heap.size w w'

set_option maxRecDepth 100000 in
theorem text_yes (A : Option Addr) (c : Nat) (xs : List UInt8) (s : ByteArray) (w : World) (hx : BAt w w.heap.size A xs) (hl : xs.length ≤ 900000) (hs : s.size ≤ 1024) :
    Calls Tryz.prog 102 #[.slice A xs.length c, .string s] w (OwnB2 w (xs ++ (putB s.size 2 ++ s.data.toList)) 0) := by
  obtain ⟨i0, hi, hz0, hz1, hz2⟩ := info_parts info5
  have hp := put_yes A c s.size 2 xs w hx (by omega) (by omega) (by omega) (by omega)
  have HP := Lib.hid hp
  clear hp
  go_enter Tryz.func102, Tryz.ntmps102
  go_wp2_with (first
    | (go_at_call 22; refine (HP.out).mono ?_; rintro e w1 ⟨v1, rfl, hown1, hb1⟩)
    | (at_builtin; refine wpList_append_src _ rfl (.tmp 13) (.tmp 14) _ _ rfl w.heap.size 5 i0 _ 1 Tryz.underlying31 hi hz0 hz1 hz2 rfl _ _ _ rfl hown1 _ s.size (byteCells s) rfl (Src.ofString _ Tryz.underlying9 s) (by have := putB_length s.size 2; simp only [maxLen, List.length_append]; omega) (by have := putB_length s.size 2; simp only [List.length_append]; omega) hb1.size ?_; intro v2 w2 hown2 hg2 hat2))
  go_ret2
  refine ⟨v2, rfl, ?_, hb1.grown hg2 hb1.size (fun b hbb => (hown1.lt b hbb).1)⟩
  have e1 : (xs ++ (putB s.size 2 ++ s.data.toList)).length = (xs ++ putB s.size 2).length + s.size := by
    simp only [List.length_append, Array.length_toList]
    rw [Nat.add_assoc]
    rfl
  rw [e1, ← List.append_assoc, bcells_append (xs ++ _)]
  exact hown2

end Go.Proofs.YtehgpnnfjgmiiaaGreat
end
section
namespace Go.Proofs.YtehgpnnfjgmiiaaGreat
set_option maxRecDepth 100000
open Go.RowKit
set_option linter.unusedVariables false

/-- The relation of the loop of Put's reference. -/
def RPutRel (w : World) (xs : List UInt8) (N k : Nat) (v i : Value) (wr : World) : Prop :=
  ∃ j : Nat, j ≤ k ∧ i = .int .i64 ((k : Int) - 1 - j) ∧ wr.ownsRow w.heap.size 5 1 v (xs.length + j) (bcells (xs ++ (putB N k).take j)) ∧ Below w.heap.size w wr

end Go.Proofs.YtehgpnnfjgmiiaaGreat
end
section
namespace Go.Proofs.YtehgpnnfjgmiiaaGreat
set_option maxRecDepth 100000
open Go.RowKit
set_option linter.unusedVariables false

theorem grownBy_setCell {w w1 : World} {g : Nat} (h : w.grownBy w1 (some g)) (j : Nat) (u : Value) : w.grownBy (w1.setCell ⟨g, j, none⟩ u) (some g) :=
  ⟨h.os, h.tape, h.output, by simpa [World.setCell] using h.size, fun i hi hne => (Below.heap_setCell w1 ⟨g, j, none⟩ u i (by rintro rfl; exact hne rfl)).trans (h.block i hi hne)⟩

end Go.Proofs.YtehgpnnfjgmiiaaGreat
end
section
namespace Go.Proofs.YtehgpnnfjgmiiaaGreat
set_option maxRecDepth 100000

/-- A reader: what is left, and whether it is bad. -/
structure St where
  ys : List UInt8
  bad : Bool

def takeOk (s : St) (n : Int) : Prop := s.bad = false ∧ 0 ≤ n ∧ n ≤ s.ys.length
instance (s : St) (n : Int) : Decidable (takeOk s n) := by unfold takeOk; exact inferInstance
def takeS (s : St) (n : Int) : St := if takeOk s n then ⟨s.ys.drop n.toNat, false⟩ else ⟨[], true⟩

end Go.Proofs.YtehgpnnfjgmiiaaGreat
end
