/- Rows of ids in memory: plain lemmas. No condition. Contract of slices.BinarySearchFunc at ids, with the closure of package metric. Conditions: fewer than 100000 ids, sorted. Contract of the source of the reference (layer 7): Take. Conditions: the bytes are at most 900,000; the number that comes in is an int. Regions that draw their order and whose calls only make memory of their own: one walk, in every world that keeps what lay below a bound. No condition. Contract of Bytes of package contact. No condition. Contacts in blocks of their own: making one, storing into it. No condition. What an instance's functions answer, plain; End, Over, Alive, Left, flag, plus, bare, of the program. No condition. Walk of ServiceTells. No condition. bare, isTarget, Good of the program. Conditions: targets of at most 100,000 bytes. -/
import Derived.Test.YtehgpnnfjgmiiaaGreatProg
import Derived.Test.YtehgpnnfjgmiiaaGreatXJPWords
import Derived.Test.YtehgpnnfjgmiiaaGreatXJLrc
import Derived.RegionTactic
import Derived.RegionCalls
import Derived.WalkKit
import Derived.Deep.RegionHeld3
import Derived.Deep.QuietTactic
import Derived.BigQuiet
import Derived.Test.YtehgpnnfjgmiiaaGreatXIia
import Derived.StillTailTactics
import Derived.Deep.AppendSrc
import Derived.Laws.BitsAllLaws
import Derived.Laws.BitsLemmas
import Derived.Laws.Bits64
import Derived.LoopTactic
import Derived.Lib.OwnBridge
import Derived.Lib.SliceRun
import Derived.Below
import Derived.ProofKit
import Derived.OpenShut
import Derived.Test.YtehgpnnfjgmiiaaGreatRows
import Derived.ChangeOld
import Derived.Laws.Tables
import Derived.Lib.Hide
import Derived.Lib.ConvBytes
import Derived.Laws.BytesString
import Derived.Laws.CopyOwn
import Derived.Deep.AppendLies
import Derived.Deep.Draws
import Derived.WalkSpells
import Derived.WalkLawsBesides
import Derived.Outline
import Derived.Deep.MidRow
import Derived.Deep.DeepCutAuto
import Derived.Great.BuildSlice
import Derived.Lib.SlBytesConst
import Derived.Stop.BytesEq
import Derived.Deep.LoopGhost
import Derived.Sort.Grow
import Derived.Shelf.LaysM
import Derived.Test.YtehgpnnfjgmiiaaGreatXJLch
import Derived.Shelf.Abstract
import Derived.Laws.ResultCell
import Derived.Deep.Cut
import Derived.Shelf.SlicesE.Clone
section
namespace Go.Proofs.YtehgpnnfjgmiiaaGreat
set_option maxRecDepth 100000
open Go.RowKit Go.Lib

section
variable {w w' : World}
end

/-- append onto a row of the call's own, from whatever source; elements of k cells. -/
theorem run_append_srcK {P : Program} (w : World) (base : Nat) (t tx ty e : TypeId) (i : TypeInfo) (z : Value) (k bytes : Nat) (ht : P.underlying t = some (.slice e)) (hi : P.info? e = some i) (hz : i.zero = some z)
    (hsize : i.size = k) (hby : i.bytes = bytes) (hzs : z.cells.size = k)
    (v : Value) (n : Nat) (xs : List Value) (hown : w.ownsRow base e k v n xs)
    (x : Value) (m : Nat) (news : List Value) (hs : Src P k tx x m news w)
    (h63 : n + m ≤ maxLen) (hbytes : (n + m) * bytes ≤ 140737488355328) (hbase : base ≤ w.heap.size) :
    ∃ v' w', (Builtin.append_ #[t, tx] ty #[v, x]).run P w = .ok v' w' ∧ w'.ownsRow base e k v' (n + m) (xs ++ news) ∧ w.grownBy w' v.ownBlock ∧
      (v'.ownBlock = v.ownBlock ∨ v'.ownBlock = some w.heap.size) := by
  subst hby
  have hl : news.length = m * k := hs.newsLen
  have hxl : xs.length = n * k := hown.1
  have hlen : (xs ++ news).length = (n + m) * k := by rw [List.length_append, hxl, hl, Nat.add_mul]
  have hs' : Src P i.size tx x m news w := by rw [hsize]; exact hs
  have grown : ∀ (old : Nat), old < n + m → ∀ (row : Option Nat),
      (w.drew.alloc (.cells ((xs ++ news).toArray ++ Builtin.zeroCells z.cells (grownCap w (n + m) old e - (n + m))) e)).ownsRow base e k
        (.slice (some ⟨w.heap.size, 0, none⟩) (n + m) (grownCap w (n + m) old e)) (n + m) (xs ++ news) ∧
      w.grownBy (w.drew.alloc (.cells ((xs ++ news).toArray ++ Builtin.zeroCells z.cells (grownCap w (n + m) old e - (n + m))) e)) row := by
    intro old ho row
    have hge := grownCap_ge w (n + m) old e
    have hcm : grownCap w (n + m) old e ≤ maxLen := grownCap_le_maxLen w (n + m) old e h63
    refine ⟨⟨hlen, .inr ⟨w.heap.size, _, _, rfl, hbase, heap_alloc_new w.drew _, hge, hcm, ?_, ?_⟩⟩, ⟨rfl, rfl, rfl, by simp, fun k hk _ => Below.heap_alloc w.drew _ k hk⟩⟩
    · simp only [Array.size_append, List.size_toArray, size_zeroCells, hzs, hlen, ← Nat.add_mul]
      congr 1
      omega
    · simp only [Array.toList_append]
      rw [← hlen]
      exact List.take_left
  rcases hown.2 with ⟨rfl, rfl⟩ | ⟨g, cap, cur, rfl, hbg, hg, hnc, hcm, hcs, htake⟩
  · have hx : xs = [] := List.eq_nil_of_length_eq_zero (by simpa using hxl)
    subst hx
    by_cases hm : m = 0
    · subst hm
      have hn : news = [] := List.eq_nil_of_length_eq_zero (by simpa using hl)
      subst hn
      refine ⟨.slice none 0 0, w, ?_, World.ownsRow_nil w base e k, ⟨rfl, rfl, rfl, Nat.le_refl _, fun _ _ _ => rfl⟩, Or.inl rfl⟩
      have hcl := hs'.cells
      rcases hs.kind with ⟨e', hk⟩ | hk <;> simp [Builtin.append_, run_underlying ht, run_underlying hk, sizeOf, typeInfo, hi, hs.len, hcl]
    · have hold : (Builtin.firstCells i.size 0 (.slice none 0 0)).run P w.drew = .ok ([] : List Value).toArray w.drew := run_firstCells_none w.drew i.size 0 0 0
      have hr := run_append_grow_src (P := P) w t tx ty e i z ht hi hz none 0 0 [] hold x m news hs' (by omega) (by simp only [maxLen] at h63; omega) (growslice_fits (by omega) hbytes)
      have hgr := grown 0 (by omega) (Value.ownBlock (.slice none 0 0))
      exact ⟨_, _, hr, hgr.1, hgr.2, Or.inr rfl⟩
  · by_cases hroom : n + m ≤ cap
    · have hfit : n * i.size + news.length ≤ cur.size := by rw [hl, hcs, hsize, ← Nat.add_mul]; exact Nat.mul_le_mul_right _ hroom
      have hst := run_storeCells_at P g (n * i.size) e news 0 cur w hg (by simpa using hfit) hs.one
      have hr : (Builtin.append_ #[t, tx] ty #[.slice (some ⟨g, 0, none⟩) n cap, x]).run P w =
          .ok (.slice (some ⟨g, 0, none⟩) (n + m) cap) (w.setRow g (cur.toList.take (n * i.size) ++ news ++ cur.toList.drop (n * i.size + news.length)).toArray) := by
        simp only [Nat.add_zero] at hst
        rcases hs.kind with ⟨e', hk⟩ | hk <;> simp [Builtin.append_, run_underlying ht, run_underlying hk, sizeOf, typeInfo, hi, hs.len, hroom, hs'.cells, Addr.add_lit, hst]
      rw [hsize] at hr hfit
      refine ⟨_, _, hr, ⟨hlen, .inr ⟨g, cap, _, rfl, hbg, setRow_heap w g cur _ e _ hg, hroom, hcm, ?_, ?_⟩⟩, ⟨rfl, rfl, rfl, by simp, fun k _ hk => setRow_other w g k _ (fun e => hk (by simp [Value.ownBlock, e]))⟩, Or.inl rfl⟩
      · simp only [List.size_toArray, List.length_append, List.length_take, List.length_drop, Array.length_toList]
        omega
      · rw [htake, ← hlen]
        exact List.take_left
    · have holds : (Builtin.firstCells i.size n (.slice (some ⟨g, 0, none⟩) n cap)).run P w.drew = .ok xs.toArray w.drew :=
        run_firstCells_some w.drew i.size n ⟨g, 0, none⟩ n cap xs (by rw [hsize]; exact hown.1) (hown.cells (g := g) rfl)
      have hr := run_append_grow_src (P := P) w t tx ty e i z ht hi hz (some ⟨g, 0, none⟩) n cap xs holds x m news hs' (by omega) (by simp only [maxLen] at h63; omega) (growslice_fits (by omega) hbytes)
      have hgr := grown cap (by omega) (Value.ownBlock (.slice (some ⟨g, 0, none⟩) n cap))
      exact ⟨_, _, hr, hgr.1, hgr.2, Or.inr rfl⟩
end Go.Proofs.YtehgpnnfjgmiiaaGreat
end
section
namespace Go.Proofs.YtehgpnnfjgmiiaaGreat
set_option maxRecDepth 100000
set_option maxHeartbeats 1000000
open Go.RowKit Go.Lib Go.Great

theorem kept_ofS {P : Program} {f : FuncId} {args : Array Value} {v : Value} {B : Nat} {W0 : World} (hB : B ≤ W0.heap.size) (h : ∀ n : Kept B W0, Calls P f args n.val fun e w' => e = .returned v ∧ Below n.val.heap.size n.val w') (n : Kept B W0) :
    Calls P f args n.val fun e w' => e = .returned v ∧ ∃ m : Kept B W0, w' = m.val :=
  (h n).mono (by rintro e w' ⟨rfl, hb⟩; exact ⟨rfl, ⟨w', n.property.trans (hb.mono (Nat.le_trans hB n.property.size))⟩, rfl⟩)
end Go.Proofs.YtehgpnnfjgmiiaaGreat
end
section
namespace Go.Proofs.YtehgpnnfjgmiiaaGreat
set_option maxRecDepth 100000
set_option maxHeartbeats 1000000
open Go.RowKit Go.Lib Go.Great

theorem grown_of_bel {w w' : World} (h : Below w.heap.size w w') (row : Option Nat) : w.grownBy w' row := ⟨h.os, h.tape, h.output, h.size, fun k hk _ => h.block k hk⟩
theorem bcells_app (L M : List UInt8) : bcells (L ++ M) = bcells L ++ bcells M := by simp [bcells]
theorem info5b : ∃ i0, Tryz.prog.info? 5 = some i0 ∧ i0.zero = some (.int .u8 0) ∧ i0.size = 1 ∧ i0.bytes = 1 := by
  have h : (Tryz.prog.info? 5).map (fun i => (i.zero, i.size, i.bytes)) = some (some (.int .u8 0), 1, 1) := by kernel_rfl
  cases hi : Tryz.prog.info? 5 with
  | none => rw [hi] at h; cases h
  | some i =>
    rw [hi] at h
    simp only [Option.map_some, Option.some.injEq, Prod.mk.injEq] at h
    exact ⟨i, rfl, h.1, h.2.1, h.2.2⟩
theorem undBs : Tryz.prog.underlying 31 = some (.slice 5) := by kernel_rfl
end Go.Proofs.YtehgpnnfjgmiiaaGreat
end
section
namespace Go.Proofs.YtehgpnnfjgmiiaaGreat
set_option maxRecDepth 100000
open Go.RowKit

theorem wpList_loadV {P : Program} {ops : Array Oper} {rest : List Oper} {op : Oper} {a : Act} {w : World} {Q : Exit → Act → World → Prop} (hgd : op.guard = none) (ty : TypeId) (x : Operand) (ho : op.op = .load ty x) (p : Addr) (hx : a.eval x = .pointer (some p)) (v : Value) (hl : (loadVar ty p).run P w = .ok v w)
    (h : wpList P ops Q rest (a.put op.dst v) w) : wpList P ops Q (op :: rest) a w :=
  wpList_plain hgd fun _ hK => wp_loadV ty x ho p hx v hl (hK _ _ h)
end Go.Proofs.YtehgpnnfjgmiiaaGreat
end
section
namespace Go.Proofs.YtehgpnnfjgmiiaaGreat
open Go.Shelf Go.RowKit Go.Lib Go.Sort Go.Great
set_option maxRecDepth 100000
set_option maxHeartbeats 1000000
theorem own_baseC {w : World} {base base' : Nat} {e : TypeId} {v : Value} {n size : Nat} {xs : List Value} (h : w.ownsRow base e size v n xs) (hb : base' ≤ base) : w.ownsRow base' e size v n xs := by
  refine ⟨h.1, ?_⟩
  rcases h.2 with hn | ⟨g, cap, cur, hv, hg, r⟩
  · exact .inl hn
  · exact .inr ⟨g, cap, cur, hv, by omega, r⟩
end Go.Proofs.YtehgpnnfjgmiiaaGreat
end
section
namespace Go.Proofs.YtehgpnnfjgmiiaaGreat
open Go.Shelf Go.RowKit Go.Lib Go.Sort Go.Great
set_option maxRecDepth 100000
set_option maxHeartbeats 1000000
theorem setCells_top (w : World) (ty : TypeId) : ∀ (vs pre rest : List Value), vs.length ≤ rest.length → (w.alloc (.cells (pre ++ rest).toArray ty)).setCells w.heap.size pre.length vs = w.alloc (.cells (pre ++ vs ++ rest.drop vs.length).toArray ty) := by
  intro vs
  induction vs with
  | nil => intro pre rest _; simp [World.setCells]
  | cons v vs ih =>
    intro pre rest h
    cases rest with
    | nil => simp at h
    | cons r rest =>
      rw [World.setCells, World.setCell_alloc_new]
      have e : (pre ++ r :: rest).toArray.setIfInBounds pre.length v = (pre ++ [v] ++ rest).toArray := by
        rw [List.setIfInBounds_toArray, List.set_append_right _ _ (Nat.le_refl _), Nat.sub_self, List.set_cons_zero, List.append_assoc]
        rfl
      rw [e]
      have := ih (pre ++ [v]) rest (by simpa using h)
      rw [List.length_append, List.length_singleton] at this
      rw [this]
      simp
theorem setCells_all (w : World) (ty : TypeId) (Z vs : List Value) (h : vs.length = Z.length) : (w.alloc (.cells Z.toArray ty)).setCells w.heap.size 0 vs = w.alloc (.cells vs.toArray ty) := by
  have := setCells_top w ty vs [] Z (by omega)
  simp only [List.nil_append, List.length_nil] at this
  rw [this, List.drop_of_length_le (by omega), List.append_nil]
theorem there_new (w : World) (ty : TypeId) (Z : List Value) : (w.alloc (.cells Z.toArray ty)).there w.heap.size 0 Z.length := fun j hj => by
  have h := heap_alloc_new w (.cells Z.toArray ty)
  refine ⟨?_, frozen_of_row _ _ _ _ _ h⟩
  rw [Nat.zero_add, cell_of_row _ _ j _ ty (0, 0) h, List.getElem?_toArray, List.getElem?_eq_getElem hj]
  rfl
end Go.Proofs.YtehgpnnfjgmiiaaGreat
end
section
namespace Go.Proofs.YtehgpnnfjgmiiaaGreat
open Go.Shelf Go.RowKit Go.Lib Go.Great
set_option maxRecDepth 100000
set_option maxHeartbeats 1000000
def bareI (i : Ins) : Ins := ⟨i.pub, i.seq, i.born, i.life, true, 0, 0, 0, [], i.hp, i.hs, i.hb, i.hl, by omega, by omega, by omega⟩
def flagN (b : Bool) : Nat := if b then 1 else 0
theorem flag_any (b : Bool) (w : World) : Calls Tryz.prog 101 #[.bool b] w fun e w' => e = .returned (.int .u64 (flagN b : Int)) ∧ w' = w := by
  cases b
  · go_enter Tryz.func101, Tryz.ntmps101
    go_wp2
    go_ret
    exact ⟨rfl, rfl⟩
  · go_enter Tryz.func101, Tryz.ntmps101
    go_wp2
    go_ret
    exact ⟨rfl, rfl⟩
end Go.Proofs.YtehgpnnfjgmiiaaGreat
end
section
namespace Go.Proofs.YtehgpnnfjgmiiaaGreat
open Go.Shelf Go.RowKit Go.Lib Go.Great
set_option maxRecDepth 100000
set_option maxHeartbeats 2000000
theorem upB {f : FuncId} {args : Array Value} {v : Value} (w : World) (h : ∀ W, Calls Tryz.prog f args W fun e w' => e = .returned v ∧ Below W.heap.size W w') : Hid (∀ W, Below w.heap.size w W → Calls Tryz.prog f args W fun e w' => e = .returned v ∧ Below w.heap.size w w') :=
  Lib.hid (fun W hW => (h W).mono (by rintro e w' ⟨rfl, hb⟩; exact ⟨rfl, hW.trans (hb.mono hW.size)⟩))
theorem wpList_loadG {P : Program} {ops : Array Oper} {rest : List Oper} {o : Oper} {a : Act} {w : World} {Q : Exit → Act → World → Prop} (hw : Region.wanted o (yielded ops a.tmps) = true) (ty : TypeId) (x : Operand) (ho : o.op = .load ty x) (p : Addr) (hx : a.eval x = .pointer (some p)) (v : Value) (hl : (loadVar ty p).run P w = .ok v w)
    (h : wpList P ops Q rest (a.put o.dst v) w) : wpList P ops Q (o :: rest) a w :=
  BigFrame.wpList_want hw fun _ hK => wp_loadV ty x ho p hx v hl (hK _ _ h)
end Go.Proofs.YtehgpnnfjgmiiaaGreat
end
section
namespace Go.Proofs.YtehgpnnfjgmiiaaGreat
open Go.Shelf Go.RowKit Go.Lib Go.Great
set_option maxRecDepth 100000
set_option maxHeartbeats 1000000
theorem zV28 (W : World) : (zeroValue 79).run Tryz.prog W = .ok (.agg (encI zeroI).toArray) W := by kernel_rfl
/-- The parts of a publisher, one by one. -/
theorem run_build28 (xs : List UInt8) (hx : xs.length = 20) (s b l : Nat) (k : Bool) (W : World) : (Instr.build 79 #[(0, .agg (bcells xs).toArray), (1, .int .u64 (s : Int)), (2, .int .u64 (b : Int)), (3, .int .u32 (l : Int)), (4, .bool k)]).run Tryz.prog W =
    .ok (.agg (bcells xs ++ ([.int .u64 (s : Int), .int .u64 (b : Int), .int .u32 (l : Int), .bool k, .int .u16 0, .int .u16 0, .int .u16 0, .string ⟨#[]⟩] : List Value)).toArray) W := by
  obtain ⟨x0, xs, rfl⟩ := List.exists_cons_of_length_eq_add_one (show xs.length = 19 + 1 by simpa using hx)
  obtain ⟨x1, xs, rfl⟩ := List.exists_cons_of_length_eq_add_one (show xs.length = 18 + 1 by simpa using hx)
  obtain ⟨x2, xs, rfl⟩ := List.exists_cons_of_length_eq_add_one (show xs.length = 17 + 1 by simpa using hx)
  obtain ⟨x3, xs, rfl⟩ := List.exists_cons_of_length_eq_add_one (show xs.length = 16 + 1 by simpa using hx)
  obtain ⟨x4, xs, rfl⟩ := List.exists_cons_of_length_eq_add_one (show xs.length = 15 + 1 by simpa using hx)
  obtain ⟨x5, xs, rfl⟩ := List.exists_cons_of_length_eq_add_one (show xs.length = 14 + 1 by simpa using hx)
  obtain ⟨x6, xs, rfl⟩ := List.exists_cons_of_length_eq_add_one (show xs.length = 13 + 1 by simpa using hx)
  obtain ⟨x7, xs, rfl⟩ := List.exists_cons_of_length_eq_add_one (show xs.length = 12 + 1 by simpa using hx)
  obtain ⟨x8, xs, rfl⟩ := List.exists_cons_of_length_eq_add_one (show xs.length = 11 + 1 by simpa using hx)
  obtain ⟨x9, xs, rfl⟩ := List.exists_cons_of_length_eq_add_one (show xs.length = 10 + 1 by simpa using hx)
  obtain ⟨x10, xs, rfl⟩ := List.exists_cons_of_length_eq_add_one (show xs.length = 9 + 1 by simpa using hx)
  obtain ⟨x11, xs, rfl⟩ := List.exists_cons_of_length_eq_add_one (show xs.length = 8 + 1 by simpa using hx)
  obtain ⟨x12, xs, rfl⟩ := List.exists_cons_of_length_eq_add_one (show xs.length = 7 + 1 by simpa using hx)
  obtain ⟨x13, xs, rfl⟩ := List.exists_cons_of_length_eq_add_one (show xs.length = 6 + 1 by simpa using hx)
  obtain ⟨x14, xs, rfl⟩ := List.exists_cons_of_length_eq_add_one (show xs.length = 5 + 1 by simpa using hx)
  obtain ⟨x15, xs, rfl⟩ := List.exists_cons_of_length_eq_add_one (show xs.length = 4 + 1 by simpa using hx)
  obtain ⟨x16, xs, rfl⟩ := List.exists_cons_of_length_eq_add_one (show xs.length = 3 + 1 by simpa using hx)
  obtain ⟨x17, xs, rfl⟩ := List.exists_cons_of_length_eq_add_one (show xs.length = 2 + 1 by simpa using hx)
  obtain ⟨x18, xs, rfl⟩ := List.exists_cons_of_length_eq_add_one (show xs.length = 1 + 1 by simpa using hx)
  obtain ⟨x19, xs, rfl⟩ := List.exists_cons_of_length_eq_add_one (show xs.length = 0 + 1 by simpa using hx)
  obtain rfl := List.eq_nil_of_length_eq_zero (show xs.length = 0 by simpa using hx)
  kernel_rfl
theorem run_build28i (i : Ins) (W : World) : (Instr.build 79 #[(0, .agg (bcells i.pub).toArray), (1, .int .u64 (i.seq : Int)), (2, .int .u64 (i.born : Int)), (3, .int .u32 (i.life : Int)), (4, .bool true)]).run Tryz.prog W = .ok (.agg (encI (bareI i)).toArray) W :=
  run_build28 i.pub i.hp i.seq i.born i.life true W
theorem wpList_alloc28 {w : World} {ops : Array Oper} {rest : List Oper} {o : Oper} {a : Act} {Q : Exit → Act → World → Prop} (n : Nat) (hn : w.heap.size = n) (hgd : o.guard = none) (d : Nat) (hd : o.dst = some d) (ho : o.op = .alloc 79)
    (h : wpList Tryz.prog ops Q rest (a.put (some d) (.pointer (some ⟨n, 0, none⟩))) (w.alloc (.cells (encI zeroI).toArray 79))) : wpList Tryz.prog ops Q (o :: rest) a w :=
  wpList_plain hgd fun _ hK => by
    subst hn
    have hz := fun W => zV28 W
    generalize (encI zeroI).toArray = Z at hz h
    unfold Oper.wp execOp
    simp only [ho, Instr.alloc, Sem.run_bind, hz, Result.andThen_ok, Value.cells]
    simp [Oper.upon, hd]
    exact hK _ _ h
theorem encI_all (c : Ins) : (encI c).toArray.all (·.oneCell') = true := by
  rw [Array.all_eq_true_iff_forall_mem]
  intro v hv
  exact encI_one c v (by simpa using hv)
theorem wpList_store28 {w : World} {ops : Array Oper} {rest : List Oper} {o : Oper} {a : Act} {Q : Exit → Act → World → Prop} (hgd : o.guard = none) (x y : Operand) (ho : o.op = .store 79 x y) (g : Nat) (c : Ins) (hx : a.eval x = .pointer (some ⟨g, 0, none⟩)) (hy : a.eval y = .agg (encI c).toArray)
    (ht : w.there g 0 28) (h : wpList Tryz.prog ops Q rest (a.put o.dst undef) (w.setCells g 0 (encI c))) : wpList Tryz.prog ops Q (o :: rest) a w := by
  have hsz : (encI c).toArray.size = 28 := by rw [List.size_toArray, encI_length]
  refine wpList_store_mid (P := Tryz.prog) hgd 79 x y ho g 0 (encI c).toArray hx hy (by rw [hsz]; exact ht) (by rw [hsz]; exact size28i) (encI_all c) ?_
  rw [show (encI c).toArray.toList = encI c from rfl]
  exact h
/-- A store into the block made last. -/
theorem wpList_store28n {w : World} {ops : Array Oper} {rest : List Oper} {o : Oper} {a : Act} {Q : Exit → Act → World → Prop} (hgd : o.guard = none) (x y : Operand) (ho : o.op = .store 79 x y) (n : Nat) (hn : w.heap.size = n) (z c : Ins) (hx : a.eval x = .pointer (some ⟨n, 0, none⟩)) (hy : a.eval y = .agg (encI c).toArray)
    (h : wpList Tryz.prog ops Q rest (a.put o.dst undef) (w.alloc (.cells (encI c).toArray 79))) : wpList Tryz.prog ops Q (o :: rest) a (w.alloc (.cells (encI z).toArray 79)) := by
  subst hn
  refine wpList_store28 hgd x y ho w.heap.size c hx hy ?_ ?_
  · have := there_new w 79 (encI z)
    rwa [encI_length] at this
  · rw [setCells_all w 79 (encI z) (encI c) (by rw [encI_length, encI_length])]
    exact h
theorem bare_any (i : Ins) (w : World) : Calls Tryz.prog 83 #[.agg (encI i).toArray] w fun e w' => e = .returned (.agg (encI (bareI i)).toArray) ∧ Below w.heap.size w w' := by
  obtain ⟨h1, h2, hb⟩ := heap2 w (.cells (encI i).toArray 79) (.cells (encI zeroI).toArray 79)
  have HF := fldB h1
  have HK := Lib.hid HF.pub
  have c1 := HF.seq
  have c2 := HF.born
  have c3 := HF.life
  have HBU := Lib.hid (fun W => run_build28i i W)
  obtain ⟨_, k2, kb⟩ := heap2 w (.cells (encI i).toArray 79) (.cells (encI (bareI i)).toArray 79)
  have HR := Lib.hid (row_range k2)
  have HB := Lib.hid kb
  have hl := encI_length (bareI i)
  generalize bareI i = j at *
  obtain ⟨J, hJ⟩ : ∃ J, J = (encI j).toArray := ⟨_, rfl⟩
  have HX := Lib.hid hJ
  rw [← hJ] at HBU HB ⊢
  generalize (encI i).toArray = X at *
  generalize (bcells i.pub).toArray = IX at *
  generalize i.seq = s at *
  generalize i.born = b at *
  generalize i.life = l at *
  clear h1 h2 hb k2 kb hJ HF
  go_enter Tryz.func83, Tryz.ntmps83
  go_wp2_with (first
    | (with_reducible refine wpList_alloc28 (o := ⟨some 2, _, _, _, _, _⟩) (w.heap.size + 1) (by simp) rfl 2 rfl rfl ?_)
    | ((with_reducible refine wpList_loadV (op := ⟨some 4, _, _, _, _, _⟩) rfl 24 (.tmp 3) rfl _ ?_ _ HK.out ?_); rfl)
    | ((with_reducible refine wpList_buildV (o := ⟨some 11, _, _, _, _, _⟩) rfl 79 _ rfl _ ?_ _ (HBU.out _) ?_); (simp only [List.map_toArray, List.map_cons, List.map_nil]; rfl))
    | ((with_reducible refine wpList_store28n (o := ⟨none, _, _, _, _, _⟩) rfl (.tmp 2) (.tmp 11) rfl (w.heap.size + 1) ?_ zeroI j ?_ ?_ ?_); (simp); rfl; (rw [← HX.out]; rfl)))
  have hB := HB.out
  rw [HX.out] at hB ⊢
  refine bodyPost_ret (v := .agg (encI j).toArray) ?_ rfl ?_
  · exact results_cell1 (p := 2) (ty := 79) rfl _ _ (w.heap.size + 1) 0 (encI j) _ rfl HR.out Tryz.underlying79 rfl (by rw [hl]; exact size28i)
  · exact ⟨rfl, hB⟩
/-- A name of small letters. -/
def tgtL (s : List UInt8) : Bool := goodL s && (foldL s == s)
theorem istarget_any (s : List UInt8) (hs : s.length ≤ 100000) (w : World) : Calls Tryz.prog 84 #[.string (bstr s)] w fun e w' => e = .returned (.bool (tgtL s)) ∧ Below w.heap.size w w' := by
  have HG := upB w (goodp_any s)
  have HFo := upB w (fold_any s hs)
  have HE : Hid (tgtL s = (goodL s && (foldL s == s))) := Lib.hid rfl
  have HS : Hid ((((bstr (foldL s)).toList) == ((bstr s).toList)) = (foldL s == s)) := Lib.hid (by rw [bstr_list, bstr_list])
  have HB0 := Lib.hid (Below.refl w.heap.size w)
  generalize tgtL s = r at *
  generalize goodL s = g at *
  generalize (foldL s == s) = f at *
  generalize bstr (foldL s) = F at *
  generalize bstr s = S at *
  cases g
  · have hr : r = false := by rw [HE.out]; rfl
    subst hr
    clear HE HS
    go_enter Tryz.func84, Tryz.ntmps84
    go_wp2_with (go_at_call 103; (with_reducible refine (HG.out _ HB0.out).mono ?_); rintro e w1 ⟨rfl, hb1⟩)
    go_ret
    exact ⟨rfl, hb1⟩
  · have hr : r = f := by rw [HE.out, Bool.true_and]
    subst hr
    have hs2 := HS.out
    clear HE HS
    go_enter Tryz.func84, Tryz.ntmps84
    go_wp2_with (first
      | (go_at_call 103; (with_reducible refine (HG.out _ HB0.out).mono ?_); rintro e w1 ⟨rfl, hb1⟩)
      | (go_at_call 104; (with_reducible refine (HFo.out _ hb1).mono ?_); rintro e w2 ⟨rfl, hb2⟩))
    go_ret
    exact ⟨by simp [hs2], hb2⟩
end Go.Proofs.YtehgpnnfjgmiiaaGreat
end
