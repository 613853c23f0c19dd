/- Contract of the reference of Pad of package sha. No condition but that a length is a number of 64 bits. Contract of the reference's words of a block. Condition: a block has 64 bytes. Contracts of Of of package ident and of the chapter's examples. Conditions: a text has at most 900,000 bytes. The chapter's examples of package ident hold. No condition. -/
import Derived.Test.YtjiiignbejbiiaaXPKept
import Derived.Lib.SlBytesConst
import Derived.LoopTactic
import Derived.Stop.BytesEq
import Derived.Lib.ConvBytes
section
namespace Go.Proofs.Ytjiiignbejbiiaa
set_option maxRecDepth 100000
open Go.RowKit Go.Great
set_option linter.unusedVariables false
set_option linter.unusedSimpArgs false

def RPadRel (w : World) (n : Nat) (v : Value) (wr : World) : Prop :=
  ∃ (j : Nat) (A : Option Addr) (c : Nat), j ≤ zerosN n ∧ v = .slice A (1 + j) c ∧ wr.ownsRow w.heap.size 5 1 (.slice A (1 + j) c) (1 + j) (bcells (128 :: List.replicate j 0)) ∧ Below w.heap.size w wr

theorem pad_mod (n j : Nat) : (IntKind.u64.wrap ((n : Int) + (1 + (j : Int)))).tmod 64 = ((n : Int) + (1 + (j : Int))) % 64 := by
  rw [IntKind.wrap_u64, Int.tmod_eq_emod_of_nonneg (by omega)]
  omega

set_option maxRecDepth 100000 in
theorem rpad_any (n : Nat) (hn : n < 18446744073709551616) (w : World) : Calls Try.prog 61 #[.int .u64 (n : Int)] w (OwnB w (padB n)) := by
  obtain ⟨i0, hi, hz0, hz1, hz2⟩ := info_parts info5
  have hz : zerosN n ≤ 63 := by unfold zerosN; omega
  have HN := Lib.hid hn
  clear hn
  go_enter Try.func61, Try.ntmps61
  go_wp2
  have R0 : RPadRel w n (.slice (some ⟨w.heap.size, 0, none⟩) 1 1) (w.alloc (.cells #[.int .u8 128] 5)) := by
    refine ⟨0, _, _, Nat.zero_le _, rfl, ?_, (Below.refl _ w).alloc (Nat.le_refl _) _⟩
    exact ⟨by simp [bcells], .inr ⟨w.heap.size, 1, _, rfl, Nat.le_refl _, heap_alloc_new w _, Nat.le_refl _, by simp only [maxLen]; omega, rfl, by simp [bcells]⟩⟩
  have HR0 := Lib.hid R0
  clear R0
  go_loopw [3] (RPadRel w n) (fun v _ => zerosN n + 1 - sliceLen v)
  case atStart => exact HR0.out
  case round =>
    obtain ⟨j, A, c, hj, rfl, hown, hb⟩ := hrel
    clear HR0
    by_cases hlt : j < zerosN n
    · obtain ⟨X, hX, hX'⟩ : ∃ X, (IntKind.u64.wrap ((n : Int) + (1 + (j : Int)))).tmod 64 = X ∧ (X != 56) = true := ⟨_, rfl, by rw [pad_mod]; unfold zerosN at hlt; simp; omega⟩
      have R : ∀ v2 w2, w2.ownsRow w.heap.size 5 1 v2 (1 + j + 1) (bcells (128 :: List.replicate j 0) ++ bcells [0]) → (wr.alloc (.cells #[.int .u8 0] 5)).grownBy w2 (Value.ownBlock (.slice A (1 + j) c)) → RPadRel w n v2 w2 ∧ zerosN n + 1 - sliceLen v2 < zerosN n + 1 - sliceLen (.slice A (1 + j) c) := by
        intro v2 w2 h2 g2
        obtain ⟨A2, c2, rfl⟩ := slice_of_own h2
        refine ⟨⟨j + 1, A2, c2, by omega, by rw [show 1 + (j + 1) = 1 + j + 1 from by omega], ?_, (hb.alloc hb.size _).grown g2 (by have := hb.size; simp; omega) (fun b hbb => (hown.lt b hbb).1)⟩, ?_⟩
        · rw [show 1 + (j + 1) = 1 + j + 1 from by omega, List.replicate_succ', ← List.cons_append, bcells_append]
          exact h2
        · simp only [sliceLen]
          omega
      have HH := Lib.hid hown
      have HB := Lib.hid hb
      have HR := Lib.hid R
      clear hown hb R
      go_wp2_with (at_builtin; refine wpList_append_src _ rfl (.tmp 12) (.tmp 13) _ _ rfl w.heap.size 5 i0 _ 1 Try.underlying29 hi hz0 hz1 hz2 rfl _ _ _ rfl (HH.out.alloc _) _ 1 (bcells [0]) rfl (src_one Try.underlying29 _ _ _ _ rfl) (by simp only [maxLen]; omega) (by omega) (by have := HB.out.size; simp; omega) ?_; intro v2 w2 hown2 hg2 hat2)
      exact HR.out v2 w2 hown2 hg2
    · obtain rfl : j = zerosN n := by omega
      have hX : (IntKind.u64.wrap ((n : Int) + (1 + (zerosN n : Int)))).tmod 64 = 56 := by rw [pad_mod]; unfold zerosN; omega
      have e3 : (128 :: List.replicate (zerosN n) (0 : UInt8)).length = 1 + zerosN n := by simp; omega
      have hP := rput_yes A c (n * 8 % 18446744073709551616) 8 (128 :: List.replicate (zerosN n) 0) wr (BAt.of_own hown (Nat.le_refl _)) (by omega) (by omega) (by omega) (by omega)
      rw [e3] at hP
      have e2 : ((n * 8 % 18446744073709551616 : Nat) : Int) = IntKind.u64.wrap ((n : Int) * 8) := by rw [IntKind.wrap_u64]; omega
      rw [e2] at hP
      have hP' : Calls Try.prog 63 #[.slice A (1 + zerosN n) c, .int .u64 (IntKind.u64.wrap ((n : Int) * 8)), .int .i64 8] wr (OwnB wr (padB n)) := hP
      have HP := Lib.hid hP'
      have HB := Lib.hid hb
      clear hP hP' e2 e3 hown hb hlt hj
      go_wp2_with (go_at_call 63; refine (HP.out).mono ?_; rintro e w2 ⟨v2, rfl, ho2, hb2⟩)
      go_ret
      exact ⟨v2, rfl, own_base ho2 HB.out.size, HB.out.trans (hb2.mono HB.out.size)⟩
end Go.Proofs.Ytjiiignbejbiiaa
end
section
namespace Go.Proofs.Ytjiiignbejbiiaa
set_option maxRecDepth 100000
open Go.RowKit Go.Great
set_option linter.unusedVariables false
set_option linter.unusedSimpArgs false

/-- append onto a row of the call's own, from whatever source. -/
theorem run_append_keep {P : Program} (w : World) (base : Nat) (t tx ty e : TypeId) (i : TypeInfo) (z : Value) (bytes : Nat) (ht : P.underlying t = some (.slice e)) (hi : P.info? e = some i) (hz : i.zero = some z)
    (hsize : i.size = 1) (hby : i.bytes = bytes) (hzs : z.cells.size = 1)
    (v : Value) (n : Nat) (xs : List Value) (hown : w.ownsRow base e 1 v n xs)
    (x : Value) (m : Nat) (news : List Value) (hs : Src P 1 tx x m news w)
    (h63 : n + m ≤ maxLen) (hbytes : (n + m) * bytes ≤ 140737488355328) (hbase : base ≤ w.heap.size) :
    ∃ v' w', (Builtin.append_ #[t, tx] ty #[v, x]).run P w = .ok v' w' ∧ w'.ownsRow base e 1 v' (n + m) (xs ++ news) ∧ w.grownBy w' v.ownBlock ∧
      (v'.ownBlock = v.ownBlock ∨ (v'.ownBlock = some w.heap.size ∧ w.grownBy w' none)) := by
  subst hby
  have hl : news.length = m := by simpa using hs.newsLen
  have hxl : xs.length = n := by simpa using hown.1
  have hlen : (xs ++ news).length = (n + m) * 1 := by rw [List.length_append, hxl, hl, Nat.mul_one]
  have hs' : Src P i.size tx x m news w := by rw [hsize]; exact hs
  have grown : ∀ (old : Nat), old < n + m → ∀ (row : Option Nat),
      (w.drew.alloc (.cells ((xs ++ news).toArray ++ Builtin.zeroCells z.cells (grownCap w (n + m) old e - (n + m))) e)).ownsRow base e 1
        (.slice (some ⟨w.heap.size, 0, none⟩) (n + m) (grownCap w (n + m) old e)) (n + m) (xs ++ news) ∧
      w.grownBy (w.drew.alloc (.cells ((xs ++ news).toArray ++ Builtin.zeroCells z.cells (grownCap w (n + m) old e - (n + m))) e)) row := by
    intro old ho row
    have hge := grownCap_ge w (n + m) old e
    have hcm : grownCap w (n + m) old e ≤ maxLen := grownCap_le_maxLen w (n + m) old e h63
    refine ⟨⟨hlen, .inr ⟨w.heap.size, _, _, rfl, hbase, heap_alloc_new w.drew _, hge, hcm, ?_, ?_⟩⟩, ⟨rfl, rfl, rfl, by simp, fun k hk _ => Below.heap_alloc w.drew _ k hk⟩⟩
    · simp only [Array.size_append, List.size_toArray, size_zeroCells, hzs, List.length_append, hxl, hl]
      omega
    · simp only [Array.toList_append]
      rw [← hlen]
      exact List.take_left
  rcases hown.2 with ⟨rfl, rfl⟩ | ⟨g, cap, cur, rfl, hbg, hg, hnc, hcm, hcs, htake⟩
  · have hx : xs = [] := List.eq_nil_of_length_eq_zero hxl
    subst hx
    by_cases hm : m = 0
    · subst hm
      have hn : news = [] := List.eq_nil_of_length_eq_zero hl
      subst hn
      refine ⟨.slice none 0 0, w, ?_, World.ownsRow_nil w base e 1, ⟨rfl, rfl, rfl, Nat.le_refl _, fun _ _ _ => rfl⟩, Or.inl rfl⟩
      have hcl := hs'.cells
      rcases hs.kind with ⟨e', hk⟩ | hk <;> simp [Builtin.append_, run_underlying ht, run_underlying hk, sizeOf, typeInfo, hi, hs.len, hcl]
    · have hold : (Builtin.firstCells i.size 0 (.slice none 0 0)).run P w.drew = .ok ([] : List Value).toArray w.drew := run_firstCells_none w.drew i.size 0 0 0
      have hr := run_append_grow_src (P := P) w t tx ty e i z ht hi hz none 0 0 [] hold x m news hs' (by omega) (by simp only [maxLen] at h63; omega) (growslice_fits (by omega) hbytes)
      have hgr := grown 0 (by omega) (Value.ownBlock (.slice none 0 0))
      exact ⟨_, _, hr, hgr.1, hgr.2, Or.inr ⟨rfl, (grown 0 (by omega) none).2⟩⟩
  · by_cases hroom : n + m ≤ cap
    · have hst := run_storeCells_at P g (n * i.size) e news 0 cur w hg (by rw [hsize, hcs]; omega) hs.one
      have hr : (Builtin.append_ #[t, tx] ty #[.slice (some ⟨g, 0, none⟩) n cap, x]).run P w =
          .ok (.slice (some ⟨g, 0, none⟩) (n + m) cap) (w.setRow g (cur.toList.take (n * i.size) ++ news ++ cur.toList.drop (n * i.size + news.length)).toArray) := by
        simp only [Nat.add_zero] at hst
        rcases hs.kind with ⟨e', hk⟩ | hk <;> simp [Builtin.append_, run_underlying ht, run_underlying hk, sizeOf, typeInfo, hi, hs.len, hroom, hs'.cells, Addr.add_lit, hst]
      rw [hsize] at hr
      refine ⟨_, _, hr, ⟨hlen, .inr ⟨g, cap, _, rfl, hbg, setRow_heap w g cur _ e _ hg, hroom, hcm, ?_, ?_⟩⟩, ⟨rfl, rfl, rfl, by simp, fun k _ hk => setRow_other w g k _ (fun e => hk (by simp [Value.ownBlock, e]))⟩, Or.inl rfl⟩
      · simp only [List.size_toArray, List.length_append, List.length_take, List.length_drop, Array.length_toList]
        omega
      · rw [htake, ← hlen]
        exact List.take_left
    · have holds : (Builtin.firstCells i.size n (.slice (some ⟨g, 0, none⟩) n cap)).run P w.drew = .ok xs.toArray w.drew :=
        run_firstCells_some w.drew i.size n ⟨g, 0, none⟩ n cap xs (by rw [hsize]; exact hown.1) (hown.cells (g := g) rfl)
      have hr := run_append_grow_src (P := P) w t tx ty e i z ht hi hz (some ⟨g, 0, none⟩) n cap xs holds x m news hs' (by omega) (by simp only [maxLen] at h63; omega) (growslice_fits (by omega) hbytes)
      have hgr := grown cap (by omega) (Value.ownBlock (.slice (some ⟨g, 0, none⟩) n cap))
      exact ⟨_, _, hr, hgr.1, hgr.2, Or.inr ⟨rfl, (grown cap (by omega) none).2⟩⟩

theorem wp_append_keep {P : Program} (w : World) {o : Oper} {a : Act} {K : Act → World → Prop} {Q : Exit → Act → World → Prop} (s x : Operand) (t tx : TypeId)
    (ho : o.op = .call { callee := .builtin .append, args := #[s, x], argTypes := #[t, tx] })
    (base : Nat) (e : TypeId) (i : TypeInfo) (z : Value) (bytes : Nat) (ht : P.underlying t = some (.slice e)) (hi : P.info? e = some i) (hz : i.zero = some z)
    (hsize : i.size = 1) (hby : i.bytes = bytes) (hzs : z.cells.size = 1)
    (v : Value) (n : Nat) (xs : List Value) (hs : a.eval s = v) (hown : w.ownsRow base e 1 v n xs)
    (y : Value) (m : Nat) (news : List Value) (hx : a.eval x = y) (hr : Src P 1 tx y m news w)
    (h63 : n + m ≤ maxLen) (hbytes : (n + m) * bytes ≤ 140737488355328) (hbase : base ≤ w.heap.size)
    (h : ∀ v' w', w'.ownsRow base e 1 v' (n + m) (xs ++ news) → w.grownBy w' v.ownBlock → (v'.ownBlock = v.ownBlock ∨ (v'.ownBlock = some w.heap.size ∧ w.grownBy w' none)) → K (a.put o.dst v') w') : o.wp P a w K Q := by
  obtain ⟨v', w', hrun, h2, h3, h4⟩ := run_append_keep (P := P) w base t tx o.type e i z bytes ht hi hz hsize hby hzs v n xs hown y m news hr h63 hbytes hbase
  unfold Oper.wp execOp
  simp only [ho, resolve, invoke, builtin, Sem.run_bind, Sem.run_pure, Result.andThen_ok, List.map_toArray, List.map_cons, List.map_nil, hs, hx, hrun]
  exact h v' w' h2 h3 h4

theorem step_append_keep {P : Program} (w : World) {ops : Array Oper} {o : Oper} {a : Act} {K : Act → World → Prop} {Q : Exit → Act → World → Prop} {E : Prop} (hgd : o.guard = none) (dd : Nat) (hd : o.dst = some dd) (s x : Operand) (t tx : TypeId)
    (ho : o.op = .call { callee := .builtin .append, args := #[s, x], argTypes := #[t, tx] })
    (base : Nat) (e : TypeId) (i : TypeInfo) (z : Value) (bytes : Nat) (ht : P.underlying t = some (.slice e)) (hi : P.info? e = some i) (hz : i.zero = some z)
    (hsize : i.size = 1) (hby : i.bytes = bytes) (hzs : z.cells.size = 1)
    (v : Value) (n : Nat) (xs : List Value) (hs : a.eval s = v) (hown : w.ownsRow base e 1 v n xs)
    (y : Value) (m : Nat) (news : List Value) (hx : a.eval x = y) (hr : Src P 1 tx y m news w)
    (h63 : n + m ≤ maxLen) (hbytes : (n + m) * bytes ≤ 140737488355328) (hbase : base ≤ w.heap.size)
    (h : ∀ v' w', w'.ownsRow base e 1 v' (n + m) (xs ++ news) → w.grownBy w' v.ownBlock → (v'.ownBlock = v.ownBlock ∨ (v'.ownBlock = some w.heap.size ∧ w.grownBy w' none)) → K (a.put (some dd) v') w') :
    if Region.wanted o (yielded ops a.tmps) = true then Oper.wp P o a w K Q else E := by
  have hw : Region.wanted o (yielded ops a.tmps) = true := by simp [Region.wanted, hgd]
  rw [if_pos hw]
  exact wp_append_keep w s x t tx ho base e i z bytes ht hi hz hsize hby hzs v n xs hs hown y m news hx hr h63 hbytes hbase (by rw [hd]; exact h)

/-- What was there stays there. -/
theorem own_keeps {w w' : World} {base g n c : Nat} {e : TypeId} {v' : Value} {xs news : List Value} {m : Nat} (hown : w.ownsRow base e 1 (.slice (some ⟨g, 0, none⟩) n c) n xs) (h2 : w'.ownsRow base e 1 v' (n + m) (xs ++ news))
    (hat : v'.ownBlock = Value.ownBlock (.slice (some ⟨g, 0, none⟩) n c) ∨ (v'.ownBlock = some w.heap.size ∧ w.grownBy w' none)) (i : Nat) (hi : i < n) : w'.cell? ⟨g, i, none⟩ = w.cell? ⟨g, i, none⟩ := by
  have hl := hown.1
  have h0 : w.cell? ⟨g, i, none⟩ = xs[i]? := hown.cellAt i (by omega)
  rcases hat with hat | ⟨_, hg⟩
  · rcases h2.2 with ⟨rfl, hn⟩ | ⟨g2, cap, cur, rfl, _⟩
    · omega
    · have : g2 = g := by simpa [Value.ownBlock] using hat
      subst this
      rw [h2.cellAt i (by omega), h0, List.getElem?_append_left (by omega)]
  · have hlt : g < w.heap.size := (hown.lt g rfl).2
    have := (Below.refl w.heap.size w).grown hg (Nat.le_refl _) (fun k hk => by cases hk)
    exact this.cell (p := ⟨g, i, none⟩) hlt

theorem src_u32 {P : Program} {t e' : TypeId} (hk : P.underlying t = some (.slice e')) (w : World) (e : TypeId) (n : Int) :
    Src P 1 t (.slice (some ⟨w.heap.size, 0, none⟩) 1 1) 1 (ucells [n]) (w.alloc (.cells #[.int .u32 n] e)) := by
  refine Src.ofSlice _ hk _ 1 1 (ucells [n]) rfl (fun j u hu => ?_) (ucells_one _)
  match j, hu with
  | 0, hu =>
    simp [ucells] at hu
    subst hu
    have e0 : (⟨w.heap.size, 0, none⟩ : Addr).add 0 = ⟨w.heap.size, 0, none⟩ := addr_add _ _ _
    rw [e0, cell_of_row _ w.heap.size 0 _ e (0, 0) (heap_alloc_new w _)]
    rfl
  | j + 1, hu => simp [ucells] at hu

def RWRel (w : World) (xs : List UInt8) (v i : Value) (wr : World) : Prop :=
  ∃ (j : Nat) (A : Option Addr) (c : Nat), j ≤ 80 ∧ i = .int .i64 (j : Int) ∧ v = .slice A j c ∧ wr.ownsRow w.heap.size 90 1 (.slice A j c) j (ucells (schI xs j)) ∧ Below w.heap.size w wr
theorem RWRel.step {w wr : World} {xs : List UInt8} {A : Option Addr} {c j : Nat} (hj : j < 80) (hown : wr.ownsRow w.heap.size 90 1 (.slice A j c) j (ucells (schI xs j))) (hb : Below w.heap.size w wr) (n : Int) (hn : n = nextI xs (schI xs j) j) :
    ∀ v2 w2, w2.ownsRow w.heap.size 90 1 v2 (j + 1) (ucells (schI xs j) ++ ucells [n]) → (wr.alloc (.cells #[.int .u32 n] 90)).grownBy w2 (Value.ownBlock (.slice A j c)) → RWRel w xs v2 (.int .i64 ((j : Int) + 1)) w2 := by
  intro v2 w2 h2 g2
  obtain ⟨A2, c2, rfl⟩ := slice_of_own h2
  refine ⟨j + 1, A2, c2, by omega, by go_num, rfl, ?_, (hb.alloc hb.size _).grown g2 (by have := hb.size; simp; omega) (fun b hbb => (hown.lt b hbb).1)⟩
  subst hn
  rw [show schI xs (j + 1) = schI xs j ++ [nextI xs (schI xs j) j] from rfl]
  rw [show ucells (schI xs j ++ [nextI xs (schI xs j) j]) = ucells (schI xs j) ++ ucells [nextI xs (schI xs j) j] from by simp [ucells]]
  exact h2

end Go.Proofs.Ytjiiignbejbiiaa
end
section
namespace Go.Proofs.Ytjiiignbejbiiaa
set_option maxRecDepth 100000
set_option maxHeartbeats 200000
open Go.RowKit Go.Great

/-- A text's bytes, as a new slice. -/
theorem str_bytes (xs : List UInt8) (w : World) : ∃ c W', (convert 9 29 (.string (bstr xs))).run Try.prog w = .ok (.slice (some ⟨w.heap.size, 0, none⟩) xs.length c) W' ∧ BAt W' W'.heap.size (some ⟨w.heap.size, 0, none⟩) xs ∧ Below w.heap.size w W' ∧ xs.length ≤ c := by
  have hr := Lib.run_convert_string_bytes (P := Try.prog) w 9 29 5 (bstr xs) Try.underlying9 Try.underlying29 Try.underlying5
  refine ⟨_, _, hr, ?_, ?_, ?_⟩
  · right
    refine ⟨w.heap.size, 0, rfl, by rw [Lib.bytesWorld_size]; omega, fun j hj => ?_⟩
    rw [Nat.zero_add, Lib.bytesWorld_cell w 5 (bstr xs) j hj]
    simp [bstr, List.getElem?_eq_getElem hj]
  · refine ⟨rfl, rfl, rfl, by rw [Lib.bytesWorld_size]; omega, fun k hk => Lib.bytesWorld_at_old w 5 (bstr xs) k hk⟩
  · exact grownCap_ge w xs.length 0 5

theorem of_any (xs : List UInt8) (hl : xs.length ≤ 900000) (w : World) :
    Calls Try.prog 48 #[.string (bstr xs)] w fun e w' => e = .returned (.agg (bcells (shaI xs)).toArray) ∧ Below w.heap.size w w' := by
  obtain ⟨Z, hZ⟩ : ∃ Z, Z = bcells (List.replicate 20 0) := ⟨_, rfl⟩
  have hz := fun W => zero61 W
  rw [← hZ] at hz
  have hZl : Z.length = 20 := by rw [hZ, bcells_length, List.length_replicate]
  obtain ⟨c, W1, hcv, hx, hb1, hc⟩ := str_bytes xs (w.alloc (.cells Z.toArray 51))
  have HS := Lib.hid (sum_any _ c xs hx hc hl)
  obtain ⟨S, hS⟩ : ∃ S, S = bcells (shaI xs) := ⟨_, rfl⟩
  have hSl : S.length = 20 := by rw [hS, bcells_length]; exact idI_length _
  have hone : ∀ u ∈ S, u.oneCell' = true := by rw [hS]; exact bcells_one _
  rw [← hS] at HS
  have h0 : (w.alloc (.cells Z.toArray 51)).heap[w.heap.size]? = some (.cells Z.toArray 51 (0, 0)) := heap_alloc_new w _
  have hs1 := hb1.size
  have hrow : ∀ W2, Below W1.heap.size W1 W2 → W2.heap[w.heap.size]? = some (.cells Z.toArray 51 (0, 0)) := fun W2 hb => by
    have l0 : w.heap.size < (w.alloc (.cells Z.toArray 51)).heap.size := by simp
    rw [hb.block _ (by omega), hb1.block _ l0]
    exact h0
  have hB : ∀ W2, Below W1.heap.size W1 W2 → Below w.heap.size w W2 := fun W2 hb => by
    have l0 : w.heap.size ≤ (w.alloc (.cells Z.toArray 51)).heap.size := by simp
    exact ((Below.refl _ w).alloc (Nat.le_refl _) _).trans ((hb1.mono l0).trans (hb.mono (by omega)))
  have hsz : S.toArray.size = 20 := (List.size_toArray).trans hSl
  have T1 : Hid ((Try.prog.info? 51).map (·.size) = some S.toArray.size) := Lib.hid (by rw [hsz]; exact size61)
  have R2 := Lib.hid hrow
  have T6 : Hid (Z.toArray.size = S.toArray.size) := Lib.hid (by rw [hsz, List.size_toArray, hZl])
  have T3 : Hid (S.toArray.all (·.oneCell') = true) := Lib.hid (all_oneCell_toArray hone)
  have T4 : Hid ((Try.prog.info? 51).map (·.size) = some S.length) := Lib.hid (by rw [hSl]; exact size61)
  have HBB := Lib.hid hB
  have HSS := Lib.hid hS
  have e1 : (w.alloc (.cells Z.toArray 51)).heap.size = w.heap.size + 1 := by simp
  rw [e1] at hcv HS
  clear e1
  obtain ⟨s, hs⟩ : ∃ s, s = bstr xs := ⟨_, rfl⟩
  rw [← hs] at hcv ⊢
  generalize xs.length = n at hcv HS
  clear hs
  clear hZ hZl hx hb1 hc hSl hone h0 hs1 hrow hB hl hsz hS
  go_enter Try.func48, Try.ntmps48
  go_wp2_with (first
    | (go_at_call 60; refine (HS.out).mono ?_; rintro e w2 ⟨rfl, hb2⟩)
    | ((with_reducible refine wpList_store_row rfl 51 (.tmp 2) (.tmp 5) rfl w.heap.size S.toArray ?_ ?_ 51 Z.toArray (R2.out _ hb2) T1.out T6.out T3.out ?_); rfl; rfl))
  refine bodyPost_ret (v := .agg S.toArray) ?_ rfl ?_
  · exact results_cell1 (p := 2) (ty := 51) rfl _ _ w.heap.size 0 S _ rfl (row_range (setRow_heap _ _ _ S.toArray 51 (0, 0) (R2.out _ hb2))) Try.underlying51 rfl T4.out
  · exact ⟨by rw [← HSS.out], below_setRow (HBB.out _ hb2) (Nat.le_refl _) _⟩
end Go.Proofs.Ytjiiignbejbiiaa
end
section
namespace Go.Proofs.Ytjiiignbejbiiaa
set_option maxRecDepth 100000
set_option maxHeartbeats 200000
open Go.RowKit Go.Great

theorem wpList_buildV {P : Program} {ops : Array Oper} {rest : List Oper} {o : Oper} {a : Act} {w : World} {Q : Exit → Act → World → Prop} (hg : o.guard = none) (t : TypeId) (parts : Array (Nat × Operand)) (ho : o.op = .build t parts) (vs : Array (Nat × Value))
    (hv : (parts.map fun (i, x) => (i, a.eval x)) = vs) (v : Value) (hr : (Instr.build t vs).run P w = .ok v w) (h : wpList P ops Q rest (a.put o.dst v) w) : wpList P ops Q (o :: rest) a w :=
  wpList_plain hg fun _ hK => by
    unfold Oper.wp execOp
    simp only [ho, hv, Sem.run_bind, hr, Result.andThen_ok]
    exact hK _ _ h

end Go.Proofs.Ytjiiignbejbiiaa
end
