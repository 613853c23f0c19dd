/- Contract of the source of the reference (layer 7): Take. Conditions: the bytes are at most 900,000; the number that comes in is an int. Contract of the source of the reference (layer 7): Add. Conditions: the bytes are at most 900,000. -/
import Derived.Test.YtbfhfnbhfeedbaaXPDrb
section
namespace Go.Proofs.Ytbfhfnbhfeedbaa
set_option maxRecDepth 100000
set_option maxHeartbeats 1000000
open Go.RowKit Go.Lib Go.Great

theorem grown_of_bel {w w' : World} (h : Below w.heap.size w w') (row : Option Nat) : w.grownBy w' row := ⟨h.os, h.tape, h.output, h.size, fun k hk _ => h.block k hk⟩
theorem grown_own {w wa w3 : World} {row ob : Option Nat} (h1 : w.grownBy wa row) (h2 : wa.grownBy w3 ob) (hob : ∀ k, ob = some k → w.heap.size ≤ k) : w.grownBy w3 row :=
  ⟨h2.os.trans h1.os, h2.tape.trans h1.tape, h2.output.trans h1.output, Nat.le_trans h1.size h2.size, fun i hi hn => (h2.block i (Nat.lt_of_lt_of_le hi h1.size) (by intro e; have := hob i (by first | exact e | exact e.symm); omega)).trans (h1.block i hi hn)⟩
theorem bcells_oneC (L : List UInt8) : ∀ u ∈ bcells L, u.oneCell' = true := by
  intro u hu
  obtain ⟨n, _, rfl⟩ := List.mem_map.1 hu
  rfl
theorem bcells_app (L M : List UInt8) : bcells (L ++ M) = bcells L ++ bcells M := by simp [bcells]
theorem info5b : ∃ i0, Try.prog.info? 5 = some i0 ∧ i0.zero = some (.int .u8 0) ∧ i0.size = 1 ∧ i0.bytes = 1 := by
  have h : (Try.prog.info? 5).map (fun i => (i.zero, i.size, i.bytes)) = some (some (.int .u8 0), 1, 1) := by kernel_rfl
  cases hi : Try.prog.info? 5 with
  | none => rw [hi] at h; cases h
  | some i =>
    rw [hi] at h
    simp only [Option.map_some, Option.some.injEq, Prod.mk.injEq] at h
    exact ⟨i, rfl, h.1, h.2.1, h.2.2⟩
theorem undBs : Try.prog.underlying 22 = some (.slice 5) := by kernel_rfl
theorem wpList_append_bytes {w : World} {ops : Array Oper} {rest : List Oper} {o : Oper} {a : Act} {Q : Exit → Act → World → Prop} (hgd : o.guard = none) (s x : Operand)
    (ho : o.op = .call { callee := .builtin .append, args := #[s, x], argTypes := #[22, 22] })
    (base : Nat) (v : Value) (L : List UInt8) (hs : a.eval s = v) (hown : w.ownsRow base 5 1 v L.length (bcells L))
    (y : Value) (M : List UInt8) (hx : a.eval x = y) (hr : Src Try.prog 1 22 y M.length (bcells M) w) (h63 : L.length + M.length ≤ 10000000) (hbase : base ≤ w.heap.size)
    (h : ∀ v' w', w'.ownsRow base 5 1 v' (L ++ M).length (bcells (L ++ M)) → w.grownBy w' v.ownBlock → wpList Try.prog ops Q rest (a.put o.dst v') w') : wpList Try.prog ops Q (o :: rest) a w :=
  wpList_plain hgd fun _ hK => by
    obtain ⟨i0, hi, hz0, hz1, hz2⟩ := info5b
    obtain ⟨v', w', hrun, h2, h3, _⟩ := run_append_srcK w base 22 22 o.type 5 i0 _ 1 1 undBs hi hz0 hz1 hz2 rfl v L.length (bcells L) hown y M.length (bcells M) hr (by simp only [maxLen]; omega) (by omega) hbase
    unfold Oper.wp execOp
    simp only [ho, resolve, invoke, builtin, Sem.run_bind, Sem.run_pure, Result.andThen_ok, List.map_toArray, List.map_cons, List.map_nil, hs, hx, hrun]
    refine hK _ _ (h v' w' ?_ h3)
    rw [List.length_append, bcells_app]
    exact h2
theorem row_range {w : World} {g : Nat} {cs : List Value} {ty : TypeId} (h : w.heap[g]? = some (.cells cs.toArray ty (0, 0))) : w.rangeAt g 0 cs := fun i v hv => by
  rw [Nat.zero_add, cell_of_row w _ i _ ty (0, 0) h]
  simpa using hv
theorem src_byte (b : UInt8) (W : World) : Src Try.prog 1 22 (.slice (some ⟨W.heap.size, 0, none⟩) 1 1) [b].length (bcells [b]) (W.alloc (.cells #[.int .u8 (b.toNat : Int)] 5)) := by
  refine Src.ofSlice _ undBs _ 1 1 (bcells [b]) rfl (fun j u hu => ?_) (bcells_oneC _)
  rw [Addr.add_mid]
  exact row_range (cs := [.int .u8 (b.toNat : Int)]) (heap_alloc_new W (.cells #[.int .u8 (b.toNat : Int)] 5)) j u hu

section
variable {w w' w2 w3 : World} {h : Nat} {A : Option Addr} {c : Nat} {xs r r0 : List UInt8}
theorem RS.lt (s : RS w h A c xs r) : h < w.heap.size := by obtain ⟨k, a, _⟩ := s; exact a.lt
/-- A source whose block stays as it stood in w2, while all else of w stays. -/
theorem RS.carry (s : RS w2 h A c xs r) (s0 : RS w h A c xs r0) (hh : w3.heap[h]? = w2.heap[h]?) (hg : w.grownBy w3 (some h)) : RS w3 h A c xs r := by
  obtain ⟨k, a, e⟩ := s
  obtain ⟨k0, a0, _⟩ := s0
  have hne := a0.2.1.ne2 a0.1 (by simp) (by simp)
  exact ⟨k, ⟨hh.trans a.1, ((a0.2.1.grown (Nat.le_refl _) hg hne).more hg.size), a.2.2⟩, e⟩

/-- j bytes, zeros behind the end. -/
def padT (j : Nat) (r : List UInt8) : List UInt8 := r.take j ++ List.replicate (j - r.length) 0
theorem padT_length (j : Nat) (r : List UInt8) : (padT j r).length = j := by unfold padT; rw [List.length_append, List.length_take, List.length_replicate]; omega
theorem padT_succ (j : Nat) (r : List UInt8) : padT (j + 1) r = padT j r ++ [(r.drop j).headD 0] := by
  unfold padT
  by_cases hj : j < r.length
  · rw [show j + 1 - r.length = 0 from by omega, show j - r.length = 0 from by omega, List.replicate_zero, List.append_nil, List.append_nil, List.take_succ_eq_append_getElem hj, List.drop_eq_getElem_cons hj]
    rfl
  · rw [List.take_of_length_le (by omega), List.take_of_length_le (by omega), List.drop_of_length_le (by omega), show j + 1 - r.length = (j - r.length) + 1 from by omega, List.replicate_succ', List.append_assoc]
    rfl

def TkRel (w : World) (h : Nat) (A : Option Addr) (c : Nat) (xs r : List UInt8) (N : Nat) (v i : Value) (w' : World) : Prop :=
  ∃ j : Nat, j ≤ N ∧ i = .int .i64 (j : Int) ∧ w'.ownsRow w.heap.size 5 1 v (padT j r).length (bcells (padT j r)) ∧ RS w' h A c xs (r.drop j) ∧ w.grownBy w' (some h)
/-- What Take tells, and leaves: N is how many bytes. -/
def TkIs (w : World) (h : Nat) (A : Option Addr) (c : Nat) (xs r : List UInt8) (N : Nat) (e : Ending) (w' : World) : Prop :=
  ∃ v, e = .returned v ∧ w'.ownsRow w.heap.size 5 1 v (padT N r).length (bcells (padT N r)) ∧ RS w' h A c xs (r.drop N) ∧ w.grownBy w' (some h)
theorem stake_any (s : RS w h A c xs r) (n : Int) (hn : n ≤ 9223372036854775807) (hn0 : -9223372036854775808 ≤ n) : Calls Try.prog 19 #[.pointer (some ⟨h, 0, none⟩), .int .i64 n] w (TkIs w h A c xs r (min n 1024).toNat) := by
  obtain ⟨N, hN⟩ : ∃ N, N = (min n 1024).toNat := ⟨_, rfl⟩
  rw [← hN]
  have hN1 : N ≤ 1024 := by omega
  have R0 : Hid (TkRel w h A c xs r N (.slice none 0 0) (.int .i64 0) w) := Lib.hid ⟨0, by omega, rfl, ⟨by simp [bcells], .inl ⟨rfl, by simp [padT]⟩⟩, s, World.grownBy.refl _ _⟩
  have HS := Lib.hid s
  have HN := Lib.hid hN
  have hlt0 := s.lt
  clear s hN
  go_enter Try.func19, Try.ntmps19
  go_upto_region 3 with fail
  go_loopw [5, 6] (TkRel w h A c xs r N) (fun _ i _ => N - (RowKit.intOf i).toNat)
  case atStart => exact R0.out
  case round =>
    obtain ⟨j, hj, rfl, hown, hs, hg⟩ := hrel
    clear R0
    have hNN := HN.out
    by_cases hlt : j < N
    · have hm : (j : Int) < min n 1024 := by omega
      have HB := Lib.hid (sbyte_any hs)
      obtain ⟨b, hbd⟩ : ∃ b, b = (r.drop j).headD 0 := ⟨_, rfl⟩
      rw [← hbd] at HB
      have HOW := Lib.hid hown
      have HL : Hid ((padT j r).length + [b].length ≤ 10000000) := Lib.hid (by rw [padT_length]; simp; omega)
      have HREL : Hid (∀ v w2 w3, RS w2 h A c xs (r.drop j).tail → wr.grownBy w2 (some h) → (w2.alloc (.cells #[.int .u8 (b.toNat : Int)] 5)).grownBy w3 u5.ownBlock → w3.ownsRow w.heap.size 5 1 v (padT j r ++ [b]).length (bcells (padT j r ++ [b])) → TkRel w h A c xs r N v (.int .i64 ((j : Int) + 1)) w3) := Lib.hid (fun v w2 w3 a1 a2 a3 a4 => by
        have hob : ∀ k, u5.ownBlock = some k → w.heap.size ≤ k := fun k hk => (HOW.out.lt k hk).1
        have g1 := grownBy_trans hg a2
        have g2 : w.grownBy (w2.alloc (.cells #[.int .u8 (b.toNat : Int)] 5)) (some h) := grownBy_trans g1 (grown_of_bel ((Below.refl _ w2).alloc (Nat.le_refl _) _) _)
        have g3 := grown_own g2 a3 hob
        have hsz : h < w2.heap.size := Nat.lt_of_lt_of_le hlt0 g1.size
        have e1 : w3.heap[h]? = (w2.alloc (.cells #[.int .u8 (b.toNat : Int)] 5)).heap[h]? := a3.block h (by simp; omega) (by intro e; have := hob h (by first | exact e | exact e.symm); omega)
        have e2 : (w2.alloc (.cells #[.int .u8 (b.toNat : Int)] 5)).heap[h]? = w2.heap[h]? := ((Below.refl w2.heap.size w2).alloc (Nat.le_refl _) (.cells #[.int .u8 (b.toNat : Int)] 5)).block h hsz
        refine ⟨j + 1, by omega, by go_num, by rw [padT_succ, ← hbd]; exact a4, ?_, g3⟩
        have := a1.carry HS.out (e1.trans e2) g3
        rw [List.tail_drop] at this
        exact this)
      have HOK : Hid (∀ w2, wr.grownBy w2 (some h) → (w2.alloc (.cells #[.int .u8 (b.toNat : Int)] 5)).ownsRow w.heap.size 5 1 u5 (padT j r).length (bcells (padT j r))) := Lib.hid (fun w2 a2 => (HOW.out.kept a2 (.inr (by
        intro e
        have := (HOW.out.lt h (by first | exact e | exact e.symm)).1
        omega))).alloc _)
      have HG := Lib.hid hg
      clear hs hg hown hbd hNN
      go_upto_region 4 with (first
        | (go_at_call 13; (with_reducible refine HB.out.mono ?_); rintro e w2 ⟨rfl, hs2, hg2⟩)
        | (refine wpList_append_bytes rfl (.tmp 13) (.tmp 16) rfl w.heap.size u5 (padT j r) rfl (HOK.out _ hg2) _ [b] rfl (src_byte b _) HL.out (by have := HG.out.size; have := hg2.size; simp; omega) ?_; intro v3 w3 ho3 hg3))
      have HR2 := Lib.hid (HREL.out _ _ _ hs2 hg2 hg3 ho3)
      clear HREL hs2 hg2 hg3 ho3 HB HOK HOW
      go_wp2
      go_roundw
      case rel => exact HR2.out
      case measure => simp [RowKit.intOf]; omega
    · obtain rfl : j = N := by omega
      have hm : ¬ (j : Int) < min n 1024 := by omega
      have HF : Hid (TkIs w h A c xs r j (.returned u5) wr) := Lib.hid ⟨_, rfl, hown, hs, hg⟩
      clear hs hg hown hNN
      go_wp2
      go_ret
      exact HF.out
end
end Go.Proofs.Ytbfhfnbhfeedbaa
end
section
namespace Go.Proofs.Ytbfhfnbhfeedbaa
set_option maxRecDepth 100000
set_option maxHeartbeats 1000000
open Go.RowKit Go.Lib Go.Great
theorem BAt.srcB {w : World} {B : Nat} {A : Option Addr} {xs : List UInt8} (h : BAt w B A xs) (c : Nat) : Src Try.prog 1 22 (.slice A xs.length c) xs.length (bcells xs) w := by
  cases A with
  | none =>
    obtain rfl : xs = [] := by
      rcases h with e | ⟨g, off, e, _⟩
      · exact e
      · cases e
    exact Src.ofNil w undBs c
  | some a =>
    refine Src.ofSlice w undBs a xs.length c (bcells xs) (by simp [bcells]) (fun j u hu => ?_) (bcells_oneC xs)
    rcases h with rfl | ⟨g, off, ha, hg, hc⟩
    · simp [bcells] at hu
    · injection ha with ha
      subst ha
      have hj : j < xs.length := by
        have := (List.getElem?_eq_some_iff.1 hu).1
        simpa [bcells] using this
      simp only [bcells, List.getElem?_map, List.getElem?_eq_getElem hj, Option.map_some, Option.some.injEq] at hu
      subst hu
      rw [Addr.add_mid]
      exact hc j hj
theorem own_bat {base n : Nat} {v : Value} {xs : List UInt8} {W : World} (h : W.ownsRow base 5 1 v n (bcells xs)) : ∃ A c, v = .slice A xs.length c ∧ BAt W W.heap.size A xs ∧ (∀ g off, A = some ⟨g, off, none⟩ → base ≤ g) := by
  have hl := h.1
  rw [show (bcells xs).length = xs.length from by simp [bcells], Nat.mul_one] at hl
  rcases h.2 with ⟨rfl, h0⟩ | ⟨g, cap, cur, rfl, hb, hg, hc, _⟩
  · have hL : xs = [] := List.eq_nil_of_length_eq_zero (by omega)
    subst hL
    exact ⟨none, 0, rfl, .inl rfl, fun _ _ e => by cases e⟩
  · refine ⟨some ⟨g, 0, none⟩, cap, by rw [hl], .inr ⟨g, 0, rfl, (Array.getElem?_eq_some_iff.1 hg).1, fun j hj => ?_⟩, fun g' off e => by injection e with e; injection e with e1 e2; omega⟩
    have := h.cells (g := g) rfl j (.int .u8 (xs[j].toNat : Int)) (by simp [bcells, List.getElem?_map, List.getElem?_eq_getElem hj])
    rwa [Addr.add_mid] at this
section
variable {w w' w2 w3 : World} {h : Nat} {A A2 : Option Addr} {c c2 : Nat} {xs r bs : List UInt8}
theorem sadd_no (s : RS w h A c xs r) (hb : 65536 < bs.length ∨ 65536 < r.length + bs.length) : Calls Try.prog 21 #[.pointer (some ⟨h, 0, none⟩), .slice A2 bs.length c2] w fun e w' => e = .returned (.int .i64 31) ∧ ∃ n, w' = w.drewN n := by
  have HL := Lib.hid (sleft_any s)
  have hr : r.length ≤ 900000 := by obtain ⟨k, a, rfl⟩ := s; have := a.2.2.2; rw [List.length_drop]; omega
  have hq : (65536 : Int) < (bs.length : Int) ∨ (¬ (65536 : Int) < (bs.length : Int) ∧ (65536 : Int) - (bs.length : Int) < (r.length : Int)) := by omega
  clear s hb
  generalize bs.length = b at *
  generalize r.length = l at *
  rcases hq with q | ⟨q, q'⟩
  · go_enter Try.func21, Try.ntmps21
    go_wp2
    go_ret
    exact ⟨rfl, 0, rfl⟩
  · go_enter Try.func21, Try.ntmps21
    go_wp2_with (go_at_call 24; (with_reducible refine HL.out.mono ?_); rintro e w1 ⟨rfl, n1, rfl⟩)
    go_ret
    exact ⟨rfl, n1, rfl⟩
theorem sadd_yes (s : RS w h A c xs r) (hb : bs.length ≤ 65536) (hb2 : r.length + bs.length ≤ 65536) (hx : xs.length + bs.length ≤ 900000) (hA : BAt w w.heap.size A2 bs) : Calls Try.prog 21 #[.pointer (some ⟨h, 0, none⟩), .slice A2 bs.length c2] w fun e w' => e = .returned (.int .i64 0) ∧ (∃ A' c', RS w' h A' c' (xs ++ bs) (r ++ bs)) ∧ w.grownBy w' (some h) := by
  have HL := Lib.hid (sleft_any s)
  have hq : ¬ (65536 : Int) < (bs.length : Int) := by omega
  have hq' : ¬ (65536 : Int) - (bs.length : Int) < (r.length : Int) := by omega
  obtain ⟨k, a, hr⟩ := s
  have HA := Lib.hid a
  have HB := Lib.hid hA
  have hlt := a.lt
  have HSZ : Hid (([] : List UInt8).length + xs.length ≤ 10000000 ∧ ([] ++ xs).length + bs.length ≤ 10000000) := Lib.hid (by simp; omega)
  obtain ⟨b, hbb⟩ : ∃ b, b = bs.length := ⟨_, rfl⟩
  have HBB := Lib.hid hbb
  have HXX := Lib.hid hx
  have HRR := Lib.hid hr
  rw [← hbb] at hq hq' ⊢
  clear a hA hr hb hb2 hx hbb
  generalize r.length = l at *
  go_enter Try.func21, Try.ntmps21
  go_upto_region 3 with (go_at_call 24; (with_reducible refine HL.out.mono ?_); rintro e w1 ⟨rfl, n1, rfl⟩)
  have hb1 : Below w.heap.size w ((w.drewN n1).alloc (.cells #[] 5)) := (show Below w.heap.size w (w.drewN n1) by first | exact (Below.refl _ w).drewN n1 | exact ⟨rfl, rfl, rfl, Nat.le_refl _, fun _ _ => rfl⟩ | exact (Below.refl _ w)).alloc (Nat.le_refl _) _
  have c0 : ((w.drewN n1).alloc (.cells #[] 5)).cell? ⟨h, 0, none⟩ = some (.slice A xs.length c) := (HA.out.below hb1 (Nat.le_refl _)).cells.1
  have HO1 : Hid (((w.drewN n1).alloc (.cells #[] 5)).ownsRow w.heap.size 5 1 (.slice (some ⟨w.heap.size, 0, none⟩) 0 0) ([] : List UInt8).length (bcells [])) := Lib.hid ⟨by simp [bcells], .inr ⟨w.heap.size, 0, #[], rfl, Nat.le_refl _, heap_alloc_new (w.drewN n1) (.cells #[] 5), Nat.le_refl _, by simp [maxLen], rfl, rfl⟩⟩
  have HB1 := Lib.hid hb1
  clear hb1
  have HG2 : Hid (∀ w2, ((w.drewN n1).alloc (.cells #[] 5)).grownBy w2 (some w.heap.size) → w.grownBy w2 (some h)) := Lib.hid (fun w2 g => grown_own (grown_of_bel HB1.out _) g (by rintro k e; injection e with e; omega))
  have HSR : Hid (∀ w2, w.grownBy w2 (some h) → Src Try.prog 1 22 (.slice A2 b c2) bs.length (bcells bs) w2) := Lib.hid (fun w2 g => by
    have := (HB.out.grown (Nat.le_refl _) g (HB.out.ne2 HA.out.1 (by simp) (by simp))).srcB c2
    rw [HBB.out]
    exact this)
  go_upto_region 4 with (first
    | (refine wpList_append_bytes rfl (.tmp 17) (.tmp 21) rfl w.heap.size (.slice (some ⟨w.heap.size, 0, none⟩) 0 0) [] rfl HO1.out _ xs rfl ((HA.out.below HB1.out (Nat.le_refl _)).2.1.srcB c) HSZ.out.1 HB1.out.size ?_; intro v2 w2 ho2 hg2)
    | (refine wpList_append_bytes rfl (.tmp 22) (.tmp 23) rfl w.heap.size v2 ([] ++ xs) rfl ho2 _ bs rfl (HSR.out _ (HG2.out _ hg2)) HSZ.out.2 (HG2.out _ hg2).size ?_; intro v3 w3 ho3 hg3; refine Hid.out ?_))
  refine Lib.hid ?_
  have g2 := HG2.out _ hg2
  have hob : ∀ k, v2.ownBlock = some k → w.heap.size ≤ k := fun k hk => (ho2.lt k hk).1
  have g3 := grown_own g2 hg3 hob
  have e3 : w3.heap[h]? = w2.heap[h]? := hg3.block h (Nat.lt_of_lt_of_le hlt g2.size) (by intro e; have := hob h (by first | exact e | exact e.symm); omega)
  have e2 : w2.heap[h]? = ((w.drewN n1).alloc (.cells #[] 5)).heap[h]? := hg2.block h (Nat.lt_of_lt_of_le hlt HB1.out.size) (by
    intro e
    have e' : some h = some w.heap.size := by first | exact e | exact e.symm
    injection e' with e'
    omega)
  have e1 := HB1.out.block h hlt
  have row := ((e3.trans e2).trans e1).trans HA.out.1
  obtain ⟨A3, c3, rfl, hbat, hge⟩ := own_bat ho3
  have cc := cell_of_row w3 h 0 _ 29 (0, 0) row
  simp at cc
  have ff := frozen_of_row w3 h 0 _ 29 row
  have HF : Hid ((∃ A' c', RS (w3.setCell ⟨h, 0, none⟩ (.slice A3 ([] ++ xs ++ bs).length c3)) h A' c' (xs ++ bs) (r ++ bs)) ∧ w.grownBy (w3.setCell ⟨h, 0, none⟩ (.slice A3 ([] ++ xs ++ bs).length c3)) (some h)) := Lib.hid (by
    refine ⟨⟨A3, c3, k, ⟨?_, ?_, ?_, ?_⟩, ?_⟩, grownBy_setCell g3 _ _⟩
    · have s0 := heap_setCell_same w3 h 0 _ 29 (.slice A3 ([] ++ xs ++ bs).length c3) row
      simpa using s0
    · have := hbat.set (g := h) (j := 0) (.slice A3 ([] ++ xs ++ bs).length c3) (fun g' off e _ => by have := hge g' off e; omega)
      simpa [World.setCell] using this
    · have := HA.out.2.2.1; rw [List.length_append]; omega
    · rw [List.length_append]; exact HXX.out
    · rw [HRR.out, List.drop_append_of_le_length HA.out.2.2.1])
  clear g2 g3 e1 e2 e3 hbat hge ho3 ho2 hg2 hg3 row hob HA HB HB1 HG2 HSR HO1 c0
  generalize ([] ++ xs ++ bs).length = L3 at *
  go_wp2
  go_ret
  exact ⟨rfl, HF.out⟩
end
end Go.Proofs.Ytbfhfnbhfeedbaa
end
