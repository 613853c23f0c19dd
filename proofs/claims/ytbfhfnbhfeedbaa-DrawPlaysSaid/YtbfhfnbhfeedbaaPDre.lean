/- Contract of the source of the reference (layer 7): Take. Conditions: the bytes are at most 900,000; the number that comes in is an int. -/
import Derived.Test.YtbfhfnbhfeedbaaPDrd
namespace Go.Proofs.Ytbfhfnbhfeedbaa
set_option maxRecDepth 100000
set_option maxHeartbeats 1000000
open Go.RowKit Go.Lib Go.Great

theorem grown_of_bel {w w' : World} (h : Below w.heap.size w w') (row : Option Nat) : w.grownBy w' row := ⟨h.os, h.tape, h.output, h.size, fun k hk _ => h.block k hk⟩
theorem grown_own {w wa w3 : World} {row ob : Option Nat} (h1 : w.grownBy wa row) (h2 : wa.grownBy w3 ob) (hob : ∀ k, ob = some k → w.heap.size ≤ k) : w.grownBy w3 row :=
  ⟨h2.os.trans h1.os, h2.tape.trans h1.tape, h2.output.trans h1.output, Nat.le_trans h1.size h2.size, fun i hi hn => (h2.block i (Nat.lt_of_lt_of_le hi h1.size) (by intro e; have := hob i (by first | exact e | exact e.symm); omega)).trans (h1.block i hi hn)⟩
theorem bcells_oneC (L : List UInt8) : ∀ u ∈ bcells L, u.oneCell' = true := by
  intro u hu
  obtain ⟨n, _, rfl⟩ := List.mem_map.1 hu
  rfl
theorem bcells_app (L M : List UInt8) : bcells (L ++ M) = bcells L ++ bcells M := by simp [bcells]
theorem info5b : ∃ i0, Try.prog.info? 5 = some i0 ∧ i0.zero = some (.int .u8 0) ∧ i0.size = 1 ∧ i0.bytes = 1 := by
  have h : (Try.prog.info? 5).map (fun i => (i.zero, i.size, i.bytes)) = some (some (.int .u8 0), 1, 1) := by kernel_rfl
  cases hi : Try.prog.info? 5 with
  | none => rw [hi] at h; cases h
  | some i =>
    rw [hi] at h
    simp only [Option.map_some, Option.some.injEq, Prod.mk.injEq] at h
    exact ⟨i, rfl, h.1, h.2.1, h.2.2⟩
theorem undBs : Try.prog.underlying 22 = some (.slice 5) := by kernel_rfl
theorem wpList_append_bytes {w : World} {ops : Array Oper} {rest : List Oper} {o : Oper} {a : Act} {Q : Exit → Act → World → Prop} (hgd : o.guard = none) (s x : Operand)
    (ho : o.op = .call { callee := .builtin .append, args := #[s, x], argTypes := #[22, 22] })
    (base : Nat) (v : Value) (L : List UInt8) (hs : a.eval s = v) (hown : w.ownsRow base 5 1 v L.length (bcells L))
    (y : Value) (M : List UInt8) (hx : a.eval x = y) (hr : Src Try.prog 1 22 y M.length (bcells M) w) (h63 : L.length + M.length ≤ 10000000) (hbase : base ≤ w.heap.size)
    (h : ∀ v' w', w'.ownsRow base 5 1 v' (L ++ M).length (bcells (L ++ M)) → w.grownBy w' v.ownBlock → wpList Try.prog ops Q rest (a.put o.dst v') w') : wpList Try.prog ops Q (o :: rest) a w :=
  wpList_plain hgd fun _ hK => by
    obtain ⟨i0, hi, hz0, hz1, hz2⟩ := info5b
    obtain ⟨v', w', hrun, h2, h3, _⟩ := run_append_srcK w base 22 22 o.type 5 i0 _ 1 1 undBs hi hz0 hz1 hz2 rfl v L.length (bcells L) hown y M.length (bcells M) hr (by simp only [maxLen]; omega) (by omega) hbase
    unfold Oper.wp execOp
    simp only [ho, resolve, invoke, builtin, Sem.run_bind, Sem.run_pure, Result.andThen_ok, List.map_toArray, List.map_cons, List.map_nil, hs, hx, hrun]
    refine hK _ _ (h v' w' ?_ h3)
    rw [List.length_append, bcells_app]
    exact h2
theorem row_range {w : World} {g : Nat} {cs : List Value} {ty : TypeId} (h : w.heap[g]? = some (.cells cs.toArray ty (0, 0))) : w.rangeAt g 0 cs := fun i v hv => by
  rw [Nat.zero_add, cell_of_row w _ i _ ty (0, 0) h]
  simpa using hv
theorem src_byte (b : UInt8) (W : World) : Src Try.prog 1 22 (.slice (some ⟨W.heap.size, 0, none⟩) 1 1) [b].length (bcells [b]) (W.alloc (.cells #[.int .u8 (b.toNat : Int)] 5)) := by
  refine Src.ofSlice _ undBs _ 1 1 (bcells [b]) rfl (fun j u hu => ?_) (bcells_oneC _)
  rw [Addr.add_mid]
  exact row_range (cs := [.int .u8 (b.toNat : Int)]) (heap_alloc_new W (.cells #[.int .u8 (b.toNat : Int)] 5)) j u hu

section
variable {w w' w2 w3 : World} {h : Nat} {A : Option Addr} {c : Nat} {xs r r0 : List UInt8}
theorem RS.lt (s : RS w h A c xs r) : h < w.heap.size := by obtain ⟨k, a, _⟩ := s; exact a.lt
/-- A source whose block stays as it stood in w2, while all else of w stays. -/
theorem RS.carry (s : RS w2 h A c xs r) (s0 : RS w h A c xs r0) (hh : w3.heap[h]? = w2.heap[h]?) (hg : w.grownBy w3 (some h)) : RS w3 h A c xs r := by
  obtain ⟨k, a, e⟩ := s
  obtain ⟨k0, a0, _⟩ := s0
  have hne := a0.2.1.ne2 a0.1 (by simp) (by simp)
  exact ⟨k, ⟨hh.trans a.1, ((a0.2.1.grown (Nat.le_refl _) hg hne).more hg.size), a.2.2⟩, e⟩

/-- j bytes, zeros behind the end. -/
def padT (j : Nat) (r : List UInt8) : List UInt8 := r.take j ++ List.replicate (j - r.length) 0
theorem padT_length (j : Nat) (r : List UInt8) : (padT j r).length = j := by unfold padT; rw [List.length_append, List.length_take, List.length_replicate]; omega
theorem padT_succ (j : Nat) (r : List UInt8) : padT (j + 1) r = padT j r ++ [(r.drop j).headD 0] := by
  unfold padT
  by_cases hj : j < r.length
  · rw [show j + 1 - r.length = 0 from by omega, show j - r.length = 0 from by omega, List.replicate_zero, List.append_nil, List.append_nil, List.take_succ_eq_append_getElem hj, List.drop_eq_getElem_cons hj]
    rfl
  · rw [List.take_of_length_le (by omega), List.take_of_length_le (by omega), List.drop_of_length_le (by omega), show j + 1 - r.length = (j - r.length) + 1 from by omega, List.replicate_succ', List.append_assoc]
    rfl

def TkRel (w : World) (h : Nat) (A : Option Addr) (c : Nat) (xs r : List UInt8) (N : Nat) (v i : Value) (w' : World) : Prop :=
  ∃ j : Nat, j ≤ N ∧ i = .int .i64 (j : Int) ∧ w'.ownsRow w.heap.size 5 1 v (padT j r).length (bcells (padT j r)) ∧ RS w' h A c xs (r.drop j) ∧ w.grownBy w' (some h)
/-- What Take tells, and leaves: N is how many bytes. -/
def TkIs (w : World) (h : Nat) (A : Option Addr) (c : Nat) (xs r : List UInt8) (N : Nat) (e : Ending) (w' : World) : Prop :=
  ∃ v, e = .returned v ∧ w'.ownsRow w.heap.size 5 1 v (padT N r).length (bcells (padT N r)) ∧ RS w' h A c xs (r.drop N) ∧ w.grownBy w' (some h)
theorem stake_any (s : RS w h A c xs r) (n : Int) (hn : n ≤ 9223372036854775807) (hn0 : -9223372036854775808 ≤ n) : Calls Try.prog 19 #[.pointer (some ⟨h, 0, none⟩), .int .i64 n] w (TkIs w h A c xs r (min n 1024).toNat) := by
  obtain ⟨N, hN⟩ : ∃ N, N = (min n 1024).toNat := ⟨_, rfl⟩
  rw [← hN]
  have hN1 : N ≤ 1024 := by omega
  have R0 : Hid (TkRel w h A c xs r N (.slice none 0 0) (.int .i64 0) w) := Lib.hid ⟨0, by omega, rfl, ⟨by simp [bcells], .inl ⟨rfl, by simp [padT]⟩⟩, s, World.grownBy.refl _ _⟩
  have HS := Lib.hid s
  have HN := Lib.hid hN
  have hlt0 := s.lt
  clear s hN
  go_enter Try.func19, Try.ntmps19
  go_upto_region 3 with fail
  go_loopw [5, 6] (TkRel w h A c xs r N) (fun _ i _ => N - (RowKit.intOf i).toNat)
  case atStart => exact R0.out
  case round =>
    obtain ⟨j, hj, rfl, hown, hs, hg⟩ := hrel
    clear R0
    have hNN := HN.out
    by_cases hlt : j < N
    · have hm : (j : Int) < min n 1024 := by omega
      have HB := Lib.hid (sbyte_any hs)
      obtain ⟨b, hbd⟩ : ∃ b, b = (r.drop j).headD 0 := ⟨_, rfl⟩
      rw [← hbd] at HB
      have HOW := Lib.hid hown
      have HL : Hid ((padT j r).length + [b].length ≤ 10000000) := Lib.hid (by rw [padT_length]; simp; omega)
      have HREL : Hid (∀ v w2 w3, RS w2 h A c xs (r.drop j).tail → wr.grownBy w2 (some h) → (w2.alloc (.cells #[.int .u8 (b.toNat : Int)] 5)).grownBy w3 u5.ownBlock → w3.ownsRow w.heap.size 5 1 v (padT j r ++ [b]).length (bcells (padT j r ++ [b])) → TkRel w h A c xs r N v (.int .i64 ((j : Int) + 1)) w3) := Lib.hid (fun v w2 w3 a1 a2 a3 a4 => by
        have hob : ∀ k, u5.ownBlock = some k → w.heap.size ≤ k := fun k hk => (HOW.out.lt k hk).1
        have g1 := grownBy_trans hg a2
        have g2 : w.grownBy (w2.alloc (.cells #[.int .u8 (b.toNat : Int)] 5)) (some h) := grownBy_trans g1 (grown_of_bel ((Below.refl _ w2).alloc (Nat.le_refl _) _) _)
        have g3 := grown_own g2 a3 hob
        have hsz : h < w2.heap.size := Nat.lt_of_lt_of_le hlt0 g1.size
        have e1 : w3.heap[h]? = (w2.alloc (.cells #[.int .u8 (b.toNat : Int)] 5)).heap[h]? := a3.block h (by simp; omega) (by intro e; have := hob h (by first | exact e | exact e.symm); omega)
        have e2 : (w2.alloc (.cells #[.int .u8 (b.toNat : Int)] 5)).heap[h]? = w2.heap[h]? := ((Below.refl w2.heap.size w2).alloc (Nat.le_refl _) (.cells #[.int .u8 (b.toNat : Int)] 5)).block h hsz
        refine ⟨j + 1, by omega, by go_num, by rw [padT_succ, ← hbd]; exact a4, ?_, g3⟩
        have := a1.carry HS.out (e1.trans e2) g3
        rw [List.tail_drop] at this
        exact this)
      have HOK : Hid (∀ w2, wr.grownBy w2 (some h) → (w2.alloc (.cells #[.int .u8 (b.toNat : Int)] 5)).ownsRow w.heap.size 5 1 u5 (padT j r).length (bcells (padT j r))) := Lib.hid (fun w2 a2 => (HOW.out.kept a2 (.inr (by
        intro e
        have := (HOW.out.lt h (by first | exact e | exact e.symm)).1
        omega))).alloc _)
      have HG := Lib.hid hg
      clear hs hg hown hbd hNN
      go_upto_region 4 with (first
        | (go_at_call 13; (with_reducible refine HB.out.mono ?_); rintro e w2 ⟨rfl, hs2, hg2⟩)
        | (refine wpList_append_bytes rfl (.tmp 13) (.tmp 16) rfl w.heap.size u5 (padT j r) rfl (HOK.out _ hg2) _ [b] rfl (src_byte b _) HL.out (by have := HG.out.size; have := hg2.size; simp; omega) ?_; intro v3 w3 ho3 hg3))
      have HR2 := Lib.hid (HREL.out _ _ _ hs2 hg2 hg3 ho3)
      clear HREL hs2 hg2 hg3 ho3 HB HOK HOW
      go_wp2
      go_roundw
      case rel => exact HR2.out
      case measure => simp [RowKit.intOf]; omega
    · obtain rfl : j = N := by omega
      have hm : ¬ (j : Int) < min n 1024 := by omega
      have HF : Hid (TkIs w h A c xs r j (.returned u5) wr) := Lib.hid ⟨_, rfl, hown, hs, hg⟩
      clear hs hg hown hNN
      go_wp2
      go_ret
      exact HF.out
end
end Go.Proofs.Ytbfhfnbhfeedbaa
