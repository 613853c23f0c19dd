/- Contracts of draw at a source that no call made. No condition. Add and Clone of draw (the program). Conditions: the bytes are at most 900,000. -/
import Derived.Test.YtbfhfnbhfeedbaaXDse
section
namespace Go.Proofs.Ytbfhfnbhfeedbaa
set_option maxRecDepth 100000
set_option maxHeartbeats 1000000
open Go.RowKit Go.Lib Go.Great
/-- A source that no call made. -/
def DNx (w : World) (p : Option Addr) (go : Option Nat) (xs : List UInt8) : Prop :=
  go = none ∧ xs = [] ∧ (p = none ∨ ∃ h, p = some ⟨h, 0, none⟩ ∧ w.heap[h]? = some (.cells #[.bool false, .slice none 0 0] 51 (0, 0)))
section
variable {w w' w2 : World} {h : Nat} {go : Option Nat} {xs : List UInt8} {p : Option Addr} {v : Value}
theorem DNx.drewN (s : DNx w p go xs) (n : Nat) : DNx (w.drewN n) p go xs := s
theorem DNx.st (s : DNx w p go xs) : DSt w p go xs := by
  obtain ⟨rfl, rfl, rfl | ⟨h, rfl, a⟩⟩ := s
  · exact .inl ⟨rfl, rfl, rfl⟩
  · exact .inr ⟨h, rfl, .inl ⟨a, rfl, rfl⟩⟩
theorem DNx.lt (s : DNx w p go xs) : (∀ h, pblk p = some h → h < w.heap.size) ∧ ∀ g, go = some g → g < w.heap.size := s.st.lt
theorem DNx.keep (s : DNx w p go xs) (hh : ∀ h, pblk p = some h → w'.heap[h]? = w.heap[h]?) (_hk : ∀ g, go = some g → w'.heap[g]? = w.heap[g]?) : DNx w' p go xs := by
  obtain ⟨rfl, rfl, rfl | ⟨h, rfl, a⟩⟩ := s
  · exact ⟨rfl, rfl, .inl rfl⟩
  · exact ⟨rfl, rfl, .inr ⟨h, rfl, (hh h rfl).trans a⟩⟩
theorem DNx.below {B : Nat} (s : DNx w p go xs) (hb : Below B w w') (hB : w.heap.size ≤ B) : DNx w' p go xs :=
  s.keep (fun h e => hb.block h (Nat.lt_of_lt_of_le (s.lt.1 h e) hB)) (fun g e => hb.block g (Nat.lt_of_lt_of_le (s.lt.2 g e) hB))
theorem DNx.nil (s : DNx w p go xs) : xs = [] := s.2.1
def NBytePX (w : World) (p : Option Addr) (go : Option Nat) (xs : List UInt8) (e : Ending) (w' : World) : Prop :=
  e = .returned (.int .u8 ((xs.headD 0).toNat : Int)) ∧ DNx w' p go xs.tail ∧ w.grownBy w' (pblk p)
theorem nbyte_anyX (s : DNx w p go xs) : Calls Try.prog 12 #[.pointer p] w (NBytePX w p go xs) := by
  obtain rfl := s.nil
  have HL := Lib.hid (nleft_any s.st)
  have R : ∀ n, NBytePX w p go [] (.returned (.int .u8 0)) (w.drewN n) := fun n => ⟨by simp, s.drewN n, grownBy_drewN n _⟩
  have HR := Lib.hid R
  clear s R
  simp only [List.length_nil] at HL
  go_enter Try.func12, Try.ntmps12
  go_wp2_with (go_at_call 23; (with_reducible refine HL.out.mono ?_); rintro e w1 ⟨rfl, n1, rfl⟩)
  go_ret
  exact HR.out n1
theorem nleft_anyX (s : DNx w p go xs) : Calls Try.prog 23 #[.pointer p] w fun e w' => e = .returned (.int .i64 0) ∧ DNx w' p go xs ∧ w.grownBy w' (pblk p) := by
  refine (nleft_any s.st).mono ?_
  rintro e w1 ⟨rfl, n1, rfl⟩
  rw [s.nil]
  exact ⟨rfl, by rw [← s.nil]; exact s.drewN n1, grownBy_drewN n1 _⟩
theorem nadd_no (s : DNx w p go xs) (A : Option Addr) (l c : Nat) : Calls Try.prog 20 #[.pointer p, .slice A l c] w fun e w' => e = .returned (.int .i64 1) ∧ w' = w := by
  obtain ⟨rfl, rfl, rfl | ⟨h, rfl, a⟩⟩ := s
  · go_enter Try.func20, Try.ntmps20
    go_wp2_with (go_at_call 58; (with_reducible refine (made_no _).mono ?_); rintro e w1 ⟨rfl, rfl⟩)
    go_ret
    exact ⟨rfl, rfl⟩
  · have c0 := cell_of_row w h 0 _ 51 (0, 0) a
    simp at c0
    have HM := Lib.hid (made_cell false c0)
    clear a
    go_enter Try.func20, Try.ntmps20
    go_wp2_with (go_at_call 58; (with_reducible refine HM.out.mono ?_); rintro e w1 ⟨rfl, rfl⟩)
    go_ret
    exact ⟨rfl, rfl⟩
theorem nclone_none (w : World) : Calls Try.prog 22 #[.pointer none] w fun e w' => e = .returned (.pointer none) ∧ w' = w := by
  go_enter Try.func22, Try.ntmps22
  go_wp2_with (go_at_call 58; (with_reducible refine (made_no _).mono ?_); rintro e w1 ⟨rfl, rfl⟩)
  go_ret
  exact ⟨rfl, rfl⟩
theorem eat_nil (j : Nat) : eat j [] = (0, []) := by
  induction j with
  | zero => rfl
  | succ j ih => rw [eat, ih]; rfl
theorem numL_nil (n : Int) (hn : n ≤ 9223372036854775807) : numL n [] = (0, []) := by
  unfold numL
  split
  · rfl
  · rw [numX_eat _ _ (by omega), eat_nil]; simp
theorem padT_nil (j : Nat) : padT j [] = List.replicate j 0 := by simp [padT]
def NbRelX (w : World) (p : Option Addr) (go : Option Nat) (r : List UInt8) (W : Nat) (v i : Value) (w' : World) : Prop :=
  ∃ j : Nat, j ≤ W ∧ i = .int .i64 (j : Int) ∧ v = .int .u64 ((eat j r).1 : Int) ∧ DNx w' p go (eat j r).2 ∧ w.grownBy w' (pblk p)
theorem number_anyX (s : DNx w p go xs) (W : Nat) (hW : W ≤ 8) : Calls Try.prog 56 #[.func (.func 12) #[.pointer p] #[], .int .i64 (W : Int)] w fun e w' => e = .returned (.int .u64 ((eat W xs).1 : Int)) ∧ DNx w' p go (eat W xs).2 ∧ w.grownBy w' (pblk p) := by
  have R0 : Hid (NbRelX w p go xs W (.int .u64 0) (.int .i64 0) w) := Lib.hid ⟨0, by omega, rfl, rfl, s, World.grownBy.refl _ _⟩
  have HE : Hid (∀ args w, (callFunc 12 args).run Try.prog w = .ok (.enter 12 args) w) := Lib.hid (enters_of Try.func12 (by kernel_rfl) rfl)
  clear s
  go_enter Try.func56, Try.ntmps56
  go_upto_region 3 with fail
  go_loopw [5, 7] (NbRelX w p go xs W) (fun _ i _ => W - (RowKit.intOf i).toNat)
  case atStart => exact R0.out
  case round =>
    obtain ⟨j, hj, rfl, rfl, hs, hg⟩ := hrel
    clear R0
    by_cases hlt : j < W
    · have hlt' : (j : Int) < (W : Int) := by omega
      have hb := ((eat j xs).2.headD 0).toNat_lt
      have hx : (eat j xs).1 < 72057594037927936 := by
        have := eat_lt j xs
        have h2 : 256 ^ j ≤ 256 ^ 7 := Nat.pow_le_pow_right (by omega) (by omega)
        have h3 : (256 : Nat) ^ 7 = 72057594037927936 := by decide
        omega
      have HB := Lib.hid (nbyte_anyX hs)
      unfold NBytePX at HB
      have HREL : Hid (∀ w', DNx w' p go (eat j xs).2.tail → wr.grownBy w' (pblk p) → NbRelX w p go xs W (.int .u64 (((eat j xs).1 : Int) * 256 + (((eat j xs).2.headD 0).toNat : Int))) (.int .i64 ((j : Int) + 1)) w') := Lib.hid (fun w' a b => ⟨j + 1, by omega, by go_num, by rw [eat]; go_num, by rw [eat]; exact a, grownBy_trans hg b⟩)
      clear hs hg
      generalize (eat j xs).1 = x at *
      generalize ((eat j xs).2.headD 0).toNat = b at *
      generalize (eat j xs).2.tail = r2 at *
      have hx1 : (x : Int) * 256 < 18446744073709551616 := by omega
      have hx2 : (x : Int) * 256 + (b : Int) < 18446744073709551616 := by omega
      go_upto_region 5 with (go_at_call 12; (with_reducible refine HB.out.mono ?_); rintro e w2 ⟨rfl, hs2, hg2⟩)
      have HR2 := Lib.hid (HREL.out _ hs2 hg2)
      clear HREL hs2 hg2 HB
      go_wp2
      go_roundw
      case rel => rw [orb x b hx (by simpa using hb)]; exact HR2.out
      case measure => simp [RowKit.intOf]; omega
    · obtain rfl : j = W := by omega
      have HF := Lib.hid (And.intro hs hg)
      clear hs hg
      go_wp2
      go_ret
      exact ⟨rfl, HF.out⟩
theorem nnum_anyX (s : DNx w p go xs) (n : Int) (hn : n ≤ 9223372036854775807) : Calls Try.prog 14 #[.pointer p, .int .i64 n] w fun e w' => e = .returned (.int .i64 ((numL n xs).1 : Int)) ∧ DNx w' p go (numL n xs).2 ∧ w.grownBy w' (pblk p) := by
  by_cases h2 : n < 2
  · rw [numL_small h2]
    have HF := Lib.hid (And.intro s (World.grownBy.refl w (pblk p)))
    clear s
    go_enter Try.func14, Try.ntmps14
    go_wp2
    go_ret
    exact ⟨rfl, HF.out⟩
  · obtain ⟨N, rfl⟩ : ∃ N : Nat, n = (N : Int) + 1 := ⟨(n - 1).toNat, by omega⟩
    have hN : 0 < N := by omega
    have hN2 : N < 18446744073709551616 := by omega
    have e1 : numL ((N : Int) + 1) xs = ((eat (widN N) xs).1 % (N + 1), (eat (widN N) xs).2) := by
      unfold numL
      rw [if_neg h2, show ((N : Int) + 1).toNat = N + 1 from by omega, Nat.add_sub_cancel, numX_eat N xs hN2]
    rw [e1]
    have HW := Lib.hid (fun w => width_any N hN2 w)
    have HN := Lib.hid (number_anyX s (widN N) (widN_le N hN2))
    have hx := eat_lt (widN N) xs
    have hx2 : (eat (widN N) xs).1 < 18446744073709551616 := by
      have h2 : 256 ^ (widN N) ≤ 256 ^ 8 := Nat.pow_le_pow_right (by omega) (widN_le N hN2)
      have h3 : (256 : Nat) ^ 8 = 18446744073709551616 := by decide
      omega
    clear s e1 hx
    generalize (eat (widN N) xs).1 = x at *
    generalize (eat (widN N) xs).2 = r2 at *
    have hml : x % (N + 1) < N + 1 := Nat.mod_lt _ (by omega)
    have hmi : ((x % (N + 1) : Nat) : Int) = (x : Int) % ((N : Int) + 1) := by simp
    have hmo : (x : Int) % ((N : Int) + 1) < (N : Int) + 1 := by omega
    have hmp : 0 ≤ (x : Int) % ((N : Int) + 1) := by omega
    rw [hmi]
    clear hml hmi
    generalize widN N = W at *
    go_enter Try.func14, Try.ntmps14
    go_wp2_with (first
      | (go_at_call 57; (with_reducible refine (HW.out _).mono ?_); rintro e w1 ⟨rfl, rfl⟩)
      | (go_at_call 56; (with_reducible refine HN.out.mono ?_); rintro e w2 ⟨rfl, hs2, hg2⟩))
    go_ret
    exact ⟨rfl, hs2, hg2⟩
theorem nword_anyX (s : DNx w p go xs) : Calls Try.prog 16 #[.pointer p] w fun e w' => e = .returned (.int .u32 ((eat 4 xs).1 : Int)) ∧ DNx w' p go (eat 4 xs).2 ∧ w.grownBy w' (pblk p) := by
  have HN := Lib.hid (number_anyX s 4 (by omega))
  have hx := eat_lt 4 xs
  have hx2 : (eat 4 xs).1 < 4294967296 := hx
  clear s hx
  generalize (eat 4 xs).1 = x at *
  generalize (eat 4 xs).2 = r2 at *
  simp only [Int.cast_ofNat_Int] at HN
  go_enter Try.func16, Try.ntmps16
  go_wp2_with (go_at_call 56; (with_reducible refine HN.out.mono ?_); rintro e w2 ⟨rfl, hs2, hg2⟩)
  go_ret
  exact ⟨rfl, hs2, hg2⟩
def TnRelX (w : World) (p : Option Addr) (go : Option Nat) (xs : List UInt8) (N G : Nat) (i : Value) (w' : World) : Prop :=
  ∃ j : Nat, j ≤ N ∧ i = .int .i64 (j : Int) ∧ w'.heap[G]? = some (.cells (bcells (padT j xs) ++ List.replicate (N - j) (Value.int .u8 0)).toArray 5 (0, 0)) ∧ DNx w' p go (xs.drop j) ∧ w.grownBy w' (pblk p)
/-- What Take tells, and leaves: N is how many bytes. -/
def TnIsX (w : World) (p : Option Addr) (go : Option Nat) (xs : List UInt8) (N : Nat) (e : Ending) (w' : World) : Prop :=
  ∃ v, e = .returned v ∧ w'.ownsRow w.heap.size 5 1 v (padT N xs).length (bcells (padT N xs)) ∧ DNx w' p go (xs.drop N) ∧ w.grownBy w' (pblk p)
theorem ntake_anyX (s : DNx w p go xs) (n : Int) (hn : n ≤ 9223372036854775807) (hn0 : -9223372036854775808 ≤ n) : Calls Try.prog 18 #[.pointer p, .int .i64 n] w (TnIsX w p go xs (min n 1024).toNat) := by
  obtain ⟨N, hN⟩ : ∃ N, N = (min n 1024).toNat := ⟨_, rfl⟩
  rw [← hN]
  have hN1 : N ≤ 1024 := by omega
  have hm : max 0 (min n 1024) = (N : Int) := by omega
  have hmk := fun W => run_make_b N N (Nat.le_refl _) (by omega) W
  obtain ⟨Z, hZ⟩ : ∃ Z, Z = (List.replicate N (Value.int .u8 0)).toArray := ⟨_, rfl⟩
  rw [← hZ] at hmk
  have hlt := s.lt
  have R0 : Hid (TnRelX w p go xs N w.heap.size (.int .i64 0) (w.alloc (.cells Z 5))) := Lib.hid ⟨0, by omega, rfl, by rw [hZ, heap_alloc_new w _]; simp [padT, bcells], s.below ((Below.refl w.heap.size w).alloc (Nat.le_refl _) _) (Nat.le_refl _), grown_of_bel ((Below.refl w.heap.size w).alloc (Nat.le_refl _) _) _⟩
  have HLT := Lib.hid hlt
  clear s hN hZ hlt
  go_enter Try.func18, Try.ntmps18
  go_upto_region 3 with fail
  go_loopw [13] (TnRelX w p go xs N w.heap.size) (fun i _ => N - (RowKit.intOf i).toNat)
  case atStart => exact R0.out
  case round =>
    obtain ⟨j, hj, rfl, hrow, hs, hg⟩ := hrel
    clear R0
    by_cases hlt : j < N
    · have hlt' : (j : Int) < (N : Int) := by omega
      obtain ⟨b, hbd⟩ : ∃ b, b = (xs.drop j).headD 0 := ⟨_, rfl⟩
      have hne : ∀ h, pblk p = some h → h ≠ w.heap.size := fun h e => by have := HLT.out.1 h e; omega
      have HB : Hid (Calls Try.prog 12 #[.pointer p] wr fun e w2 => e = .returned (.int .u8 (b.toNat : Int)) ∧ w2.cell? ⟨w.heap.size, j, none⟩ = some (.int .u8 0) ∧ w2.frozen? ⟨w.heap.size, j, none⟩ = false ∧ TnRelX w p go xs N w.heap.size (.int .i64 ((j : Int) + 1)) (w2.setCell ⟨w.heap.size, j, none⟩ (.int .u8 (b.toNat : Int)))) := by
        refine Lib.hid ((nbyte_anyX hs).mono ?_)
        rintro e w2 ⟨rfl, hs2, hg2⟩
        have hsz : w.heap.size < wr.heap.size := (Array.getElem?_eq_some_iff.1 hrow).1
        have hrow2 : w2.heap[w.heap.size]? = _ := (hg2.block w.heap.size hsz (by intro e; exact hne _ (by first | exact e | exact e.symm) rfl)).trans hrow
        have hlen : (bcells (padT j xs)).length = j := by rw [bcells, List.length_map, padT_length]
        have hlt1 := hs2.lt
        refine ⟨by rw [hbd], ?_, frozen_of_row w2 _ j _ 5 hrow2, j + 1, by omega, by go_num, ?_, ?_, ?_⟩
        · rw [cell_of_row w2 _ j _ 5 (0, 0) hrow2, List.getElem?_toArray, List.getElem?_append_right (by omega), hlen, Nat.sub_self, List.getElem?_replicate, if_pos (by omega)]
        · have := heap_setCell_same w2 w.heap.size j _ 5 (.int .u8 (b.toNat : Int)) hrow2
          rw [this, padT_succ, ← hbd, bcells_app, List.setIfInBounds_toArray, List.set_append_right _ _ (by omega), hlen, Nat.sub_self, show N - j = (N - (j + 1)) + 1 from by omega, List.replicate_succ, List.set_cons_zero, List.append_assoc]
          rfl
        · rw [List.tail_drop] at hs2
          refine hs2.keep (fun h e => Below.heap_setCell w2 ⟨w.heap.size, j, none⟩ _ h (by intro e2; exact hne h e (by first | exact e2 | exact e2.symm))) (fun g e => Below.heap_setCell w2 ⟨w.heap.size, j, none⟩ _ g (by intro e2; have := HLT.out.2 g e; simp at e2; omega))
        · have g1 := grownBy_trans hg hg2
          exact ⟨g1.os, g1.tape, g1.output, by simpa [World.setCell] using g1.size, fun i hi hne => (Below.heap_setCell w2 ⟨w.heap.size, j, none⟩ _ i (by intro e2; simp at e2; omega)).trans (g1.block i hi hne)⟩
      clear hs hg hrow hne
      generalize b.toNat = bb at *
      go_wp2_with (go_at_call 12; (with_reducible refine HB.out.mono ?_); rintro e w2 ⟨rfl, hc2, hf2, hr2⟩)
      go_roundw
      case rel => exact hr2
      case measure => simp [RowKit.intOf]; omega
    · obtain rfl : j = N := by omega
      have HF : Hid (TnIsX w p go xs j (.returned (.slice (some ⟨w.heap.size, 0, none⟩) j j)) wr) := Lib.hid ⟨_, rfl, by
        rw [Nat.sub_self, List.replicate_zero, List.append_nil] at hrow
        have hlen : (bcells (padT j xs)).length = j := by rw [bcells, List.length_map, padT_length]
        rw [padT_length]
        refine ⟨by rw [hlen, Nat.mul_one], .inr ⟨w.heap.size, j, _, rfl, Nat.le_refl _, hrow, Nat.le_refl _, by simp only [maxLen]; omega, by simp [hlen], by rw [List.take_of_length_le (by simp [hlen])]⟩⟩, hs, hg⟩
      clear hs hg hrow
      go_wp2
      go_ret
      exact HF.out
end
end Go.Proofs.Ytbfhfnbhfeedbaa
end
section
namespace Go.Proofs.Ytbfhfnbhfeedbaa
set_option maxRecDepth 100000
set_option maxHeartbeats 1000000
open Go.RowKit Go.Lib Go.Great
section
variable {w w' w2 : World} {h : Nat} {go : Option Nat} {xs bs : List UInt8} {p A A2 : Option Addr} {v y : Value} {c c2 : Nat}
theorem bcells_len (L : List UInt8) : (bcells L).length = L.length := by simp [bcells]
theorem bcells_getO (L : List UInt8) (j : Nat) (hj : j < L.length) : (bcells L)[j]? = some (.int .u8 (L[j].toNat : Int)) := by simp [bcells, List.getElem?_map, List.getElem?_eq_getElem hj]
/-- append behind a source's own bytes. -/
theorem append_ownT (o : OwnT w v go xs) (hs : Src Try.prog 1 22 y bs.length (bcells bs) w) (hl : xs.length + bs.length ≤ 900000) (ty : TypeId) :
    ∃ v' w' go', (Builtin.append_ #[22, 22] ty #[v, y]).run Try.prog w = .ok v' w' ∧ OwnT w' v' go' (xs ++ bs) ∧ w.grownBy w' go ∧ (go' = go ∨ ∀ g, go' = some g → w.heap.size ≤ g) := by
  obtain ⟨i0, hi, hz0, hz1, hz2⟩ := info5b
  obtain ⟨hx, ⟨rfl, rfl, rfl⟩ | ⟨g, off, cap, cur, rfl, rfl, hg, hnc, hcm, hcs, hcur⟩⟩ := o
  · obtain ⟨v', w', hrun, h2, h3, _⟩ := run_append_srcK w w.heap.size 22 22 ty 5 i0 _ 1 1 undBs hi hz0 hz1 hz2 rfl (.slice none 0 0) 0 [] (World.ownsRow_nil w _ 5 1) y bs.length (bcells bs) hs (by simp only [maxLen]; omega) (by omega) (Nat.le_refl _)
    rw [Nat.zero_add, List.nil_append] at h2
    obtain ⟨go', ho, hge⟩ := own_tail w.heap.size h2 (by omega)
    exact ⟨v', w', go', hrun, ho, h3, .inr hge⟩
  · by_cases hroom : xs.length + bs.length ≤ cap
    · have hfit : (off + xs.length * i0.size) + (bcells bs).length ≤ cur.size := by rw [bcells_len, hz1]; omega
      have hst := run_storeCells_at Try.prog g (off + xs.length * i0.size) 5 (bcells bs) 0 cur w hg (by simpa using hfit) hs.one
      have hs' : Src Try.prog i0.size 22 y bs.length (bcells bs) w := by rw [hz1]; exact hs
      have hr : (Builtin.append_ #[22, 22] ty #[.slice (some ⟨g, off, none⟩) xs.length cap, y]).run Try.prog w =
          .ok (.slice (some ⟨g, off, none⟩) (xs.length + bs.length) cap) (w.setRow g (cur.toList.take (off + xs.length * i0.size) ++ bcells bs ++ cur.toList.drop (off + xs.length * i0.size + (bcells bs).length)).toArray) := by
        simp only [Nat.add_zero] at hst
        rcases hs.kind with ⟨e', hk⟩ | hk <;> simp [Builtin.append_, run_underlying undBs, run_underlying hk, sizeOf, typeInfo, hi, hs.len, hroom, hs'.cells, Addr.add_lit, hst]
      rw [hz1, Nat.mul_one] at hr hfit
      rw [bcells_len] at hr hfit
      refine ⟨_, _, some g, hr, ⟨by rw [List.length_append]; omega, .inr ⟨g, off, cap, _, by rw [List.length_append], rfl, setRow_heap w g cur _ 5 _ hg, by rw [List.length_append]; exact hroom, hcm, ?_, ?_⟩⟩, ⟨rfl, rfl, rfl, by simp, fun k _ hk => setRow_other w g k _ (fun e => hk (by simp [e]))⟩, .inl rfl⟩
      · simp only [List.size_toArray, List.length_append, List.length_take, List.length_drop, Array.length_toList, bcells_len]
        omega
      · intro j hj
        rw [List.length_append] at hj
        rw [List.getElem?_toArray]
        have ht : (cur.toList.take (off + xs.length)).length = off + xs.length := by rw [List.length_take]; have : cur.toList.length = cur.size := Array.length_toList; omega
        by_cases hjx : j < xs.length
        · rw [List.append_assoc, List.getElem?_append_left (by rw [ht]; omega), List.getElem?_take, if_pos (by omega), Array.getElem?_toList, hcur j hjx]; simp only [List.getElem_append_left hjx]
        · rw [List.append_assoc, List.getElem?_append_right (by rw [ht]; omega), ht, List.getElem?_append_left (by rw [bcells_len]; omega), show off + j - (off + xs.length) = j - xs.length from by omega, bcells_getO bs _ (by omega), List.getElem_append_right (by omega)]
    · have hs' : Src Try.prog i0.size 22 y bs.length (bcells bs) w := by rw [hz1]; exact hs
      have hold : (Builtin.firstCells i0.size xs.length (.slice (some ⟨g, off, none⟩) xs.length cap)).run Try.prog w.drew = .ok (bcells xs).toArray w.drew :=
        run_firstCells_some w.drew i0.size xs.length ⟨g, off, none⟩ xs.length cap (bcells xs) (by rw [hz1, bcells_len, Nat.mul_one]) (fun j u hu => by
          have hj : j < xs.length := by have := (List.getElem?_eq_some_iff.1 hu).1; rwa [bcells_len] at this
          rw [bcells_getO xs j hj] at hu
          injection hu with hu
          subst hu
          rw [Addr.add_mid]
          have hg' : w.drew.heap[g]? = _ := hg
          rw [cell_of_row w.drew g (off + j) _ 5 (0, 0) hg']
          exact hcur j hj)
      have hr := run_append_grow_src (P := Try.prog) w 22 22 ty 5 i0 _ undBs hi hz0 (some ⟨g, off, none⟩) xs.length cap (bcells xs) hold y bs.length (bcells bs) hs' (by omega) (by omega) (growslice_fits (by omega) (by rw [hz2]; omega))
      have hge := grownCap_ge w (xs.length + bs.length) cap 5
      have hcm2 : grownCap w (xs.length + bs.length) cap 5 ≤ maxLen := grownCap_le_maxLen w (xs.length + bs.length) cap 5 (by simp only [maxLen]; omega)
      refine ⟨_, _, some w.heap.size, hr, ⟨by rw [List.length_append]; omega, .inr ⟨w.heap.size, 0, _, _, by rw [List.length_append], rfl, heap_alloc_new w.drew _, by rw [List.length_append]; exact hge, hcm2, ?_, ?_⟩⟩, ⟨rfl, rfl, rfl, by simp, fun k hk _ => Below.heap_alloc w.drew _ k hk⟩, .inr (fun g' e => by injection e with e; omega)⟩
      · simp only [Array.size_append, List.size_toArray, size_zeroCells, List.length_append, bcells_len]
        simp [Value.cells]
        omega
      · intro j hj
        rw [Nat.zero_add, Array.getElem?_append_left (by simp only [List.size_toArray, List.length_append, bcells_len]; rw [List.length_append] at hj; exact hj), List.getElem?_toArray, ← bcells_app, bcells_getO _ j hj]
theorem wpList_append_ownT {ops : Array Oper} {rest : List Oper} {o : Oper} {a : Act} {Q : Exit → Act → World → Prop} (hgd : o.guard = none) (s x : Operand)
    (ho : o.op = .call { callee := .builtin .append, args := #[s, x], argTypes := #[22, 22] })
    (v : Value) (xs : List UInt8) (hs : a.eval s = v) (hown : OwnT w v go xs) (y : Value) (bs : List UInt8) (hx : a.eval x = y) (hr : Src Try.prog 1 22 y bs.length (bcells bs) w) (hl : xs.length + bs.length ≤ 900000)
    (h : ∀ v' w' go', OwnT w' v' go' (xs ++ bs) → w.grownBy w' go → (go' = go ∨ ∀ g, go' = some g → w.heap.size ≤ g) → wpList Try.prog ops Q rest (a.put o.dst v') w') : wpList Try.prog ops Q (o :: rest) a w :=
  wpList_plain hgd fun _ hK => by
    obtain ⟨v', w', go', hrun, h2, h3, h4⟩ := append_ownT hown hr hl o.type
    unfold Oper.wp execOp
    simp only [ho, resolve, invoke, builtin, Sem.run_bind, Sem.run_pure, Result.andThen_ok, List.map_toArray, List.map_cons, List.map_nil, hs, hx, hrun]
    exact hK _ _ (h v' w' go' h2 h3 h4)
theorem OwnT.slice_ (o : OwnT w v go xs) : ∃ A c, v = .slice A xs.length c := by
  obtain ⟨_, ⟨rfl, _, rfl⟩ | ⟨g, off, cap, cur, rfl, _⟩⟩ := o
  · exact ⟨_, _, rfl⟩
  · exact ⟨_, _, rfl⟩
/-- Two blocks may change. -/
def Two (w w' : World) (h : Nat) (go : Option Nat) : Prop := w'.os = w.os ∧ w'.tape = w.tape ∧ w'.output = w.output ∧ w.heap.size ≤ w'.heap.size ∧ ∀ i, i < w.heap.size → i ≠ h → go ≠ some i → w'.heap[i]? = w.heap[i]?
theorem nadd_full (s : DMade w h go xs) (hb : 65536 < xs.length + bs.length) (hb2 : bs.length ≤ 900000) : Calls Try.prog 20 #[.pointer (some ⟨h, 0, none⟩), .slice A2 bs.length c2] w fun e w' => e = .returned (.int .i64 31) ∧ ∃ n, w' = w.drewN n := by
  obtain ⟨k0, ⟨A, c, k1⟩, f⟩ := s.cells
  have hx := (DMade.st s).le
  have HM := Lib.hid (made_cell (h := h) true k0)
  have q : (65536 : Int) - (xs.length : Int) < (bs.length : Int) := by omega
  clear s hb
  generalize bs.length = b at *
  generalize xs.length = l at *
  go_enter Try.func20, Try.ntmps20
  go_wp2_with (go_at_call 58; (with_reducible refine HM.out.mono ?_); rintro e w1 ⟨rfl, rfl⟩)
  first
    | (go_ret; exact ⟨rfl, 0, rfl⟩)
    | (go_quiet (fail); go_wp2; go_ret; exact ⟨rfl, nq, rfl⟩)
theorem nadd_room (s : DMade w h go xs) (hb : xs.length + bs.length ≤ 65536) (hA : BAt w w.heap.size A2 bs) : Calls Try.prog 20 #[.pointer (some ⟨h, 0, none⟩), .slice A2 bs.length c2] w fun e w' => e = .returned (.int .i64 0) ∧ (∃ go', DMade w' h go' (xs ++ bs) ∧ (go' = go ∨ ∀ g, go' = some g → w.heap.size ≤ g)) ∧ Two w w' h go := by
  obtain ⟨k0, _, f⟩ := s.cells
  have hlt := s.lt
  obtain ⟨v, row, o, hne⟩ := s
  obtain ⟨A, c, rfl⟩ := o.slice_
  have k1 := cell_of_row w h 1 _ 51 (0, 0) row
  simp at k1
  have HM := Lib.hid (made_cell (h := h) true k0)
  have q : ¬ (65536 : Int) - (xs.length : Int) < (bs.length : Int) := by omega
  have HO := Lib.hid o
  have HS : Hid (Src Try.prog 1 22 (.slice A2 bs.length c2) bs.length (bcells bs) w) := Lib.hid (hA.srcB c2)
  have HL : Hid (xs.length + bs.length ≤ 900000) := Lib.hid (by omega)
  have hlx : xs.length ≤ 65536 := by omega
  have hlb : bs.length ≤ 65536 := by omega
  have HF : Hid (∀ v' w1 go', OwnT w1 v' go' (xs ++ bs) → w.grownBy w1 go → (go' = go ∨ ∀ g, go' = some g → w.heap.size ≤ g) → w1.cell? ⟨h, 1, none⟩ = some (.slice A xs.length c) ∧ w1.frozen? ⟨h, 1, none⟩ = false ∧ (∃ go', DMade (w1.setCell ⟨h, 1, none⟩ v') h go' (xs ++ bs) ∧ (go' = go ∨ ∀ g, go' = some g → w.heap.size ≤ g)) ∧ Two w (w1.setCell ⟨h, 1, none⟩ v') h go) := by
    refine Lib.hid (fun v' w1 go' o1 g1 hgo => ?_)
    have row1 : w1.heap[h]? = _ := (g1.block h hlt (by intro e; exact hne (by first | exact e | exact e.symm))).trans row
    have k1' := cell_of_row w1 h 1 _ 51 (0, 0) row1
    simp at k1'
    have hne' : go' ≠ some h := by
      rcases hgo with rfl | hgo
      · exact hne
      · intro e; have := hgo h e; omega
    refine ⟨k1', frozen_of_row w1 h 1 _ 51 row1, ⟨go', ⟨v', ?_, o1.keep (fun g e => Below.heap_setCell w1 ⟨h, 1, none⟩ v' g (by rintro rfl; exact hne' e)), hne'⟩, hgo⟩, g1.os, g1.tape, g1.output, by simpa [World.setCell] using g1.size, fun i hi h1 h2 => ?_⟩
    · have := heap_setCell_same w1 h 1 _ 51 v' row1
      simpa using this
    · exact (Below.heap_setCell w1 ⟨h, 1, none⟩ v' i (by rintro rfl; exact h1 rfl)).trans (g1.block i hi (by intro e; exact h2 (by first | exact e | exact e.symm)))
  obtain ⟨lb, hlb'⟩ : ∃ b, b = bs.length := ⟨_, rfl⟩
  obtain ⟨lx, hlx'⟩ : ∃ b, b = xs.length := ⟨_, rfl⟩
  have HS' : Hid (Src Try.prog 1 22 (.slice A2 lb c2) bs.length (bcells bs) w) := by rw [hlb']; exact HS
  have HO' : Hid (OwnT w (.slice A lx c) go xs) := by rw [hlx']; exact HO
  rw [← hlb'] at q hlb ⊢
  rw [← hlx'] at q hlx k1 HF
  clear HS HO row o hne hb hA hlb' hlx'
  go_enter Try.func20, Try.ntmps20
  go_upto_region 5 with (go_at_call 58; (with_reducible refine HM.out.mono ?_); rintro e w1 ⟨rfl, rfl⟩)
  go_wp2_with (refine wpList_append_ownT rfl (.tmp 21) (.tmp 22) rfl _ xs rfl HO'.out _ bs rfl HS'.out HL.out ?_; intro v' w1 go' ho1 hg1 hgo1; refine Hid.out ?_)
  refine Lib.hid ?_
  obtain ⟨A3, c3, rfl⟩ := ho1.slice_
  obtain ⟨j1, j2, j3⟩ := HF.out _ w1 go' ho1 hg1 hgo1
  have HJ := Lib.hid j3
  clear j3 HF ho1 hg1 hgo1 k1 k0 f
  generalize (xs ++ bs).length = l3 at *
  go_wp2
  go_ret
  exact ⟨rfl, HJ.out⟩
theorem OwnT.bat (o : OwnT w (.slice A xs.length c) go xs) : BAt w w.heap.size A xs := by
  obtain ⟨_, ⟨_, _, rfl⟩ | ⟨g, off, cap, cur, e, _, hg, _, _, _, hcur⟩⟩ := o
  · exact .inl rfl
  · injection e with e1 e2 e3
    subst e1
    exact .inr ⟨g, off, rfl, (Array.getElem?_eq_some_iff.1 hg).1, fun j hj => by rw [cell_of_row w g (off + j) _ 5 (0, 0) hg]; exact hcur j hj⟩
theorem nclone_made (s : DMade w h go xs) : Calls Try.prog 22 #[.pointer (some ⟨h, 0, none⟩)] w (NewIs w xs) := by
  obtain ⟨k0, _, f⟩ := s.cells
  obtain ⟨v, row, o, hne⟩ := s
  obtain ⟨A, c, rfl⟩ := o.slice_
  have k1 := cell_of_row w h 1 _ 51 (0, 0) row
  simp at k1
  have HM := Lib.hid (made_cell (h := h) true k0)
  have HN := Lib.hid (new_any c o.bat o.1)
  clear row o hne
  generalize xs.length = l at *
  go_enter Try.func22, Try.ntmps22
  go_wp2_with (first
    | (go_at_call 58; (with_reducible refine HM.out.mono ?_); rintro e w1 ⟨rfl, rfl⟩)
    | (go_at_call 11; (with_reducible refine HN.out.mono ?_); rintro e w2 ⟨h2, go2, rfl, hm2, hh2, hgo2, hb2⟩))
  go_ret
  exact ⟨h2, go2, rfl, hm2, hh2, hgo2, hb2⟩
end
end Go.Proofs.Ytbfhfnbhfeedbaa
end
