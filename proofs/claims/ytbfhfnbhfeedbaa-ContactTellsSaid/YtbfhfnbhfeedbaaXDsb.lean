/- Contracts of draw (the program): New, number, widthOf, Num, Word. Conditions: the bytes are at most 900,000. Contracts of draw (the program): New, Take. Conditions: the bytes are at most 900,000. Rows of ints; slices.Delete at []int; Order of draw (the program). Conditions: the bytes are at most 900,000. -/
import Derived.Test.YtbfhfnbhfeedbaaXDsa
section
namespace Go.Proofs.Ytbfhfnbhfeedbaa
set_option maxRecDepth 100000
set_option maxHeartbeats 1000000
open Go.RowKit Go.Lib Go.Great

section
variable {w w' w2 : World} {h : Nat} {go : Option Nat} {xs : List UInt8} {p : Option Addr} {v : Value}

/-- How many bytes it takes to write n. -/
def widN (n : Nat) : Nat := (Lib.bitLen n + 7) / 8
theorem width_any (n : Nat) (hn : n < 18446744073709551616) (w : World) : Calls Try.prog 57 #[.int .u64 (n : Int)] w fun e w' => e = .returned (.int .i64 (widN n : Int)) ∧ w' = w := by
  have h64 : Lib.bitLen n ≤ 64 := Lib.bitLen_le n 64 (by omega) hn
  have HB := Lib.hid (Try.bits_Len64 (n : Int) w (by omega) (by omega))
  have e : ((widN n : Nat) : Int) = ((Lib.bitLen n : Int) + 7) / 8 := by unfold widN; omega
  rw [e]
  clear e
  rw [Int.toNat_natCast] at HB
  generalize Lib.bitLen n = b at *
  have q : (b : Int) ≤ 64 := by omega
  go_enter Try.func57, Try.ntmps57
  go_wp2_with (go_at_call 89; (with_reducible refine HB.out.mono ?_); rintro e w1 ⟨rfl, rfl⟩)
  go_ret
  exact ⟨rfl, rfl⟩
/-- j bytes read on from x. -/
def eatX : Nat → Nat → List UInt8 → Nat × List UInt8
  | 0, x, r => (x, r)
  | j + 1, x, r => eatX j (x * 256 + (r.headD 0).toNat) r.tail
theorem eatX_succ (j : Nat) : ∀ (x : Nat) (r : List UInt8), eatX (j + 1) x r = ((eatX j x r).1 * 256 + ((eatX j x r).2.headD 0).toNat, (eatX j x r).2.tail) := by
  induction j with
  | zero => intro x r; rfl
  | succ j ih => intro x r; rw [eatX, ih]; rfl
theorem eatX_eat (j : Nat) (r : List UInt8) : eatX j 0 r = eat j r := by
  induction j with
  | zero => rfl
  | succ j ih => rw [eatX_succ, ih]; rfl
theorem widN_zero : widN 0 = 0 := by decide +kernel
theorem widN_step {m : Nat} (h : 0 < m) (hm : m < 18446744073709551616) : widN m = widN (m / 256) + 1 := by
  by_cases h8 : 256 ≤ m
  · unfold widN
    rw [Lib.bitLen_shift8 m h8 hm]
    omega
  · rw [show m / 256 = 0 from by omega, widN_zero]
    have h1 : Lib.bitLen m ≤ 8 := Lib.bitLen_le m 8 (by omega) (by omega)
    have h2 : 1 ≤ Lib.bitLen m := by rw [Lib.bitLen_half m (by omega) hm]; omega
    unfold widN
    omega
theorem numX_eatX (k : Nat) : ∀ (m x : Nat) (r : List UInt8), m ≤ k → m < 18446744073709551616 → numX m x r = eatX (widN m) x r := by
  induction k with
  | zero =>
    intro m x r hk _
    obtain rfl : m = 0 := by omega
    rw [numX_zero, widN_zero]; rfl
  | succ k ih =>
    intro m x r hk hm
    by_cases h0 : m = 0
    · subst h0; rw [numX_zero, widN_zero]; rfl
    · rw [numX_step (by omega), widN_step (by omega) hm, ih (m / 256) _ _ (by omega) (by omega)]; rfl
theorem numX_eat (m : Nat) (r : List UInt8) (hm : m < 18446744073709551616) : numX m 0 r = eat (widN m) r := by
  rw [numX_eatX m m 0 r (Nat.le_refl _) hm, eatX_eat]
theorem widN_le (m : Nat) (hm : m < 18446744073709551616) : widN m ≤ 8 := by
  have := Lib.bitLen_le m 64 (by omega) hm
  unfold widN; omega

theorem orb (x b : Nat) (hx : x < 72057594037927936) (hb : b < 256) : bits .or .u64 ((x : Int) * 256) (b : Int) = (x : Int) * 256 + (b : Int) := by
  have h1 : x * 256 < 18446744073709551616 := by omega
  have := u64_or_nat (x * 256) b h1 (by omega)
  rw [show ((x * 256 : Nat) : Int) = (x : Int) * 256 from by omega] at this
  rw [this, show x * 256 = 2 ^ 8 * x from by omega, ← Nat.two_pow_add_eq_or_of_lt (i := 8) (by simpa using hb) x]
  omega
def NbRel (w : World) (p : Option Addr) (go : Option Nat) (r : List UInt8) (W : Nat) (v i : Value) (w' : World) : Prop :=
  ∃ j : Nat, j ≤ W ∧ i = .int .i64 (j : Int) ∧ v = .int .u64 ((eat j r).1 : Int) ∧ DSt w' p go (eat j r).2 ∧ w.grownBy w' (pblk p)
theorem number_any (s : DSt w p go xs) (W : Nat) (hW : W ≤ 8) : Calls Try.prog 56 #[.func (.func 12) #[.pointer p] #[], .int .i64 (W : Int)] w fun e w' => e = .returned (.int .u64 ((eat W xs).1 : Int)) ∧ DSt w' p go (eat W xs).2 ∧ w.grownBy w' (pblk p) := by
  have R0 : Hid (NbRel w p go xs W (.int .u64 0) (.int .i64 0) w) := Lib.hid ⟨0, by omega, rfl, rfl, s, World.grownBy.refl _ _⟩
  have HE : Hid (∀ args w, (callFunc 12 args).run Try.prog w = .ok (.enter 12 args) w) := Lib.hid (enters_of Try.func12 (by kernel_rfl) rfl)
  clear s
  go_enter Try.func56, Try.ntmps56
  go_upto_region 3 with fail
  go_loopw [5, 7] (NbRel w p go xs W) (fun _ i _ => W - (RowKit.intOf i).toNat)
  case atStart => exact R0.out
  case round =>
    obtain ⟨j, hj, rfl, rfl, hs, hg⟩ := hrel
    clear R0
    by_cases hlt : j < W
    · have hlt' : (j : Int) < (W : Int) := by omega
      have hb := ((eat j xs).2.headD 0).toNat_lt
      have hx : (eat j xs).1 < 72057594037927936 := by
        have := eat_lt j xs
        have h2 : 256 ^ j ≤ 256 ^ 7 := Nat.pow_le_pow_right (by omega) (by omega)
        have h3 : (256 : Nat) ^ 7 = 72057594037927936 := by decide
        omega
      have HB := Lib.hid (nbyte_any hs)
      unfold NByteP at HB
      have HREL : Hid (∀ w', DSt w' p go (eat j xs).2.tail → wr.grownBy w' (pblk p) → NbRel w p go xs W (.int .u64 (((eat j xs).1 : Int) * 256 + (((eat j xs).2.headD 0).toNat : Int))) (.int .i64 ((j : Int) + 1)) w') := Lib.hid (fun w' a b => ⟨j + 1, by omega, by go_num, by rw [eat]; go_num, by rw [eat]; exact a, grownBy_trans hg b⟩)
      clear hs hg
      generalize (eat j xs).1 = x at *
      generalize ((eat j xs).2.headD 0).toNat = b at *
      generalize (eat j xs).2.tail = r2 at *
      have hx1 : (x : Int) * 256 < 18446744073709551616 := by omega
      have hx2 : (x : Int) * 256 + (b : Int) < 18446744073709551616 := by omega
      go_upto_region 5 with (go_at_call 12; (with_reducible refine HB.out.mono ?_); rintro e w2 ⟨rfl, hs2, hg2⟩)
      have HR2 := Lib.hid (HREL.out _ hs2 hg2)
      clear HREL hs2 hg2 HB
      go_wp2
      go_roundw
      case rel => rw [orb x b hx (by simpa using hb)]; exact HR2.out
      case measure => simp [RowKit.intOf]; omega
    · obtain rfl : j = W := by omega
      have HF := Lib.hid (And.intro hs hg)
      clear hs hg
      go_wp2
      go_ret
      exact ⟨rfl, HF.out⟩
theorem nnum_any (s : DSt w p go xs) (n : Int) (hn : n ≤ 9223372036854775807) : Calls Try.prog 14 #[.pointer p, .int .i64 n] w fun e w' => e = .returned (.int .i64 ((numL n xs).1 : Int)) ∧ DSt w' p go (numL n xs).2 ∧ w.grownBy w' (pblk p) := by
  by_cases h2 : n < 2
  · rw [numL_small h2]
    have HF := Lib.hid (And.intro s (World.grownBy.refl w (pblk p)))
    clear s
    go_enter Try.func14, Try.ntmps14
    go_wp2
    go_ret
    exact ⟨rfl, HF.out⟩
  · obtain ⟨N, rfl⟩ : ∃ N : Nat, n = (N : Int) + 1 := ⟨(n - 1).toNat, by omega⟩
    have hN : 0 < N := by omega
    have hN2 : N < 18446744073709551616 := by omega
    have e1 : numL ((N : Int) + 1) xs = ((eat (widN N) xs).1 % (N + 1), (eat (widN N) xs).2) := by
      unfold numL
      rw [if_neg h2, show ((N : Int) + 1).toNat = N + 1 from by omega, Nat.add_sub_cancel, numX_eat N xs hN2]
    rw [e1]
    have HW := Lib.hid (fun w => width_any N hN2 w)
    have HN := Lib.hid (number_any s (widN N) (widN_le N hN2))
    have hx := eat_lt (widN N) xs
    have hx2 : (eat (widN N) xs).1 < 18446744073709551616 := by
      have h2 : 256 ^ (widN N) ≤ 256 ^ 8 := Nat.pow_le_pow_right (by omega) (widN_le N hN2)
      have h3 : (256 : Nat) ^ 8 = 18446744073709551616 := by decide
      omega
    clear s e1 hx
    generalize (eat (widN N) xs).1 = x at *
    generalize (eat (widN N) xs).2 = r2 at *
    have hml : x % (N + 1) < N + 1 := Nat.mod_lt _ (by omega)
    have hmi : ((x % (N + 1) : Nat) : Int) = (x : Int) % ((N : Int) + 1) := by simp
    have hmo : (x : Int) % ((N : Int) + 1) < (N : Int) + 1 := by omega
    have hmp : 0 ≤ (x : Int) % ((N : Int) + 1) := by omega
    rw [hmi]
    clear hml hmi
    generalize widN N = W at *
    go_enter Try.func14, Try.ntmps14
    go_wp2_with (first
      | (go_at_call 57; (with_reducible refine (HW.out _).mono ?_); rintro e w1 ⟨rfl, rfl⟩)
      | (go_at_call 56; (with_reducible refine HN.out.mono ?_); rintro e w2 ⟨rfl, hs2, hg2⟩))
    go_ret
    exact ⟨rfl, hs2, hg2⟩
theorem nword_any (s : DSt w p go xs) : Calls Try.prog 16 #[.pointer p] w fun e w' => e = .returned (.int .u32 ((eat 4 xs).1 : Int)) ∧ DSt w' p go (eat 4 xs).2 ∧ w.grownBy w' (pblk p) := by
  have HN := Lib.hid (number_any s 4 (by omega))
  have hx := eat_lt 4 xs
  have hx2 : (eat 4 xs).1 < 4294967296 := hx
  clear s hx
  generalize (eat 4 xs).1 = x at *
  generalize (eat 4 xs).2 = r2 at *
  simp only [Int.cast_ofNat_Int] at HN
  go_enter Try.func16, Try.ntmps16
  go_wp2_with (go_at_call 56; (with_reducible refine HN.out.mono ?_); rintro e w2 ⟨rfl, hs2, hg2⟩)
  go_ret
  exact ⟨rfl, hs2, hg2⟩
theorem info5c : ∃ i0, Try.prog.info? 5 = some i0 ∧ i0.zero = some (.int .u8 0) ∧ i0.size = 1 ∧ i0.bytes = 1 := info5b
theorem cloneB_some (b off n c : Nat) (news : List Value) (w : World) (hl : news.length = n * 1) (hn : n ≤ 900000)
    (hc : ∀ j u, news[j]? = some u → w.cell? ⟨b, off + j, none⟩ = some u) (h1 : ∀ u ∈ news, u.oneCell' = true) :
    Calls Try.prog 55 #[.slice (some ⟨b, off, none⟩) n c] w fun e w' => ∃ v', e = .returned v' ∧ w'.ownsRow w.heap.size 5 1 v' n news ∧ v' ≠ .slice none 0 0 ∧ Below w.heap.size w w' := by
  obtain ⟨i0, hi, hz0, hz1, hz2⟩ := info5b
  exact AnyE.slices_Clone Try.cloneB i0 _ 1 1 hi hz0 hz1 hz2 (by simp [Value.cells]) (by omega) (fun w => by kernel_rfl) b off n c news w hl (by simp only [maxLen]; omega) (by omega) hc h1
theorem cloneB_nil (n c : Nat) (w : World) : Calls Try.prog 55 #[.slice none n c] w fun e w' => e = .returned (.slice none 0 0) ∧ w' = w := AnyE.slices_Clone_nil Try.cloneB n c w
end
end Go.Proofs.Ytbfhfnbhfeedbaa
end
section
namespace Go.Proofs.Ytbfhfnbhfeedbaa
set_option maxRecDepth 100000
set_option maxHeartbeats 1000000
open Go.RowKit Go.Lib Go.Great
section
variable {w w' w2 : World} {h : Nat} {go : Option Nat} {xs bs : List UInt8} {p A : Option Addr} {v : Value}
theorem run_make_b (n c : Nat) (hnc : n ≤ c) (hc : c ≤ 2000000) (w : World) :
    (Instr.makeSlice 22 (.int .i64 (n : Int)) (.int .i64 (c : Int))).run Try.prog w = .ok (.slice (some ⟨w.heap.size, 0, none⟩) n c) (w.alloc (.cells (List.replicate c (Value.int .u8 0)).toArray 5)) := by
  obtain ⟨i0, hi, hz0, hz1, hz2⟩ := info5b
  have hr := run_make (P := Try.prog) w 22 5 i0 _ Try.underlying22 hi hz0 .i64 .i64 n c (by omega) (by omega) (by rw [hz2]; omega) (by omega)
  simp only [Int.toNat_natCast, hz1] at hr
  rw [hr]
  congr 3
  apply Array.ext
  · simp [madeCells]
  · intro j h1 h2
    simp [madeCells, Value.cells, Nat.mod_one]
theorem own_tail (base : Nat) (ho : w.ownsRow base 5 1 v xs.length (bcells xs)) (hl : xs.length ≤ 900000) : ∃ go, OwnT w v go xs ∧ ∀ g, go = some g → base ≤ g := by
  rcases ho.2 with ⟨rfl, h0⟩ | ⟨g, cap, cur, rfl, hb, hg, h1, h2, h3, h4⟩
  · exact ⟨none, ⟨hl, .inl ⟨rfl, rfl, List.eq_nil_of_length_eq_zero h0⟩⟩, fun _ e => by cases e⟩
  · refine ⟨some g, ⟨hl, .inr ⟨g, 0, cap, cur, rfl, rfl, hg, h1, h2, by omega, fun j hj => ?_⟩⟩, fun g' e => by cases e; exact hb⟩
    have : (bcells xs)[j]? = some (.int .u8 (xs[j].toNat : Int)) := by simp [bcells, List.getElem?_map, List.getElem?_eq_getElem hj]
    rw [← h4, List.getElem?_take_of_lt (by omega)] at this
    rw [Nat.zero_add]
    simpa using this
/-- What New answers. -/
def NewIs (w : World) (bs : List UInt8) (e : Ending) (w' : World) : Prop :=
  ∃ h go, e = .returned (.pointer (some ⟨h, 0, none⟩)) ∧ DMade w' h go bs ∧ w.heap.size ≤ h ∧ (∀ g, go = some g → w.heap.size ≤ g) ∧ Below w.heap.size w w'
theorem new_of (w1 : World) (hb : Below w.heap.size w w1) (ho : w1.ownsRow w.heap.size 5 1 v bs.length (bcells bs)) (hl : bs.length ≤ 900000) :
    NewIs w bs (.returned (.pointer (some ⟨w1.heap.size, 0, none⟩))) (w1.alloc (.cells #[.bool true, v] 51)) := by
  obtain ⟨go, o, hge⟩ := own_tail _ ho hl
  refine ⟨w1.heap.size, go, rfl, ⟨v, heap_alloc_new w1 _, o.keep (fun g hg => ((Below.refl w1.heap.size w1).alloc (Nat.le_refl _) _).block g (o.lt g hg)), ?_⟩, hb.size, hge, hb.alloc hb.size _⟩
  intro e
  have := o.lt _ e
  omega
theorem nnew_any (c : Nat) (hA : BAt w w.heap.size A bs) (hA2 : A = none ∨ ∃ g off, A = some ⟨g, off, none⟩) (hl : bs.length ≤ 900000) : Calls Try.prog 11 #[.slice A bs.length c] w (NewIs w bs) := by
  have HC : Hid (Calls Try.prog 55 #[.slice A bs.length c] w fun e w' => ∃ A' n' c', e = .returned (.slice A' n' c') ∧ w'.ownsRow w.heap.size 5 1 (.slice A' n' c') bs.length (bcells bs) ∧ Below w.heap.size w w') := by
    refine Lib.hid ?_
    rcases hA2 with rfl | ⟨g, off, rfl⟩
    · obtain rfl : bs = [] := by
        rcases hA with e | ⟨g, off, e, _⟩
        · exact e
        · cases e
      refine (cloneB_nil _ _ _).mono ?_
      rintro e w' ⟨rfl, rfl⟩
      exact ⟨_, _, _, rfl, ⟨by simp [bcells], .inl ⟨rfl, rfl⟩⟩, Below.refl _ _⟩
    · refine (cloneB_some g off bs.length c (bcells bs) w (by simp [bcells]) hl (fun j u hu => ?_) (bcells_oneC bs)).mono ?_
      · have hj : j < bs.length := by have := (List.getElem?_eq_some_iff.1 hu).1; simpa [bcells] using this
        obtain ⟨g', off', e, _, hc⟩ := hA.some_ (by omega)
        injection e with e
        injection e with e1 e2
        subst e1 e2
        simp only [bcells, List.getElem?_map, List.getElem?_eq_getElem hj, Option.map_some, Option.some.injEq] at hu
        rw [← hu]
        exact hc j hj
      · rintro e w' ⟨v', rfl, ho, _, hb⟩
        obtain ⟨A', c', rfl, _⟩ := own_bat ho
        exact ⟨_, _, _, rfl, ho, hb⟩
  have HN : Hid (∀ v w1, Below w.heap.size w w1 → w1.ownsRow w.heap.size 5 1 v bs.length (bcells bs) → NewIs w bs (.returned (.pointer (some ⟨w1.heap.size, 0, none⟩))) (w1.alloc (.cells #[.bool true, v] 51))) := Lib.hid (fun v w1 hb ho => new_of w1 hb ho hl)
  clear hA hA2 hl
  go_enter Try.func11, Try.ntmps11
  go_wp2_with (go_at_call 55; (with_reducible refine HC.out.mono ?_); rintro e w1 ⟨A1, n1, c1, rfl, ho, hb⟩)
  go_ret
  exact HN.out _ w1 hb ho

def TnRel (w : World) (p : Option Addr) (go : Option Nat) (xs : List UInt8) (N G : Nat) (i : Value) (w' : World) : Prop :=
  ∃ j : Nat, j ≤ N ∧ i = .int .i64 (j : Int) ∧ w'.heap[G]? = some (.cells (bcells (padT j xs) ++ List.replicate (N - j) (Value.int .u8 0)).toArray 5 (0, 0)) ∧ DSt w' p go (xs.drop j) ∧ w.grownBy w' (pblk p)
/-- What Take tells, and leaves: N is how many bytes. -/
def TnIs (w : World) (p : Option Addr) (go : Option Nat) (xs : List UInt8) (N : Nat) (e : Ending) (w' : World) : Prop :=
  ∃ v, e = .returned v ∧ w'.ownsRow w.heap.size 5 1 v (padT N xs).length (bcells (padT N xs)) ∧ DSt w' p go (xs.drop N) ∧ w.grownBy w' (pblk p)
theorem ntake_any (s : DSt w p go xs) (n : Int) (hn : n ≤ 9223372036854775807) (hn0 : -9223372036854775808 ≤ n) : Calls Try.prog 18 #[.pointer p, .int .i64 n] w (TnIs w p go xs (min n 1024).toNat) := by
  obtain ⟨N, hN⟩ : ∃ N, N = (min n 1024).toNat := ⟨_, rfl⟩
  rw [← hN]
  have hN1 : N ≤ 1024 := by omega
  have hm : max 0 (min n 1024) = (N : Int) := by omega
  have hmk := fun W => run_make_b N N (Nat.le_refl _) (by omega) W
  obtain ⟨Z, hZ⟩ : ∃ Z, Z = (List.replicate N (Value.int .u8 0)).toArray := ⟨_, rfl⟩
  rw [← hZ] at hmk
  have hlt := s.lt
  have R0 : Hid (TnRel w p go xs N w.heap.size (.int .i64 0) (w.alloc (.cells Z 5))) := Lib.hid ⟨0, by omega, rfl, by rw [hZ, heap_alloc_new w _]; simp [padT, bcells], s.below ((Below.refl w.heap.size w).alloc (Nat.le_refl _) _) (Nat.le_refl _), grown_of_bel ((Below.refl w.heap.size w).alloc (Nat.le_refl _) _) _⟩
  have HLT := Lib.hid hlt
  clear s hN hZ hlt
  go_enter Try.func18, Try.ntmps18
  go_upto_region 3 with fail
  go_loopw [13] (TnRel w p go xs N w.heap.size) (fun i _ => N - (RowKit.intOf i).toNat)
  case atStart => exact R0.out
  case round =>
    obtain ⟨j, hj, rfl, hrow, hs, hg⟩ := hrel
    clear R0
    by_cases hlt : j < N
    · have hlt' : (j : Int) < (N : Int) := by omega
      obtain ⟨b, hbd⟩ : ∃ b, b = (xs.drop j).headD 0 := ⟨_, rfl⟩
      have hne : ∀ h, pblk p = some h → h ≠ w.heap.size := fun h e => by have := HLT.out.1 h e; omega
      have HB : Hid (Calls Try.prog 12 #[.pointer p] wr fun e w2 => e = .returned (.int .u8 (b.toNat : Int)) ∧ w2.cell? ⟨w.heap.size, j, none⟩ = some (.int .u8 0) ∧ w2.frozen? ⟨w.heap.size, j, none⟩ = false ∧ TnRel w p go xs N w.heap.size (.int .i64 ((j : Int) + 1)) (w2.setCell ⟨w.heap.size, j, none⟩ (.int .u8 (b.toNat : Int)))) := by
        refine Lib.hid ((nbyte_any hs).mono ?_)
        rintro e w2 ⟨rfl, hs2, hg2⟩
        have hsz : w.heap.size < wr.heap.size := (Array.getElem?_eq_some_iff.1 hrow).1
        have hrow2 : w2.heap[w.heap.size]? = _ := (hg2.block w.heap.size hsz (by intro e; exact hne _ (by first | exact e | exact e.symm) rfl)).trans hrow
        have hlen : (bcells (padT j xs)).length = j := by rw [bcells, List.length_map, padT_length]
        have hlt1 := hs2.lt
        refine ⟨by rw [hbd], ?_, frozen_of_row w2 _ j _ 5 hrow2, j + 1, by omega, by go_num, ?_, ?_, ?_⟩
        · rw [cell_of_row w2 _ j _ 5 (0, 0) hrow2, List.getElem?_toArray, List.getElem?_append_right (by omega), hlen, Nat.sub_self, List.getElem?_replicate, if_pos (by omega)]
        · have := heap_setCell_same w2 w.heap.size j _ 5 (.int .u8 (b.toNat : Int)) hrow2
          rw [this, padT_succ, ← hbd, bcells_app, List.setIfInBounds_toArray, List.set_append_right _ _ (by omega), hlen, Nat.sub_self, show N - j = (N - (j + 1)) + 1 from by omega, List.replicate_succ, List.set_cons_zero, List.append_assoc]
          rfl
        · rw [List.tail_drop] at hs2
          refine hs2.keep (fun h e => Below.heap_setCell w2 ⟨w.heap.size, j, none⟩ _ h (by intro e2; exact hne h e (by first | exact e2 | exact e2.symm))) (fun g e => Below.heap_setCell w2 ⟨w.heap.size, j, none⟩ _ g (by intro e2; have := HLT.out.2 g e; simp at e2; omega))
        · have g1 := grownBy_trans hg hg2
          exact ⟨g1.os, g1.tape, g1.output, by simpa [World.setCell] using g1.size, fun i hi hne => (Below.heap_setCell w2 ⟨w.heap.size, j, none⟩ _ i (by intro e2; simp at e2; omega)).trans (g1.block i hi hne)⟩
      clear hs hg hrow hne
      generalize b.toNat = bb at *
      go_wp2_with (go_at_call 12; (with_reducible refine HB.out.mono ?_); rintro e w2 ⟨rfl, hc2, hf2, hr2⟩)
      go_roundw
      case rel => exact hr2
      case measure => simp [RowKit.intOf]; omega
    · obtain rfl : j = N := by omega
      have HF : Hid (TnIs w p go xs j (.returned (.slice (some ⟨w.heap.size, 0, none⟩) j j)) wr) := Lib.hid ⟨_, rfl, by
        rw [Nat.sub_self, List.replicate_zero, List.append_nil] at hrow
        have hlen : (bcells (padT j xs)).length = j := by rw [bcells, List.length_map, padT_length]
        rw [padT_length]
        refine ⟨by rw [hlen, Nat.mul_one], .inr ⟨w.heap.size, j, _, rfl, Nat.le_refl _, hrow, Nat.le_refl _, by simp only [maxLen]; omega, by simp [hlen], by rw [List.take_of_length_le (by simp [hlen])]⟩⟩, hs, hg⟩
      clear hs hg hrow
      go_wp2
      go_ret
      exact HF.out
end
end Go.Proofs.Ytbfhfnbhfeedbaa
end
section
namespace Go.Proofs.Ytbfhfnbhfeedbaa
set_option maxRecDepth 100000
set_option maxHeartbeats 1000000
open Go.RowKit Go.Lib Go.Great
/-- Numbers as cells. -/
def intsL (L : List Nat) : List Value := L.map fun (n : Nat) => .int .i64 (n : Int)
theorem intsL_append (L M : List Nat) : intsL (L ++ M) = intsL L ++ intsL M := by simp [intsL]
theorem intsL_length (L : List Nat) : (intsL L).length = L.length := by simp [intsL]
theorem intsL_get (L : List Nat) (j : Nat) (h : j < L.length) : (intsL L)[j]? = some (.int .i64 (L[j] : Int)) := by simp [intsL, List.getElem?_map, List.getElem?_eq_getElem h]
theorem intsL_one (L : List Nat) : ∀ u ∈ intsL L, u.oneCell' = true := by
  intro u hu
  obtain ⟨n, _, rfl⟩ := List.mem_map.1 hu
  rfl
theorem info3 : ∃ i0, Try.prog.info? 3 = some i0 ∧ i0.zero = some (.int .i64 0) ∧ i0.size = 1 ∧ i0.bytes = 8 := by
  have h : (Try.prog.info? 3).map (fun i => (i.zero, i.size, i.bytes)) = some (some (.int .i64 0), 1, 8) := by kernel_rfl
  cases hi : Try.prog.info? 3 with
  | none => rw [hi] at h; cases h
  | some i =>
    rw [hi] at h
    simp only [Option.map_some, Option.some.injEq, Prod.mk.injEq] at h
    exact ⟨i, rfl, h.1, h.2.1, h.2.2⟩
theorem undInts : Try.prog.underlying 43 = some (.slice 3) := by kernel_rfl
theorem wpList_append_ints {w : World} {ops : Array Oper} {rest : List Oper} {o : Oper} {a : Act} {Q : Exit → Act → World → Prop} (hgd : o.guard = none) (s x : Operand)
    (ho : o.op = .call { callee := .builtin .append, args := #[s, x], argTypes := #[43, 43] })
    (base : Nat) (v : Value) (L : List Nat) (hs : a.eval s = v) (hown : w.ownsRow base 3 1 v L.length (intsL L))
    (y : Value) (M : List Nat) (hx : a.eval x = y) (hr : Src Try.prog 1 43 y M.length (intsL M) w) (h63 : L.length + M.length ≤ 100000) (hbase : base ≤ w.heap.size)
    (h : ∀ v' w', w'.ownsRow base 3 1 v' (L ++ M).length (intsL (L ++ M)) → w.grownBy w' v.ownBlock → wpList Try.prog ops Q rest (a.put o.dst v') w') : wpList Try.prog ops Q (o :: rest) a w :=
  wpList_plain hgd fun _ hK => by
    obtain ⟨i0, hi, hz0, hz1, hz2⟩ := info3
    obtain ⟨v', w', hrun, h2, h3, _⟩ := run_append_srcK w base 43 43 o.type 3 i0 _ 1 8 undInts hi hz0 hz1 hz2 rfl v L.length (intsL L) hown y M.length (intsL M) hr (by simp only [maxLen]; omega) (by omega) hbase
    unfold Oper.wp execOp
    simp only [ho, resolve, invoke, builtin, Sem.run_bind, Sem.run_pure, Result.andThen_ok, List.map_toArray, List.map_cons, List.map_nil, hs, hx, hrun]
    refine hK _ _ (h v' w' ?_ h3)
    rw [List.length_append, intsL_append]
    exact h2
theorem src_int (n : Nat) (W : World) : Src Try.prog 1 43 (.slice (some ⟨W.heap.size, 0, none⟩) 1 1) [n].length (intsL [n]) (W.alloc (.cells #[.int .i64 (n : Int)] 3)) := by
  refine Src.ofSlice _ undInts _ 1 1 (intsL [n]) rfl (fun j u hu => ?_) (intsL_one _)
  rw [Addr.add_mid]
  exact row_range (cs := [.int .i64 (n : Int)]) (heap_alloc_new W (.cells #[.int .i64 (n : Int)] 3)) j u hu
theorem run_make_i (n : Nat) (hc : n ≤ 2000000) (w : World) :
    (Instr.makeSlice 43 (.int .i64 (n : Int)) (.int .i64 (n : Int))).run Try.prog w = .ok (.slice (some ⟨w.heap.size, 0, none⟩) n n) (w.alloc (.cells (List.replicate n (Value.int .i64 0)).toArray 3)) := by
  obtain ⟨i0, hi, hz0, hz1, hz2⟩ := info3
  have hr := run_make (P := Try.prog) w 43 3 i0 _ Try.underlying43 hi hz0 .i64 .i64 n n (by omega) (by omega) (by rw [hz2]; omega) (by omega)
  simp only [Int.toNat_natCast, hz1] at hr
  rw [hr]
  congr 3
  apply Array.ext
  · simp [madeCells]
  · intro j h1 h2
    simp [madeCells, Value.cells, Nat.mod_one]
/-- A row of numbers, zeros behind it. -/
def IRow (w : World) (g : Nat) (l : List Nat) (m : Nat) : Prop := w.heap[g]? = some (.cells (intsL l ++ List.replicate m (Value.int .i64 0)).toArray 3 (0, 0))
theorem IRow.cell {w : World} {g : Nat} {l : List Nat} {m : Nat} (h : IRow w g l m) (j : Nat) (hj : j < l.length) : w.cell? ⟨g, j, none⟩ = some (.int .i64 (l[j] : Int)) := by
  rw [cell_of_row w g j _ 3 (0, 0) h, List.getElem?_toArray, List.getElem?_append_left (by rw [intsL_length]; exact hj), intsL_get l j hj]
theorem holdsI {w : World} {g : Nat} {l : List Nat} {m : Nat} (h : IRow w g l m) : Go.Sort.Holds (Value.int .i64) w g 0 (l.map (fun n : Nat => (n : Int))).toArray := fun j hj => by
  have hj' : j < l.length := by simpa using hj
  refine ⟨?_, frozen_of_row w g _ _ 3 h⟩
  rw [Nat.zero_add, h.cell j hj', getElem!_pos _ j hj]
  simp
theorem getElem_replicate_zero (m j : Nat) (v : Value) (h : j < m) : (List.replicate m v)[j]? = some v := by rw [List.getElem?_replicate, if_pos h]
theorem delete_row {w : World} {g : Nat} {l : List Nat} {m i : Nat} (h : IRow w g l m) (hi : i < l.length) (hl : l.length + m ≤ 100000) :
    Calls Try.prog 59 #[.slice (some ⟨g, 0, none⟩) l.length (l.length + m), .int .i64 (i : Int), .int .i64 ((i : Int) + 1)] w fun e w' => e = .returned (.slice (some ⟨g, 0, none⟩) (l.eraseIdx i).length (l.length + m)) ∧ IRow w' g (l.eraseIdx i) (m + 1) ∧ w.grownBy w' (some g) := by
  have hz : (l.map (fun n : Nat => (n : Int))).length = l.length := by simp
  have hd := Try.slices_Delete_int g 0 (l.length + m) i (i + 1) (l.map (fun n : Nat => (n : Int))) w (holdsI h) (by omega) (by omega) (by omega) (by omega)
  rw [hz, show ((i + 1 : Nat) : Int) = (i : Int) + 1 from by omega] at hd
  refine hd.mono ?_
  rintro e w' ⟨rfl, q, rfl⟩
  have hel : (l.eraseIdx i).length = l.length - 1 := List.length_eraseIdx_of_lt hi
  have hne : l.map (fun n : Nat => (n : Int)) = List.map (fun n : Nat => (n : Int)) l := rfl
  have hmap : (List.map (fun n : Nat => (n : Int)) l).take i ++ (List.map (fun n : Nat => (n : Int)) l).drop (i + 1) = List.map (fun n : Nat => (n : Int)) (l.eraseIdx i) := by
    rw [List.eraseIdx_eq_take_drop_succ, List.map_append, List.map_take, List.map_drop]
  refine ⟨by rw [hel, show i + 1 - i = 1 from by omega], ?_, ?_⟩
  · unfold IRow Go.Sort.putRow Go.Sort.mapBlock
    rw [hmap, show i + 1 - i = 1 from by omega]
    have hh : (Go.Sort.ahead w q).heap[g]? = _ := h
    simp only [Array.getElem?_modify, if_true]
    rw [hh]
    simp only [Option.map_some, Go.Sort.onCells, Option.some.injEq, Obj.cells.injEq, and_true]
    apply Array.ext'
    apply List.ext_getElem?
    intro k
    unfold Go.Sort.putCells
    simp only [Array.toList_mapIdx, List.getElem?_mapIdx, Nat.zero_le, true_and, Nat.zero_add, Nat.sub_zero]
    have hs : (List.map (fun n : Nat => (n : Int)) (l.eraseIdx i) ++ List.replicate 1 (0 : Int)).toArray.size = l.length := by simp [hel]; omega
    rw [hs]
    by_cases hk : k < l.length
    · rw [List.getElem?_append_left (by rw [intsL_length]; exact hk), intsL_get l k hk]
      simp only [Option.map_some, if_pos hk]
      rw [getElem!_pos _ k (by rw [hs]; exact hk)]
      by_cases hk2 : k < l.length - 1
      · rw [List.getElem?_append_left (by rw [intsL_length, hel]; exact hk2), intsL_get _ k (by rw [hel]; exact hk2)]
        rw [List.getElem_toArray, List.getElem_append_left (by simp [hel]; exact hk2), List.getElem_map]
      · rw [List.getElem?_append_right (by rw [intsL_length, hel]; omega), intsL_length, hel, getElem_replicate_zero _ _ _ (by omega)]
        rw [List.getElem_toArray, List.getElem_append_right (by simp [hel]; omega)]
        simp
    · rw [List.getElem?_append_right (by rw [intsL_length]; omega), intsL_length, List.getElem?_append_right (by rw [intsL_length, hel]; omega), intsL_length, hel]
      by_cases hk3 : k - l.length < m
      · rw [getElem_replicate_zero _ _ _ hk3, getElem_replicate_zero _ _ _ (by omega)]
        simp only [Option.map_some, if_neg hk]
      · rw [List.getElem?_replicate, List.getElem?_replicate, if_neg hk3, if_neg (by omega)]
        rfl
  · refine ⟨rfl, rfl, rfl, by simp [Go.Sort.putRow, Go.Sort.mapBlock, Go.Sort.ahead], fun k hk hn => ?_⟩
    unfold Go.Sort.putRow Go.Sort.mapBlock
    simp only [Array.getElem?_modify]
    rw [if_neg (by rintro rfl; exact hn rfl)]
    rfl
end Go.Proofs.Ytbfhfnbhfeedbaa
end
