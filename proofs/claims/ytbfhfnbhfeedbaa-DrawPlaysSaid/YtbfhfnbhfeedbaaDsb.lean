/- Contracts of draw (the program): New, number, widthOf, Num, Word. Conditions: the bytes are at most 900,000. -/
import Derived.Test.YtbfhfnbhfeedbaaDsa
import Derived.Test.YtbfhfnbhfeedbaaShelf
namespace Go.Proofs.Ytbfhfnbhfeedbaa
set_option maxRecDepth 100000
set_option maxHeartbeats 1000000
open Go.RowKit Go.Lib Go.Great

section
variable {w w' w2 : World} {h : Nat} {go : Option Nat} {xs : List UInt8} {p : Option Addr} {v : Value}

/-- How many bytes it takes to write n. -/
def widN (n : Nat) : Nat := (Lib.bitLen n + 7) / 8
theorem width_any (n : Nat) (hn : n < 18446744073709551616) (w : World) : Calls Try.prog 57 #[.int .u64 (n : Int)] w fun e w' => e = .returned (.int .i64 (widN n : Int)) ∧ w' = w := by
  have h64 : Lib.bitLen n ≤ 64 := Lib.bitLen_le n 64 (by omega) hn
  have HB := Lib.hid (Try.bits_Len64 (n : Int) w (by omega) (by omega))
  have e : ((widN n : Nat) : Int) = ((Lib.bitLen n : Int) + 7) / 8 := by unfold widN; omega
  rw [e]
  clear e
  rw [Int.toNat_natCast] at HB
  generalize Lib.bitLen n = b at *
  have q : (b : Int) ≤ 64 := by omega
  go_enter Try.func57, Try.ntmps57
  go_wp2_with (go_at_call 89; (with_reducible refine HB.out.mono ?_); rintro e w1 ⟨rfl, rfl⟩)
  go_ret
  exact ⟨rfl, rfl⟩
/-- j bytes read on from x. -/
def eatX : Nat → Nat → List UInt8 → Nat × List UInt8
  | 0, x, r => (x, r)
  | j + 1, x, r => eatX j (x * 256 + (r.headD 0).toNat) r.tail
theorem eatX_succ (j : Nat) : ∀ (x : Nat) (r : List UInt8), eatX (j + 1) x r = ((eatX j x r).1 * 256 + ((eatX j x r).2.headD 0).toNat, (eatX j x r).2.tail) := by
  induction j with
  | zero => intro x r; rfl
  | succ j ih => intro x r; rw [eatX, ih]; rfl
theorem eatX_eat (j : Nat) (r : List UInt8) : eatX j 0 r = eat j r := by
  induction j with
  | zero => rfl
  | succ j ih => rw [eatX_succ, ih]; rfl
theorem widN_zero : widN 0 = 0 := by decide +kernel
theorem widN_step {m : Nat} (h : 0 < m) (hm : m < 18446744073709551616) : widN m = widN (m / 256) + 1 := by
  by_cases h8 : 256 ≤ m
  · unfold widN
    rw [Lib.bitLen_shift8 m h8 hm]
    omega
  · rw [show m / 256 = 0 from by omega, widN_zero]
    have h1 : Lib.bitLen m ≤ 8 := Lib.bitLen_le m 8 (by omega) (by omega)
    have h2 : 1 ≤ Lib.bitLen m := by rw [Lib.bitLen_half m (by omega) hm]; omega
    unfold widN
    omega
theorem numX_eatX (k : Nat) : ∀ (m x : Nat) (r : List UInt8), m ≤ k → m < 18446744073709551616 → numX m x r = eatX (widN m) x r := by
  induction k with
  | zero =>
    intro m x r hk _
    obtain rfl : m = 0 := by omega
    rw [numX_zero, widN_zero]; rfl
  | succ k ih =>
    intro m x r hk hm
    by_cases h0 : m = 0
    · subst h0; rw [numX_zero, widN_zero]; rfl
    · rw [numX_step (by omega), widN_step (by omega) hm, ih (m / 256) _ _ (by omega) (by omega)]; rfl
theorem numX_eat (m : Nat) (r : List UInt8) (hm : m < 18446744073709551616) : numX m 0 r = eat (widN m) r := by
  rw [numX_eatX m m 0 r (Nat.le_refl _) hm, eatX_eat]
theorem widN_le (m : Nat) (hm : m < 18446744073709551616) : widN m ≤ 8 := by
  have := Lib.bitLen_le m 64 (by omega) hm
  unfold widN; omega

theorem orb (x b : Nat) (hx : x < 72057594037927936) (hb : b < 256) : bits .or .u64 ((x : Int) * 256) (b : Int) = (x : Int) * 256 + (b : Int) := by
  have h1 : x * 256 < 18446744073709551616 := by omega
  have := u64_or_nat (x * 256) b h1 (by omega)
  rw [show ((x * 256 : Nat) : Int) = (x : Int) * 256 from by omega] at this
  rw [this, show x * 256 = 2 ^ 8 * x from by omega, ← Nat.two_pow_add_eq_or_of_lt (i := 8) (by simpa using hb) x]
  omega
def NbRel (w : World) (p : Option Addr) (go : Option Nat) (r : List UInt8) (W : Nat) (v i : Value) (w' : World) : Prop :=
  ∃ j : Nat, j ≤ W ∧ i = .int .i64 (j : Int) ∧ v = .int .u64 ((eat j r).1 : Int) ∧ DSt w' p go (eat j r).2 ∧ w.grownBy w' (pblk p)
theorem number_any (s : DSt w p go xs) (W : Nat) (hW : W ≤ 8) : Calls Try.prog 56 #[.func (.func 12) #[.pointer p] #[], .int .i64 (W : Int)] w fun e w' => e = .returned (.int .u64 ((eat W xs).1 : Int)) ∧ DSt w' p go (eat W xs).2 ∧ w.grownBy w' (pblk p) := by
  have R0 : Hid (NbRel w p go xs W (.int .u64 0) (.int .i64 0) w) := Lib.hid ⟨0, by omega, rfl, rfl, s, World.grownBy.refl _ _⟩
  have HE : Hid (∀ args w, (callFunc 12 args).run Try.prog w = .ok (.enter 12 args) w) := Lib.hid (enters_of Try.func12 (by kernel_rfl) rfl)
  clear s
  go_enter Try.func56, Try.ntmps56
  go_upto_region 3 with fail
  go_loopw [5, 7] (NbRel w p go xs W) (fun _ i _ => W - (RowKit.intOf i).toNat)
  case atStart => exact R0.out
  case round =>
    obtain ⟨j, hj, rfl, rfl, hs, hg⟩ := hrel
    clear R0
    by_cases hlt : j < W
    · have hlt' : (j : Int) < (W : Int) := by omega
      have hb := ((eat j xs).2.headD 0).toNat_lt
      have hx : (eat j xs).1 < 72057594037927936 := by
        have := eat_lt j xs
        have h2 : 256 ^ j ≤ 256 ^ 7 := Nat.pow_le_pow_right (by omega) (by omega)
        have h3 : (256 : Nat) ^ 7 = 72057594037927936 := by decide
        omega
      have HB := Lib.hid (nbyte_any hs)
      unfold NByteP at HB
      have HREL : Hid (∀ w', DSt w' p go (eat j xs).2.tail → wr.grownBy w' (pblk p) → NbRel w p go xs W (.int .u64 (((eat j xs).1 : Int) * 256 + (((eat j xs).2.headD 0).toNat : Int))) (.int .i64 ((j : Int) + 1)) w') := Lib.hid (fun w' a b => ⟨j + 1, by omega, by go_num, by rw [eat]; go_num, by rw [eat]; exact a, grownBy_trans hg b⟩)
      clear hs hg
      generalize (eat j xs).1 = x at *
      generalize ((eat j xs).2.headD 0).toNat = b at *
      generalize (eat j xs).2.tail = r2 at *
      have hx1 : (x : Int) * 256 < 18446744073709551616 := by omega
      have hx2 : (x : Int) * 256 + (b : Int) < 18446744073709551616 := by omega
      go_upto_region 5 with (go_at_call 12; (with_reducible refine HB.out.mono ?_); rintro e w2 ⟨rfl, hs2, hg2⟩)
      have HR2 := Lib.hid (HREL.out _ hs2 hg2)
      clear HREL hs2 hg2 HB
      go_wp2
      go_roundw
      case rel => rw [orb x b hx (by simpa using hb)]; exact HR2.out
      case measure => simp [RowKit.intOf]; omega
    · obtain rfl : j = W := by omega
      have HF := Lib.hid (And.intro hs hg)
      clear hs hg
      go_wp2
      go_ret
      exact ⟨rfl, HF.out⟩
theorem nnum_any (s : DSt w p go xs) (n : Int) (hn : n ≤ 9223372036854775807) : Calls Try.prog 14 #[.pointer p, .int .i64 n] w fun e w' => e = .returned (.int .i64 ((numL n xs).1 : Int)) ∧ DSt w' p go (numL n xs).2 ∧ w.grownBy w' (pblk p) := by
  by_cases h2 : n < 2
  · rw [numL_small h2]
    have HF := Lib.hid (And.intro s (World.grownBy.refl w (pblk p)))
    clear s
    go_enter Try.func14, Try.ntmps14
    go_wp2
    go_ret
    exact ⟨rfl, HF.out⟩
  · obtain ⟨N, rfl⟩ : ∃ N : Nat, n = (N : Int) + 1 := ⟨(n - 1).toNat, by omega⟩
    have hN : 0 < N := by omega
    have hN2 : N < 18446744073709551616 := by omega
    have e1 : numL ((N : Int) + 1) xs = ((eat (widN N) xs).1 % (N + 1), (eat (widN N) xs).2) := by
      unfold numL
      rw [if_neg h2, show ((N : Int) + 1).toNat = N + 1 from by omega, Nat.add_sub_cancel, numX_eat N xs hN2]
    rw [e1]
    have HW := Lib.hid (fun w => width_any N hN2 w)
    have HN := Lib.hid (number_any s (widN N) (widN_le N hN2))
    have hx := eat_lt (widN N) xs
    have hx2 : (eat (widN N) xs).1 < 18446744073709551616 := by
      have h2 : 256 ^ (widN N) ≤ 256 ^ 8 := Nat.pow_le_pow_right (by omega) (widN_le N hN2)
      have h3 : (256 : Nat) ^ 8 = 18446744073709551616 := by decide
      omega
    clear s e1 hx
    generalize (eat (widN N) xs).1 = x at *
    generalize (eat (widN N) xs).2 = r2 at *
    have hml : x % (N + 1) < N + 1 := Nat.mod_lt _ (by omega)
    have hmi : ((x % (N + 1) : Nat) : Int) = (x : Int) % ((N : Int) + 1) := by simp
    have hmo : (x : Int) % ((N : Int) + 1) < (N : Int) + 1 := by omega
    have hmp : 0 ≤ (x : Int) % ((N : Int) + 1) := by omega
    rw [hmi]
    clear hml hmi
    generalize widN N = W at *
    go_enter Try.func14, Try.ntmps14
    go_wp2_with (first
      | (go_at_call 57; (with_reducible refine (HW.out _).mono ?_); rintro e w1 ⟨rfl, rfl⟩)
      | (go_at_call 56; (with_reducible refine HN.out.mono ?_); rintro e w2 ⟨rfl, hs2, hg2⟩))
    go_ret
    exact ⟨rfl, hs2, hg2⟩
theorem nword_any (s : DSt w p go xs) : Calls Try.prog 16 #[.pointer p] w fun e w' => e = .returned (.int .u32 ((eat 4 xs).1 : Int)) ∧ DSt w' p go (eat 4 xs).2 ∧ w.grownBy w' (pblk p) := by
  have HN := Lib.hid (number_any s 4 (by omega))
  have hx := eat_lt 4 xs
  have hx2 : (eat 4 xs).1 < 4294967296 := hx
  clear s hx
  generalize (eat 4 xs).1 = x at *
  generalize (eat 4 xs).2 = r2 at *
  simp only [Int.cast_ofNat_Int] at HN
  go_enter Try.func16, Try.ntmps16
  go_wp2_with (go_at_call 56; (with_reducible refine HN.out.mono ?_); rintro e w2 ⟨rfl, hs2, hg2⟩)
  go_ret
  exact ⟨rfl, hs2, hg2⟩
theorem info5c : ∃ i0, Try.prog.info? 5 = some i0 ∧ i0.zero = some (.int .u8 0) ∧ i0.size = 1 ∧ i0.bytes = 1 := info5b
theorem cloneB_some (b off n c : Nat) (news : List Value) (w : World) (hl : news.length = n * 1) (hn : n ≤ 900000)
    (hc : ∀ j u, news[j]? = some u → w.cell? ⟨b, off + j, none⟩ = some u) (h1 : ∀ u ∈ news, u.oneCell' = true) :
    Calls Try.prog 55 #[.slice (some ⟨b, off, none⟩) n c] w fun e w' => ∃ v', e = .returned v' ∧ w'.ownsRow w.heap.size 5 1 v' n news ∧ v' ≠ .slice none 0 0 ∧ Below w.heap.size w w' := by
  obtain ⟨i0, hi, hz0, hz1, hz2⟩ := info5b
  exact AnyE.slices_Clone Try.cloneB i0 _ 1 1 hi hz0 hz1 hz2 (by simp [Value.cells]) (by omega) (fun w => by kernel_rfl) b off n c news w hl (by simp only [maxLen]; omega) (by omega) hc h1
theorem cloneB_nil (n c : Nat) (w : World) : Calls Try.prog 55 #[.slice none n c] w fun e w' => e = .returned (.slice none 0 0) ∧ w' = w := AnyE.slices_Clone_nil Try.cloneB n c w
end
end Go.Proofs.Ytbfhfnbhfeedbaa
