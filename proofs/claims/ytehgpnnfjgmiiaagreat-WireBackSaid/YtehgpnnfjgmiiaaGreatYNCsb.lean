/- Contracts of swapRangeCmpFunc and rotateCmpFunc of package slices, at contacts. Conditions: fewer than 2^62 of them; the places lie within them. Merging that keeps the order of what has the same key: plain lemmas on arrays. No condition. Contract of symMergeCmpFunc of package slices, at contacts: what is sorted in two parts is merged, in order. Conditions: fewer than 2^62 of them; the comparison is that of a key. -/
import Derived.Test.YtehgpnnfjgmiiaaGreatYOja
import Derived.Test.YtehgpnnfjgmiiaaGreatYOcb
import Derived.Test.YtehgpnnfjgmiiaaGreatYOga
import Derived.Test.YtehgpnnfjgmiiaaGreatYRIis
import Derived.Test.YtehgpnnfjgmiiaaGreatYRERefc
import Derived.Test.YtehgpnnfjgmiiaaGreatYRIip
import Derived.Test.YtehgpnnfjgmiiaaGreatYREOcta
import Derived.Test.YtehgpnnfjgmiiaaGreatYNCsa
import Derived.Shelf.SlSortCmp.KitK
import Derived.Deep.LoopGhost
section
namespace Go.Proofs.YtehgpnnfjgmiiaaGreat
set_option maxRecDepth 100000
open Go.Shelf Go.RowKit Go.Lib Go.Sort
set_option maxRecDepth 1000000
set_option maxHeartbeats 4000000
section
variable {α : Type} [Inhabited α]
theorem swapr_any (k : Nat) (aE : ∀ w, (isAgg 63).run Tryz.prog w = .ok true w) (zE : ∀ w, (Go.sizeOf 63).run Tryz.prog w = .ok k w) (enc : α → List Value) (fv : Value) (blk off cap a b n : Nat) (d0 d : Array α) (w0 w : World)
    (R : RowK enc k w0 blk off d0) (hs : d.size = d0.size) (S : SWK enc k w0 blk off d w) (hab : a + n ≤ b) (hb : b + n ≤ d.size) (hsz : d.size < 4611686018427387904) :
    Calls Tryz.prog 146 #[.slice (some ⟨blk, off, none⟩) d.size cap, .int .i64 a, .int .i64 b, .int .i64 n, fv] w fun e w' => e = .returned (.tuple #[]) ∧ ∃ d', SwapIs d a b n d' ∧ SWK enc k w0 blk off d' w' := by
  have mixed : Tryz.prog.follows Departure.mixedOrders = true := by kernel_rfl
  have S0 : Aside (SWK enc k w0 blk off d w) := S
  clear S
  go_enter Tryz.func146, Tryz.ntmps146
  go_wp2
  go_loopg [10] n (fun kx s10 wr => ∃ (i : Nat) (dk : Array α), s10 = .int .i64 i ∧ i ≤ n ∧ n - i ≤ kx ∧ SwapIs d a b i dk ∧ Aside (SWK enc k w0 blk off dk wr))
  case atStart => exact ⟨0, d, rfl, by omega, by omega, SwapIs.zero d a b, S0⟩
  case round =>
    clear S0
    obtain ⟨i, dk, rfl, hin, hkx, hsw, S1⟩ := hrel
    have hds : dk.size = d.size := hsw.size
    by_cases hlt : i < n
    · have hltz : (i : Int) < (n : Int) := by omega
      go_wp2_with fail
      have ea44 : ((a : Int) + (i : Int)).toNat = a + i := by omega
      have pa44 : (0 : Int) ≤ (a : Int) + (i : Int) := by omega
      have ba44 : (a : Int) + (i : Int) < (d.size : Int) := by omega
      have ra44 : IntKind.i64.wrap ((a : Int) + (i : Int)) = (a : Int) + (i : Int) := by rw [IntKind.wrap_i64]; omega
      have ec44 : ((b : Int) + (i : Int)).toNat = b + i := by omega
      have pc44 : (0 : Int) ≤ (b : Int) + (i : Int) := by omega
      have bc44 : (b : Int) + (i : Int) < (d.size : Int) := by omega
      have rc44 : IntKind.i64.wrap ((b : Int) + (i : Int)) = (b : Int) + (i : Int) := by rw [IntKind.wrap_i64]; omega
      have S2 : Aside (SWK enc k w0 blk off (swp dk (a + i) (b + i)) ((wr.drew.setCells blk (off + (a + i) * k) (enc dk[b + i]!)).setCells blk (off + (b + i) * k) (enc dk[a + i]!))) := S1.out.swapped R (a + i) (b + i) (by omega) (by omega)
      have l44a := S1.out.ld1 R (by omega) Tryz.prog (a + i) (by omega)
      have l44b := S1.out.ld1 R (by omega) Tryz.prog (b + i) (by omega)
      have s44a := S1.out.st1 R (by omega) Tryz.prog (a + i) (by omega) dk[b + i]!
      have s44b := S1.out.st2 R (by omega) Tryz.prog (a + i) (b + i) (by omega) (by omega) dk[b + i]! dk[a + i]!
      have n44a : (enc dk[a + i]!).length = k := R.hk _
      have n44b : (enc dk[b + i]!).length = k := R.hk _
      have SW : Aside (SwapIs d a b (i + 1) (swp dk (a + i) (b + i))) := hsw.step hlt hab hb
      generalize enc dk[a + i]! = cI44 at S2 l44a s44b n44a
      generalize enc dk[b + i]! = cJ44 at S2 l44b s44a s44b n44b
      clear S1 hsw
      go_wp2_with fail
      go_big_region_o
      clear l44a l44b s44a s44b
      generalize (wr.drew.setCells blk (off + (a + i) * k) cJ44).setCells blk (off + (b + i) * k) cI44 = w2 at S2 ⊢
      go_wp2
      go_roundg (n - (i + 1))
      case measure => omega
      case rel => exact ⟨i + 1, _, by go_num, by omega, by omega, SW.out, S2⟩
    · obtain rfl : i = n := by omega
      go_wp2
      go_end0
      exact ⟨rfl, dk, hsw, S1.out⟩
theorem rotate_any (k : Nat) (aE : ∀ w, (isAgg 63).run Tryz.prog w = .ok true w) (zE : ∀ w, (Go.sizeOf 63).run Tryz.prog w = .ok k w) (enc : α → List Value) (fv : Value) (blk off cap a m b : Nat) (d0 d : Array α) (w0 w : World)
    (R : RowK enc k w0 blk off d0) (hs : d.size = d0.size) (S : SWK enc k w0 blk off d w) (ham : a < m) (hmb : m < b) (hb : b ≤ d.size) (hsz : d.size < 4611686018427387904) :
    Calls Tryz.prog 141 #[.slice (some ⟨blk, off, none⟩) d.size cap, .int .i64 a, .int .i64 m, .int .i64 b, fv] w fun e w' => e = .returned (.tuple #[]) ∧ ∃ d', RotIs d a m b d' ∧ SWK enc k w0 blk off d' w' := by
  have S0 : Aside (SWK enc k w0 blk off d w) := S
  have HS : Aside (d.size = d0.size) := hs
  clear S hs
  go_enter Tryz.func141, Tryz.ntmps141
  go_wp2
  go_loopg [10, 11] (m - a + (b - m)) (fun kx s10 s11 wr => ∃ (i j : Nat) (dk : Array α), s10 = .int .i64 i ∧ s11 = .int .i64 j ∧ 1 ≤ i ∧ 1 ≤ j ∧ i ≤ m ∧ m + j ≤ b ∧ i + j ≤ kx ∧ dk.size = d.size ∧ (∀ d2, RotIs dk (m - i) m (m + j) d2 → RotIs d a m b d2) ∧ Aside (SWK enc k w0 blk off dk wr))
  case atStart => exact ⟨m - a, b - m, d, by first | rfl | (congr 1; omega), by first | rfl | (congr 1; omega), by omega, by omega, by omega, by omega, by omega, rfl, fun d2 h => by rwa [show m - (m - a) = a by omega, show m + (b - m) = b by omega] at h, S0⟩
  case round =>
    clear S0
    obtain ⟨i, j, dk, rfl, rfl, hi, hj, him, hjb, hkx, hds, hrot, S1⟩ := hrel
    have HR : Aside (∀ d2, RotIs dk (m - i) m (m + j) d2 → RotIs d a m b d2) := hrot
    have F1 : Aside ((m : Int) - (i : Int) = ((m - i : Nat) : Int)) := by show _ = _; omega
    have F2 : Aside ((m : Int) + (j : Int) - (i : Int) = ((m + j - i : Nat) : Int)) := by show _ = _; omega
    clear hrot
    rcases Nat.lt_trichotomy i j with hij | hij | hij
    · have hz : ¬ (j : Int) < (i : Int) := by omega
      have hne : ¬ (i : Int) = (j : Int) := by omega
      have HC := Lib.hid (swapr_any k aE zE enc fv blk off cap (m - i) (m + j - i) i d0 dk w0 wr R (hds.trans HS.out) S1.out (by omega) (by omega) (by omega))
      rw [hds, ← F1.out, ← F2.out] at HC
      clear S1
      go_wp2_with (first | (go_at_call 146; (with_reducible refine HC.out.mono ?_); rintro e w2 ⟨rfl, d2, hsw, S2⟩))
      go_roundg (i + (j - i))
      case measure => omega
      case rel => exact ⟨i, j - i, d2, rfl, by congr 1; omega, by omega, by omega, by omega, by omega, by omega, by rw [hsw.size]; exact hds, fun d3 h3 => HR.out d3 (hsw.rot_down hij him h3), S2⟩
    · subst hij
      have HC := Lib.hid (swapr_any k aE zE enc fv blk off cap (m - i) m i d0 dk w0 wr R (hds.trans HS.out) S1.out (by omega) (by omega) (by omega))
      rw [hds, ← F1.out] at HC
      clear S1
      go_wp2_with (first | (go_at_call 146; (with_reducible refine HC.out.mono ?_); rintro e w2 ⟨rfl, d2, hsw, S2⟩))
      go_end0
      exact ⟨rfl, d2, HR.out d2 (hsw.rot (by omega)), S2⟩
    · have hz : (j : Int) < (i : Int) := by omega
      have hne : ¬ (i : Int) = (j : Int) := by omega
      have HC := Lib.hid (swapr_any k aE zE enc fv blk off cap (m - i) m j d0 dk w0 wr R (hds.trans HS.out) S1.out (by omega) (by omega) (by omega))
      rw [hds, ← F1.out] at HC
      clear S1
      go_wp2_with (first | (go_at_call 146; (with_reducible refine HC.out.mono ?_); rintro e w2 ⟨rfl, d2, hsw, S2⟩))
      go_roundg (i - j + j)
      case measure => omega
      case rel => exact ⟨i - j, j, d2, by congr 1; omega, rfl, by omega, by omega, by omega, by omega, by omega, by rw [hsw.size]; exact hds, fun d3 h3 => HR.out d3 (hsw.rot_up hij him (by rwa [show m - (i - j) = m - i + j by omega] at h3)), S2⟩
end
end Go.Proofs.YtehgpnnfjgmiiaaGreat
end
section
namespace Go.Proofs.YtehgpnnfjgmiiaaGreat
set_option maxRecDepth 100000
open Go.Sort
section
variable {α : Type} [Inhabited α] {key : α → Nat} {d d' d1 d2 d3 : Array α} {a b m i s e : Nat}
theorem AscN.shift {u v n : Nat} (h : AscN key u (u + n) d) (he : ∀ k, k < n → d'[v + k]! = d[u + k]!) : AscN key v (v + n) d' := fun i j h1 h2 h3 => by
  have e1 := he (i - v) (by omega)
  have e2 := he (j - v) (by omega)
  rw [show v + (i - v) = i by omega] at e1
  rw [show v + (j - v) = j by omega] at e2
  rw [e1, e2]
  exact h _ _ (by omega) (by omega) (by omega)
theorem AscN.one (a : Nat) (d : Array α) : AscN key a (a + 1) d := fun i j h1 h2 h3 => by
  obtain rfl : i = j := by omega
  exact Nat.le_refl _
theorem AscN.none (a b : Nat) (h : b ≤ a) (d : Array α) : AscN key a b d := fun i j h1 h2 h3 => by omega
/-- The one ahead is put among the others. -/
theorem merge_up (h2 : AscN key (a + 1) b d) (hai : a + 1 ≤ i) (hib : i ≤ b) (hlo : i = a + 1 ∨ key d[i - 1]! < key d[a]!) (hhi : i = b ∨ key d[a]! ≤ key d[i]!) (hr : RotIs d a (a + 1) i d') : Stb key a b d d' ∧ AscN key a b d' := by
  have hs : ∀ p q, a ≤ p → p < a + 1 → a + 1 ≤ q → q < i → key d[q]! < key d[p]! := fun p q h3 h4 h5 h6 => by
    obtain rfl : p = a := by omega
    rcases hlo with h | h
    · omega
    · have := h2 q (i - 1) h5 (by omega) (by omega)
      omega
  refine ⟨(hr.stb (by omega) hai hs).mono (Nat.le_refl _) hib (by omega), ?_⟩
  have g1 : AscN key a (a + (i - (a + 1))) d' := (h2.sub (Nat.le_refl _) (show a + 1 + (i - (a + 1)) ≤ b by omega)).shift (fun k hk => hr.low hai k hk (by omega))
  have e0 : d'[i - 1]! = d[a]! := by
    have := hr.high hai 0 (by omega) (by omega)
    rwa [show a + (i - (a + 1)) + 0 = i - 1 by omega, Nat.add_zero] at this
  have g3 : AscN key i b d' := (h2.sub hai (Nat.le_refl _)).congr (fun k h1 _ => hr.out k (by omega))
  rw [show a + (i - (a + 1)) = i - 1 by omega] at g1
  have g2 : AscN key a i d' := by
    refine g1.glue (m := i - 1) ?_ ?_
    · have := AscN.one (key := key) (i - 1) d'
      rwa [show i - 1 + 1 = i by omega] at this
    · intro p q h3 h4 h5 h6
      obtain rfl : q = i - 1 := by omega
      have := hr.low hai (p - a) (by omega) (by omega)
      rw [show a + (p - a) = p by omega] at this
      rw [this, e0]
      exact Nat.le_of_lt (hs a _ (by omega) (by omega) (by omega) (by omega))
  refine g2.glue g3 ?_
  intro p q h3 h4 h5 h6
  rcases hhi with h | h
  · omega
  · have k1 := g2 p (i - 1) h3 (by omega) (by omega)
    rw [e0] at k1
    rw [hr.out q (by omega)]
    have k2 := h2 i q (by omega) (by omega) (by omega)
    omega
/-- The one behind is put among the others. -/
theorem merge_down (h1 : AscN key a m d) (hai : a ≤ i) (him : i ≤ m) (hlo : i = a ∨ key d[i - 1]! ≤ key d[m]!) (hhi : i = m ∨ key d[m]! < key d[i]!) (hr : RotIs d i m (m + 1) d') : Stb key a (m + 1) d d' ∧ AscN key a (m + 1) d' := by
  have hs : ∀ p q, i ≤ p → p < m → m ≤ q → q < m + 1 → key d[q]! < key d[p]! := fun p q h3 h4 h5 h6 => by
    obtain rfl : q = m := by omega
    rcases hhi with h | h
    · omega
    · have := h1 i p hai h3 h4
      omega
  refine ⟨(hr.stb him (by omega) hs).mono hai (Nat.le_refl _) (by omega), ?_⟩
  have g1 : AscN key a i d' := (h1.sub (Nat.le_refl _) him).congr (fun k _ h => hr.out k (by omega))
  have e0 : d'[i]! = d[m]! := by
    have := hr.low (by omega) 0 (by omega) him
    rwa [Nat.add_zero, Nat.add_zero] at this
  have g3 : AscN key (i + 1) (i + 1 + (m - i)) d' := (h1.sub hai (show i + (m - i) ≤ m by omega)).shift (fun k hk => by
    have := hr.high (by omega) k hk him
    rwa [show i + (m + 1 - m) + k = i + 1 + k by omega] at this)
  rw [show i + 1 + (m - i) = m + 1 by omega] at g3
  have g2 : AscN key i (m + 1) d' := by
    refine (AscN.one (key := key) i d').glue g3 ?_
    intro p q h3 h4 h5 h6
    obtain rfl : p = i := by omega
    have := hr.high (by omega) (q - (p + 1)) (by omega) him
    rw [show p + (m + 1 - m) + (q - (p + 1)) = q by omega] at this
    rw [this, e0]
    exact Nat.le_of_lt (hs _ m (by omega) (by omega) (by omega) (by omega))
  refine g1.glue g2 ?_
  intro p q h3 h4 h5 h6
  rcases hlo with h | h
  · omega
  · have k1 := g2 i q (by omega) h5 h6
    rw [e0] at k1
    rw [hr.out p (by omega)]
    have k2 := h1 p (i - 1) h3 (by omega) (by omega)
    omega
/-- What lies in the middle has changed places: the halves can be merged apart. -/
theorem merge_mid (h1 : AscN key a m d) (h2 : AscN key m b d) (has : a ≤ s) (hsm : s ≤ m) (hme : m ≤ e) (heb : e ≤ b) (hlo : s = a ∨ e = b ∨ key d[s - 1]! ≤ key d[e]!) (hhi : s = m ∨ e = m ∨ key d[e - 1]! < key d[s]!) (hr : RotIs d s m e d1) :
    Stb key a b d d1 ∧ AscN key a s d1 ∧ AscN key s (s + (e - m)) d1 ∧ AscN key (s + (e - m)) e d1 ∧ AscN key e b d1 ∧ ∀ i j, a ≤ i → i < s + (e - m) → s + (e - m) ≤ j → j < b → key d1[i]! ≤ key d1[j]! := by
  have hs : ∀ p q, s ≤ p → p < m → m ≤ q → q < e → key d[q]! < key d[p]! := fun p q h3 h4 h5 h6 => by
    rcases hhi with h | h | h
    · omega
    · omega
    · have := h1 s p has h3 h4
      have := h2 q (e - 1) h5 (by omega) (by omega)
      omega
  have g1 : AscN key a s d1 := (h1.sub (Nat.le_refl _) hsm).congr (fun k _ h => hr.out k (by omega))
  have g2 : AscN key s (s + (e - m)) d1 := (h2.sub (Nat.le_refl _) (show m + (e - m) ≤ b by omega)).shift (fun k hk => hr.low hme k hk hsm)
  have g3 : AscN key (s + (e - m)) (s + (e - m) + (m - s)) d1 := (h1.sub has (show s + (m - s) ≤ m by omega)).shift (fun k hk => hr.high hme k hk hsm)
  have g4 : AscN key e b d1 := (h2.sub hme (Nat.le_refl _)).congr (fun k h _ => hr.out k (by omega))
  refine ⟨(hr.stb hsm hme hs).mono has heb (by omega), g1, g2, by rwa [show s + (e - m) + (m - s) = e by omega] at g3, g4, ?_⟩
  have lowq : ∀ p, s ≤ p → p < s + (e - m) → d1[p]! = d[m + (p - s)]! := fun p h3 h4 => by
    have := hr.low hme (p - s) (by omega) hsm
    rwa [show s + (p - s) = p by omega] at this
  have highq : ∀ p, s + (e - m) ≤ p → p < e → d1[p]! = d[s + (p - (s + (e - m)))]! := fun p h3 h4 => by
    have := hr.high hme (p - (s + (e - m))) (by omega) hsm
    rwa [show s + (e - m) + (p - (s + (e - m))) = p by omega] at this
  intro p q h3 h4 h5 h6
  by_cases hp : p < s
  · rw [hr.out p (by omega)]
    by_cases hq : q < e
    · rw [highq q h5 hq]
      exact h1 _ _ h3 (by omega) (by omega)
    · rw [hr.out q (by omega)]
      rcases hlo with h | h | h
      · omega
      · omega
      · have k1 := h1 p (s - 1) h3 (by omega) (by omega)
        have k2 := h2 e q (by omega) (by omega) h6
        omega
  · rw [lowq p (by omega) h4]
    by_cases hq : q < e
    · rw [highq q h5 hq]
      exact Nat.le_of_lt (hs _ _ (by omega) (by omega) (by omega) (by omega))
    · rw [hr.out q (by omega)]
      exact h2 _ _ (by omega) (by omega) h6
/-- The halves are merged. -/
theorem merge_fin (ham : a ≤ m) (hmb : m ≤ b) (hx : ∀ i j, a ≤ i → i < m → m ≤ j → j < b → key d1[i]! ≤ key d1[j]!) (s1 : Stb key a m d1 d2) (g1 : AscN key a m d2) (s2 : Stb key m b d2 d3) (g2 : AscN key m b d3) : Stb key a b d1 d3 ∧ AscN key a b d3 := by
  refine ⟨(s1.mono (Nat.le_refl _) hmb ham).trans (s2.mono ham (Nat.le_refl _) hmb), ?_⟩
  have g1' : AscN key a m d3 := g1.congr (fun k _ h => s2.out k (by omega))
  refine g1'.glue g2 ?_
  intro i j h1 h2 h3 h4
  rw [s2.out i (by omega)]
  refine s1.all (p := fun x => key x ≤ key d3[j]!) ?_ i h1 h2
  intro k h5 h6
  refine s2.all (p := fun y => key d1[k]! ≤ key y) ?_ j h3 h4
  intro q h7 h8
  rw [s1.out q (by omega)]
  exact hx k q h5 h6 h7 h8
/-- The library's sort of few keeps the order of what has the same key. -/
theorem insInner_stb {lt : α → α → Bool} (hlt : ∀ x y, lt x y = decide (key x < key y)) : ∀ (j : Nat) (d : Array α), j < b → b ≤ d.size → Stb key a b d (insInner lt a j d)
  | 0, d, _, _ => by unfold insInner; exact Stb.refl _ _ _ _
  | j + 1, d, hj, hb => by
    unfold insInner
    split
    · rename_i hc
      simp only [Bool.and_eq_true, decide_eq_true_eq] at hc
      rw [hlt] at hc
      have hr : RotIs d j (j + 1) (j + 1 + 1) (swp d (j + 1) j) := RotIs.down (RotIs.refl d (j + 1) (j + 1 + 1) (by omega)) (by omega) (by omega)
      have hs : Stb key j (j + 1 + 1) d (swp d (j + 1) j) := hr.stb (by omega) (by omega) (fun p q h1 h2 h3 h4 => by
        obtain rfl : p = j := by omega
        obtain rfl : q = p + 1 := by omega
        exact of_decide_eq_true hc.2)
      exact (hs.mono (by omega) (by omega) (by omega)).trans (insInner_stb hlt j _ (by omega) (by rw [swp_size]; exact hb))
    · exact Stb.refl _ _ _ _
theorem insOuter_stb {lt : α → α → Bool} (hlt : ∀ x y, lt x y = decide (key x < key y)) : ∀ (n i : Nat) (d : Array α), b - i = n → b ≤ d.size → Stb key a b d (insOuter lt a b i d)
  | 0, i, d, hn, hb => by rw [insOuter, if_neg (by omega)]; exact Stb.refl _ _ _ _
  | n + 1, i, d, hn, hb => by
    rw [insOuter, if_pos (by omega)]
    have h1 : Stb key a b d (insInner lt a i d) := insInner_stb hlt i d (by omega) hb
    exact h1.trans (insOuter_stb hlt n (i + 1) _ (by omega) (by rw [h1.size]; exact hb))
omit [Inhabited α] in
theorem swoK {lt : α → α → Bool} (hlt : ∀ x y, lt x y = decide (key x < key y)) : SWO lt where
  irrefl x := by rw [hlt]; simp
  trans x y z h1 h2 := by rw [hlt] at *; simp at *; omega
  ntrans x y z h1 h2 := by rw [hlt] at *; simp at *; omega
theorem insertion_stb {lt : α → α → Bool} (hlt : ∀ x y, lt x y = decide (key x < key y)) (d : Array α) (hab : a ≤ b) (hb : b ≤ d.size) : Stb key a b d (insertionSort lt d a b) ∧ AscN key a b (insertionSort lt d a b) := by
  refine ⟨insOuter_stb hlt _ _ _ rfl hb, ?_⟩
  have h := (insertionSort_holds (swoK hlt) d a b hab hb).2
  intro i j h1 h2 h3
  by_cases e : i = j
  · subst e; exact Nat.le_refl _
  · have := h i j h1 (by omega) h3
    rw [hlt] at this
    simp at this
    exact this
end
end Go.Proofs.YtehgpnnfjgmiiaaGreat
end
section
namespace Go.Proofs.YtehgpnnfjgmiiaaGreat
set_option maxRecDepth 100000
open Go.Shelf Go.RowKit Go.Lib Go.Sort
set_option maxRecDepth 1000000
set_option maxHeartbeats 4000000
section
variable {α : Type} [Inhabited α]
theorem symm_up (k : Nat) (aE : ∀ w, (isAgg 63).run Tryz.prog w = .ok true w) (zE : ∀ w, (Go.sizeOf 63).run Tryz.prog w = .ok k w) (enc : α → List Value) (cf : α → α → Int) (key : α → Nat) (hcf : ∀ x y, cf x y < 0 ↔ key x < key y) (g : Nat) (cb : Array Value) (blk off cap : Nat) (d0 : Array α) (w0 : World)
    (eg : ∀ args w, (callFunc g args).run Tryz.prog w = .ok (.enter g args) w) (hcmp : CmpLays Tryz.prog g cb enc k cf blk off d0.size w0) (R : RowK enc k w0 blk off d0)
    (a b : Nat) (d : Array α) (w : World) (hs : d.size = d0.size) (S : SWK enc k w0 blk off d w) (hmb : a + 1 < b) (hb : b ≤ d.size) (hsz : d.size < 4611686018427387904) (h2 : AscN key (a + 1) b d) :
    Calls Tryz.prog 135 #[.slice (some ⟨blk, off, none⟩) d.size cap, .int .i64 a, .int .i64 ((a : Int) + 1), .int .i64 b, .func (.func g) #[] cb] w fun e w' => e = .returned (.tuple #[]) ∧ ∃ d', Stb key a b d d' ∧ AscN key a b d' ∧ SWK enc k w0 blk off d' w' := by
  have mixed : Tryz.prog.follows Departure.mixedOrders = true := by kernel_rfl
  have HC : Aside (CmpLays Tryz.prog g cb enc k cf blk off d0.size w0) := hcmp
  have HCF : Aside (∀ x y, cf x y < 0 ↔ key x < key y) := hcf
  have HDS : Aside (d.size = d0.size) := hs
  have HSZ : Aside (d.size = d0.size) := hs
  have S9 : Aside (SWK enc k w0 blk off d w) := S
  clear S hs hcmp hcf
  have HA2 : Aside (AscN key (a + 1) b d) := h2
  have hq1 : (a : Int) + 1 - (a : Int) = 1 := by omega
  clear h2
  go_enter Tryz.func135, Tryz.ntmps135
  go_wp2
  go_loopg [10, 11] (b - (a + 1)) (fun kx s10 s11 wr => ∃ (i j : Nat), s10 = .int .i64 i ∧ s11 = .int .i64 j ∧ a + 1 ≤ i ∧ i ≤ j ∧ j ≤ b ∧ j - i ≤ kx ∧ (i = a + 1 ∨ key d[i - 1]! < key d[a]!) ∧ (j = b ∨ key d[a]! ≤ key d[j]!) ∧ Aside (SWK enc k w0 blk off d wr))
  case atStart => exact ⟨a + 1, b, by go_num, rfl, Nat.le_refl _, by omega, Nat.le_refl _, Nat.le_refl _, .inl rfl, .inl rfl, S9⟩
  case round =>
    clear S9
    obtain ⟨i, j, rfl, rfl, hai, hij, hjb, hkx, hlo, hhi, S1⟩ := hrel
    have HLO : Aside (i = a + 1 ∨ key d[i - 1]! < key d[a]!) := hlo
    have HHI : Aside (j = b ∨ key d[a]! ≤ key d[j]!) := hhi
    clear hlo hhi
    by_cases hlt : i < j
    · have hltz : (i : Int) < (j : Int) := by omega
      go_upto_region 5 with fail
      obtain ⟨h, hh⟩ : ∃ h : Nat, h = (i + j) / 2 := ⟨_, rfl⟩
      have he : ((i : Int) + (j : Int)) / 2 = (h : Int) := by omega
      have h1 : i ≤ h := by omega
      have h3 : h < j := by omega
      rw [he]
      clear he hh
      have ex : ((h : Int)).toNat = h := by omega
      have px : (0 : Int) ≤ (h : Int) := by omega
      have bdx : (h : Int) < (d.size : Int) := by omega
      have rx : IntKind.i64.wrap ((h : Int)) = (h : Int) := by rw [IntKind.wrap_i64]; omega
      have ey : ((a : Int)).toNat = a := by omega
      have py : (0 : Int) ≤ (a : Int) := by omega
      have bdy : (a : Int) < (d.size : Int) := by omega
      have ry : IntKind.i64.wrap ((a : Int)) = (a : Int) := by rw [IntKind.wrap_i64]; omega
      obtain ⟨x, hx⟩ : ∃ x, x = d[h]! := ⟨_, rfl⟩
      obtain ⟨y, hy⟩ : ∃ x, x = d[a]! := ⟨_, rfl⟩
      have lx := S1.out.ld R HDS.out Tryz.prog (h) (by omega)
      have ly := S1.out.ld R HDS.out Tryz.prog (a) (by omega)
      rw [← hx] at lx
      rw [← hy] at ly
      have hc := S1.out.cmp HC.out HSZ.out x y
      have hcf := HCF.out x y
      have HX : Aside (x = d[h]! ∧ y = d[a]!) := ⟨hx, hy⟩
      have S0 : Aside (∀ nq osq, SWK enc k w0 blk off d (grow (wr.drewN nq) osq)) := fun nq osq => S1.out.grown nq osq
      clear hx hy S1
      by_cases hv : cf x y < 0
      · have HV : Aside (key x < key y) := HCF.out x y |>.1 hv
        clear hcf
        go_wp2_with fail
        go_quiet_grown (first | (go_at_fn g; refine Calls.grown_of (hc _ _)))
        have S2 := S0.out nq osq
        clear lx ly hc S0
        generalize grow (wr.drewN nq) osq = w2 at S2 ⊢
        go_wp2
        go_roundg (j - (h + 1))
        case measure => omega
        case rel => exact ⟨h + 1, j, by go_num, rfl, by omega, by omega, by omega, Nat.le_refl _, .inr (by rw [Nat.add_sub_cancel, ← HX.out.1, ← HX.out.2]; exact HV.out), HHI.out, S2⟩
      · have HV : Aside (key y ≤ key x) := Nat.le_of_not_lt (fun q => hv ((HCF.out x y).2 q))
        clear hcf
        go_wp2_with fail
        go_quiet_grown (first | (go_at_fn g; refine Calls.grown_of (hc _ _)))
        have S2 := S0.out nq osq
        clear lx ly hc S0
        generalize grow (wr.drewN nq) osq = w2 at S2 ⊢
        go_wp2
        go_roundg (h - i)
        case measure => omega
        case rel => exact ⟨i, h, rfl, rfl, by omega, by omega, by omega, Nat.le_refl _, HLO.out, .inr (by rw [← HX.out.1, ← HX.out.2]; exact HV.out), S2⟩
    · obtain rfl : i = j := by omega
      have hltz : ¬ (i : Int) < (i : Int) := by omega
      have S9 : Aside (SWK enc k w0 blk off d wr) := S1
      clear S1 hkx
      go_wp2
      go_loopg [13] (i - 1 - a) (fun kx s13 wr => ∃ (q : Nat) (dk : Array α), s13 = .int .i64 q ∧ a ≤ q ∧ q ≤ i - 1 ∧ i - 1 - q ≤ kx ∧ RotIs d a (a + 1) (q + 1) dk ∧ Aside (SWK enc k w0 blk off dk wr))
      case atStart => exact ⟨a, d, rfl, Nat.le_refl _, by omega, Nat.le_refl _, RotIs.refl' d a (a + 1), S9⟩
      case round =>
        clear S9
        obtain ⟨q, dk, rfl, haq, hqi, hkx, hrot, S1⟩ := hrel
        have hdk : dk.size = d.size := hrot.size
        have HDK : Aside (dk.size = d0.size) := hdk.trans HDS.out
        by_cases hqlt : q < i - 1
        · have hqz : (q : Int) < (i : Int) - 1 := by omega
          have HROT : Aside (RotIs d a (a + 1) (q + 2) (swp dk q (q + 1))) := hrot.up haq (by omega)
          clear hrot
          have ea : ((q : Int)).toNat = q := by omega
          have pa : (0 : Int) ≤ (q : Int) := by omega
          have bda : (q : Int) < (d.size : Int) := by omega
          have ra : IntKind.i64.wrap ((q : Int)) = (q : Int) := by rw [IntKind.wrap_i64]; omega
          have ec : ((q : Int) + 1).toNat = q + 1 := by omega
          have pc : (0 : Int) ≤ (q : Int) + 1 := by omega
          have bdc : (q : Int) + 1 < (d.size : Int) := by omega
          have rc : IntKind.i64.wrap ((q : Int) + 1) = (q : Int) + 1 := by rw [IntKind.wrap_i64]; omega
          have S2 : Aside (SWK enc k w0 blk off (swp dk (q) (q + 1)) ((wr.drew.setCells blk (off + (q) * k) (enc dk[q + 1]!)).setCells blk (off + (q + 1) * k) (enc dk[q]!))) := S1.out.swapped R (q) (q + 1) (by omega) (by omega)
          have l44a := S1.out.ld1 R HDK.out Tryz.prog (q) (by omega)
          have l44b := S1.out.ld1 R HDK.out Tryz.prog (q + 1) (by omega)
          have s44a := S1.out.st1 R HDK.out Tryz.prog (q) (by omega) dk[q + 1]!
          have s44b := S1.out.st2 R HDK.out Tryz.prog (q) (q + 1) (by omega) (by omega) dk[q + 1]! dk[q]!
          have n44a : (enc dk[q]!).length = k := R.hk _
          have n44b : (enc dk[q + 1]!).length = k := R.hk _
          generalize enc dk[q]! = cI44 at S2 l44a s44b n44a
          generalize enc dk[q + 1]! = cJ44 at S2 l44b s44a s44b n44b
          clear S1
          go_wp2_with fail
          go_big_region_o
          clear l44a l44b s44a s44b
          generalize (wr.drew.setCells blk (off + (q) * k) cJ44).setCells blk (off + (q + 1) * k) cI44 = w2 at S2 ⊢
          go_wp2
          go_roundg (i - 1 - (q + 1))
          case measure => omega
          case rel => exact ⟨q + 1, _, by go_num, by omega, by omega, Nat.le_refl _, HROT.out, S2⟩
        · obtain rfl : q = i - 1 := by omega
          have hqz : ¬ ((i - 1 : Nat) : Int) < (i : Int) - 1 := by omega
          go_wp2
          refine bodyPost_ret (results_none rfl _ _ _) rfl ?_
          rw [show i - 1 + 1 = i by omega] at hrot
          obtain ⟨k1, k2⟩ := merge_up HA2.out hai hjb HLO.out HHI.out hrot
          exact ⟨rfl, dk, k1, k2, S1.out⟩
end
end Go.Proofs.YtehgpnnfjgmiiaaGreat
end
