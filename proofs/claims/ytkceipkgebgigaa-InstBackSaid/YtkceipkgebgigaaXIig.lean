/- Comparisons of numbers and of texts, cmp.Or, of the library, at this program. Conditions: at most 1,000,000 numbers. -/
import Derived.Test.YtkceipkgebgigaaXIic
import Derived.Lib.Bytealg
import Derived.Test.YtkceipkgebgigaaXJLcf
namespace Go.Proofs.Ytkceipkgebgigaa
open Go.Shelf Go.RowKit Go.Lib Go.Great
set_option maxRecDepth 100000
set_option maxHeartbeats 1000000
def cmpN (a b : Nat) : Int := if a < b then -1 else if b < a then 1 else 0
theorem run_loadBytes {P : Program} (w : World) (g : Nat) : ∀ (xs : List UInt8) (o : Nat) (acc : ByteArray), (∀ j u, xs[j]? = some u → w.cell? ⟨g, o + j, none⟩ = some (.int .u8 (u.toNat : Int))) → (Extern.Bytes.loadBytes ⟨g, o, none⟩ xs.length acc).run P w = .ok ⟨acc.data ++ xs.toArray⟩ w
  | [], o, acc, _ => by
    simp [Extern.Bytes.loadBytes]
  | x :: xs, o, acc, h => by
    have h0 := h 0 x rfl
    rw [Nat.add_zero] at h0
    have hl : (load ⟨g, o, none⟩).run P w = .ok (.int .u8 (x.toNat : Int)) w := by simp [h0]
    have ih := run_loadBytes (P := P) w g xs (o + 1) (acc.push x) (fun j u hu => by
      have := h (j + 1) u (by simpa using hu)
      rwa [Nat.add_assoc, Nat.add_comm 1 j])
    rw [List.length_cons]
    unfold Extern.Bytes.loadBytes
    have e1 : (⟨g, o, none⟩ : Addr).add 1 = ⟨g, o + 1, none⟩ := rfl
    simp only [Sem.run_bind, hl, Result.andThen_ok]
    have e2 : ((x.toNat : Int).toNat.toUInt8) = x := by simp
    rw [e2, e1, ih]
    congr 1
    simp [ByteArray.push]
theorem run_bytesOf {P : Program} {w : World} {B c : Nat} {A : Option Addr} {xs : List UInt8} (h : BAt w B A xs) : (Extern.Bytes.bytesOf (.slice A xs.length c)).run P w = .ok (bstr xs) w := by
  rcases h with rfl | ⟨g, off, rfl, _, hc⟩
  · cases A with
    | none => simp [Extern.Bytes.bytesOf, bstr]; rfl
    | some a => simp [Extern.Bytes.bytesOf, Extern.Bytes.loadBytes, bstr]; rfl
  · have := run_loadBytes (P := P) w g xs off ByteArray.empty (fun j u hu => by
      obtain ⟨hj, rfl⟩ := List.getElem?_eq_some_iff.1 hu
      exact hc j hj)
    unfold Extern.Bytes.bytesOf
    rw [this]
    congr 1
    simp [bstr]
theorem run_compareSlices {P : Program} {w : World} {B B' c c' : Nat} {A A' : Option Addr} {xs ys : List UInt8} (h : BAt w B A xs) (h' : BAt w B' A' ys) :
    (Extern.BytealgCompare.compare #[.slice A xs.length c, .slice A' ys.length c']).run P w = .ok (.int .i64 (compareBytes xs ys)) w := by
  change Sem.run P (do pure (goInt (Extern.BytealgCompare.cmp (← Extern.Bytes.bytesOf (.slice A xs.length c)) (← Extern.Bytes.bytesOf (.slice A' ys.length c'))))) w = _
  simp only [Sem.run_bind, run_bytesOf h, run_bytesOf h', Sem.run_pure, Result.andThen]
  rw [Lib.cmp_eq]
  simp [bstr, goInt]
theorem bcmp_any (A A' : Option Addr) (c c' n n' : Nat) (xs ys : List UInt8) (w : World) (hn : xs.length = n) (hn' : ys.length = n') (h : BAt w w.heap.size A xs) (h' : BAt w w.heap.size A' ys) :
    Calls Try.prog 60 #[.slice A n c, .slice A' n' c'] w fun e w' => e = .returned (.int .i64 (compareBytes xs ys)) ∧ w' = w := by
  have hr := run_compareSlices (P := Try.prog) (c := c) (c' := c') h h'
  rw [hn, hn'] at hr
  clear h h'
  generalize compareBytes xs ys = k at *
  go_enter Try.func60, Try.ntmps60
  go_wp2
  rw [run_callFunc_extern Try.func93 (by kernel_rfl) (by kernel_rfl) (by kernel_rfl) (e := Extern.BytealgCompare.compare) (by kernel_rfl), hr]
  simp only [Result.andThen]
  rw [Oper.upon_value]
  go_wp2
  go_ret
  exact ⟨rfl, rfl⟩
theorem scmpS_any (a b : ByteArray) (w : World) : Calls Try.prog 95 #[.string a, .string b] w fun e w' => e = .returned (.int .i64 (compareBytes a.data.toList b.data.toList)) ∧ w' = w := by
  have hr := run_compareString (P := Try.prog) a b w
  generalize compareBytes a.data.toList b.data.toList = k at *
  go_enter Try.func95, Try.ntmps95
  go_wp2
  rw [run_callFunc_extern Try.func111 (by kernel_rfl) (by kernel_rfl) (by kernel_rfl) (e := Extern.BytealgCompare.compare) (by kernel_rfl), hr]
  simp only [Result.andThen]
  rw [Oper.upon_value]
  go_wp2
  go_ret
  exact ⟨rfl, rfl⟩
theorem scmp_any (a b : List UInt8) (w : World) : Calls Try.prog 62 #[.string (bstr a), .string (bstr b)] w fun e w' => e = .returned (.int .i64 (compareBytes a b)) ∧ w' = w := by
  have HC := Lib.hid (scmpS_any (bstr a) (bstr b))
  rw [show (bstr a).data.toList = a by simp [bstr], show (bstr b).data.toList = b by simp [bstr]] at HC
  generalize compareBytes a b = k at *
  generalize bstr a = x at *
  generalize bstr b = y at *
  go_enter Try.func62, Try.ntmps62
  go_wp2_with (go_at_call 95; (with_reducible refine (HC.out _).mono ?_); rintro e w1 ⟨rfl, rfl⟩)
  go_ret
  exact ⟨rfl, rfl⟩
theorem nan64 (a : Int) (w : World) : Calls Try.prog 91 #[.int .u64 a] w fun e w' => e = .returned (.bool false) ∧ w' = w := by
  go_enter Try.func91, Try.ntmps91
  go_wp2
  go_ret
  exact ⟨by simp, rfl⟩
theorem nan32 (a : Int) (w : World) : Calls Try.prog 92 #[.int .u32 a] w fun e w' => e = .returned (.bool false) ∧ w' = w := by
  go_enter Try.func92, Try.ntmps92
  go_wp2
  go_ret
  exact ⟨by simp, rfl⟩
theorem nan16 (a : Int) (w : World) : Calls Try.prog 94 #[.int .u16 a] w fun e w' => e = .returned (.bool false) ∧ w' = w := by
  go_enter Try.func94, Try.ntmps94
  go_wp2
  go_ret
  exact ⟨by simp, rfl⟩
theorem cmp64 (a b : Nat) (w : World) : Calls Try.prog 58 #[.int .u64 (a : Int), .int .u64 (b : Int)] w fun e w' => e = .returned (.int .i64 (cmpN a b)) ∧ w' = w := by
  have HC := Lib.hid nan64
  by_cases h1 : a < b
  · have h : (a : Int) < (b : Int) := by omega
    rw [show cmpN a b = -1 by unfold cmpN; rw [if_pos h1]]
    go_enter Try.func58, Try.ntmps58
    go_wp2_with (go_at_call 91; (with_reducible refine (HC.out _ _).mono ?_); rintro e w1 ⟨rfl, rfl⟩)
    go_ret
    exact ⟨rfl, rfl⟩
  · have h : ¬ (a : Int) < (b : Int) := by omega
    by_cases h2 : b < a
    · have h3 : (b : Int) < (a : Int) := by omega
      rw [show cmpN a b = 1 by unfold cmpN; rw [if_neg h1, if_pos h2]]
      go_enter Try.func58, Try.ntmps58
      go_wp2_with (go_at_call 91; (with_reducible refine (HC.out _ _).mono ?_); rintro e w1 ⟨rfl, rfl⟩)
      go_ret
      exact ⟨rfl, rfl⟩
    · have h3 : ¬ (b : Int) < (a : Int) := by omega
      rw [show cmpN a b = 0 by unfold cmpN; rw [if_neg h1, if_neg h2]]
      go_enter Try.func58, Try.ntmps58
      go_wp2_with (go_at_call 91; (with_reducible refine (HC.out _ _).mono ?_); rintro e w1 ⟨rfl, rfl⟩)
      go_ret
      exact ⟨rfl, rfl⟩
theorem cmp32 (a b : Nat) (w : World) : Calls Try.prog 59 #[.int .u32 (a : Int), .int .u32 (b : Int)] w fun e w' => e = .returned (.int .i64 (cmpN a b)) ∧ w' = w := by
  have HC := Lib.hid nan32
  by_cases h1 : a < b
  · have h : (a : Int) < (b : Int) := by omega
    rw [show cmpN a b = -1 by unfold cmpN; rw [if_pos h1]]
    go_enter Try.func59, Try.ntmps59
    go_wp2_with (go_at_call 92; (with_reducible refine (HC.out _ _).mono ?_); rintro e w1 ⟨rfl, rfl⟩)
    go_ret
    exact ⟨rfl, rfl⟩
  · have h : ¬ (a : Int) < (b : Int) := by omega
    by_cases h2 : b < a
    · have h3 : (b : Int) < (a : Int) := by omega
      rw [show cmpN a b = 1 by unfold cmpN; rw [if_neg h1, if_pos h2]]
      go_enter Try.func59, Try.ntmps59
      go_wp2_with (go_at_call 92; (with_reducible refine (HC.out _ _).mono ?_); rintro e w1 ⟨rfl, rfl⟩)
      go_ret
      exact ⟨rfl, rfl⟩
    · have h3 : ¬ (b : Int) < (a : Int) := by omega
      rw [show cmpN a b = 0 by unfold cmpN; rw [if_neg h1, if_neg h2]]
      go_enter Try.func59, Try.ntmps59
      go_wp2_with (go_at_call 92; (with_reducible refine (HC.out _ _).mono ?_); rintro e w1 ⟨rfl, rfl⟩)
      go_ret
      exact ⟨rfl, rfl⟩
theorem cmp16 (a b : Nat) (w : World) : Calls Try.prog 61 #[.int .u16 (a : Int), .int .u16 (b : Int)] w fun e w' => e = .returned (.int .i64 (cmpN a b)) ∧ w' = w := by
  have HC := Lib.hid nan16
  by_cases h1 : a < b
  · have h : (a : Int) < (b : Int) := by omega
    rw [show cmpN a b = -1 by unfold cmpN; rw [if_pos h1]]
    go_enter Try.func61, Try.ntmps61
    go_wp2_with (go_at_call 94; (with_reducible refine (HC.out _ _).mono ?_); rintro e w1 ⟨rfl, rfl⟩)
    go_ret
    exact ⟨rfl, rfl⟩
  · have h : ¬ (a : Int) < (b : Int) := by omega
    by_cases h2 : b < a
    · have h3 : (b : Int) < (a : Int) := by omega
      rw [show cmpN a b = 1 by unfold cmpN; rw [if_neg h1, if_pos h2]]
      go_enter Try.func61, Try.ntmps61
      go_wp2_with (go_at_call 94; (with_reducible refine (HC.out _ _).mono ?_); rintro e w1 ⟨rfl, rfl⟩)
      go_ret
      exact ⟨rfl, rfl⟩
    · have h3 : ¬ (b : Int) < (a : Int) := by omega
      rw [show cmpN a b = 0 by unfold cmpN; rw [if_neg h1, if_neg h2]]
      go_enter Try.func61, Try.ntmps61
      go_wp2_with (go_at_call 94; (with_reducible refine (HC.out _ _).mono ?_); rintro e w1 ⟨rfl, rfl⟩)
      go_ret
      exact ⟨rfl, rfl⟩
/-- The first number that isn't 0, or 0. -/
def firstZ : List Int → Int
  | [] => 0
  | x :: r => if x = 0 then firstZ r else x
theorem firstZ_skip : ∀ (L : List Int) (k : Nat), (∀ j, j < k → L[j]! = 0) → firstZ L = firstZ (L.drop k)
  | L, 0, _ => rfl
  | [], k + 1, _ => by simp
  | x :: L, k + 1, h => by
    have h0 := h 0 (by omega)
    simp only [List.getElem!_cons_zero] at h0
    subst h0
    rw [List.drop_succ_cons, firstZ, if_pos rfl]
    exact firstZ_skip L k (fun j hj => by have := h (j + 1) (by omega); simpa using this)
def OrR (L : List Int) (w : World) (i : Value) (wr : World) : Prop := ∃ k : Nat, i = .int .i64 (k : Int) ∧ k ≤ L.length ∧ (∀ j, j < k → L[j]! = 0) ∧ wr = w
theorem or_any (L : List Int) (g c : Nat) (hl : L.length ≤ 1000000) (w : World) (hc : ∀ j, j < L.length → w.cell? ⟨g, j, none⟩ = some (.int .i64 L[j]!)) : Calls Try.prog 57 #[.slice (some ⟨g, 0, none⟩) L.length c] w fun e w' => e = .returned (.int .i64 (firstZ L)) ∧ w' = w := by
  obtain ⟨l, hll⟩ : ∃ l, l = L.length := ⟨_, rfl⟩
  have HL := Lib.hid hll
  have HC := Lib.hid hc
  have R0 : Hid (OrR L w (.int .i64 0) w) := Lib.hid ⟨0, rfl, by omega, fun j h1 => absurd h1 (by omega), rfl⟩
  rw [← hll] at hl ⊢
  clear hll hc
  obtain ⟨r, hr⟩ : ∃ r, r = firstZ L := ⟨_, rfl⟩
  have HR := Lib.hid hr
  rw [← hr]
  clear hr
  go_enter Try.func57, Try.ntmps57
  go_upto_region 3 with fail
  go_loopw [8] (OrR L w) (fun i _ => l - (RowKit.intOf i).toNat)
  case atStart => exact R0.out
  case round =>
    obtain ⟨k, rfl, hk, hF, rfl⟩ := hrel
    rw [← HL.out] at hk
    clear R0
    have HF := Lib.hid hF
    clear hF
    by_cases hlt : k < l
    · have hlt' : (k : Int) < (l : Int) := by omega
      have hcell := HC.out k (by rw [← HL.out]; omega)
      by_cases hz : L[k]! = 0
      · have HNX : Hid (OrR L wr (.int .i64 ((k : Int) + 1)) wr) := Lib.hid ⟨k + 1, by simp, by rw [← HL.out]; omega, fun j h2 => by
          by_cases e : j = k
          · subst e; exact hz
          · exact HF.out j (by omega), rfl⟩
        rw [hz] at hcell
        clear HF HC hz
        go_wp2
        go_roundw
        case rel => exact HNX.out
        case measure => simp [RowKit.intOf]; omega
      · have HRT : Hid (L[k]! = r) := Lib.hid (by
          rw [HR.out, firstZ_skip L k HF.out]
          have hkl : k < L.length := by rw [← HL.out]; exact hlt
          rw [List.drop_eq_getElem_cons hkl, firstZ, if_neg (by rw [getElem!_pos L k hkl] at hz; exact hz), getElem!_pos L k hkl])
        generalize L[k]! = x at *
        have hz2 : (x == 0) = false := by rw [beq_eq_false_iff_ne]; exact hz
        clear HF HC HR
        go_wp2
        go_ret
        exact ⟨by rw [HRT.out]; rfl, rfl⟩
    · have hlt' : ¬ (k : Int) < (l : Int) := by omega
      have HRT : Hid (r = 0) := Lib.hid (by
        rw [HR.out, firstZ_skip L k HF.out, List.drop_of_length_le (by rw [← HL.out]; omega)]
        rfl)
      clear HF HC HR
      go_wp2
      go_ret
      exact ⟨by rw [HRT.out]; rfl, rfl⟩
end Go.Proofs.Ytkceipkgebgigaa
