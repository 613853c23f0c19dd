/- Comparisons of numbers and of texts, cmp.Or, of the library, at this program. Conditions: at most 1,000,000 numbers. Cmp of the program. No condition. End, Alive, Left, Over, cmp, bit, bytes, Good of the reference. Conditions: targets of at most 100,000 bytes. -/
import Derived.Test.YtkceipkgebgigaaGreatProg
import Derived.Test.YtkceipkgebgigaaGreatXJLla
import Derived.Lib.Bytealg
import Derived.Test.YtkceipkgebgigaaGreatXJLci
import Derived.StillTailTactics
import Derived.Great.BuildSlice
section
namespace Go.Proofs.YtkceipkgebgigaaGreat
open Go.Shelf Go.RowKit Go.Lib Go.Great
set_option maxRecDepth 100000
set_option maxHeartbeats 1000000
def cmpN (a b : Nat) : Int := if a < b then -1 else if b < a then 1 else 0
theorem run_loadBytes {P : Program} (w : World) (g : Nat) : ∀ (xs : List UInt8) (o : Nat) (acc : ByteArray), (∀ j u, xs[j]? = some u → w.cell? ⟨g, o + j, none⟩ = some (.int .u8 (u.toNat : Int))) → (Extern.Bytes.loadBytes ⟨g, o, none⟩ xs.length acc).run P w = .ok ⟨acc.data ++ xs.toArray⟩ w
  | [], o, acc, _ => by
    simp [Extern.Bytes.loadBytes]
  | x :: xs, o, acc, h => by
    have h0 := h 0 x rfl
    rw [Nat.add_zero] at h0
    have hl : (load ⟨g, o, none⟩).run P w = .ok (.int .u8 (x.toNat : Int)) w := by simp [h0]
    have ih := run_loadBytes (P := P) w g xs (o + 1) (acc.push x) (fun j u hu => by
      have := h (j + 1) u (by simpa using hu)
      rwa [Nat.add_assoc, Nat.add_comm 1 j])
    rw [List.length_cons]
    unfold Extern.Bytes.loadBytes
    have e1 : (⟨g, o, none⟩ : Addr).add 1 = ⟨g, o + 1, none⟩ := rfl
    simp only [Sem.run_bind, hl, Result.andThen_ok]
    have e2 : ((x.toNat : Int).toNat.toUInt8) = x := by simp
    rw [e2, e1, ih]
    congr 1
    simp [ByteArray.push]
theorem run_bytesOf {P : Program} {w : World} {B c : Nat} {A : Option Addr} {xs : List UInt8} (h : BAt w B A xs) : (Extern.Bytes.bytesOf (.slice A xs.length c)).run P w = .ok (bstr xs) w := by
  rcases h with rfl | ⟨g, off, rfl, _, hc⟩
  · cases A with
    | none => simp [Extern.Bytes.bytesOf, bstr]; rfl
    | some a => simp [Extern.Bytes.bytesOf, Extern.Bytes.loadBytes, bstr]; rfl
  · have := run_loadBytes (P := P) w g xs off ByteArray.empty (fun j u hu => by
      obtain ⟨hj, rfl⟩ := List.getElem?_eq_some_iff.1 hu
      exact hc j hj)
    unfold Extern.Bytes.bytesOf
    rw [this]
    congr 1
    simp [bstr]
theorem run_compareSlices {P : Program} {w : World} {B B' c c' : Nat} {A A' : Option Addr} {xs ys : List UInt8} (h : BAt w B A xs) (h' : BAt w B' A' ys) :
    (Extern.BytealgCompare.compare #[.slice A xs.length c, .slice A' ys.length c']).run P w = .ok (.int .i64 (compareBytes xs ys)) w := by
  change Sem.run P (do pure (goInt (Extern.BytealgCompare.cmp (← Extern.Bytes.bytesOf (.slice A xs.length c)) (← Extern.Bytes.bytesOf (.slice A' ys.length c'))))) w = _
  simp only [Sem.run_bind, run_bytesOf h, run_bytesOf h', Sem.run_pure, Result.andThen]
  rw [Lib.cmp_eq]
  simp [bstr, goInt]
theorem bcmp_any (A A' : Option Addr) (c c' n n' : Nat) (xs ys : List UInt8) (w : World) (hn : xs.length = n) (hn' : ys.length = n') (h : BAt w w.heap.size A xs) (h' : BAt w w.heap.size A' ys) :
    Calls Tryz.prog 49 #[.slice A n c, .slice A' n' c'] w fun e w' => e = .returned (.int .i64 (compareBytes xs ys)) ∧ w' = w := by
  have hr := run_compareSlices (P := Tryz.prog) (c := c) (c' := c') h h'
  rw [hn, hn'] at hr
  clear h h'
  generalize compareBytes xs ys = k at *
  go_enter Tryz.func49, Tryz.ntmps49
  go_wp2
  rw [run_callFunc_extern Tryz.func77 (by kernel_rfl) (by kernel_rfl) (by kernel_rfl) (e := Extern.BytealgCompare.compare) (by kernel_rfl), hr]
  simp only [Result.andThen]
  rw [Oper.upon_value]
  go_wp2
  go_ret
  exact ⟨rfl, rfl⟩
theorem scmpS_any (a b : ByteArray) (w : World) : Calls Tryz.prog 83 #[.string a, .string b] w fun e w' => e = .returned (.int .i64 (compareBytes a.data.toList b.data.toList)) ∧ w' = w := by
  have hr := run_compareString (P := Tryz.prog) a b w
  generalize compareBytes a.data.toList b.data.toList = k at *
  go_enter Tryz.func83, Tryz.ntmps83
  go_wp2
  rw [run_callFunc_extern Tryz.func90 (by kernel_rfl) (by kernel_rfl) (by kernel_rfl) (e := Extern.BytealgCompare.compare) (by kernel_rfl), hr]
  simp only [Result.andThen]
  rw [Oper.upon_value]
  go_wp2
  go_ret
  exact ⟨rfl, rfl⟩
theorem scmp_any (a b : List UInt8) (w : World) : Calls Tryz.prog 59 #[.string (bstr a), .string (bstr b)] w fun e w' => e = .returned (.int .i64 (compareBytes a b)) ∧ w' = w := by
  have HC := Lib.hid (scmpS_any (bstr a) (bstr b))
  rw [show (bstr a).data.toList = a by simp [bstr], show (bstr b).data.toList = b by simp [bstr]] at HC
  generalize compareBytes a b = k at *
  generalize bstr a = x at *
  generalize bstr b = y at *
  go_enter Tryz.func59, Tryz.ntmps59
  go_wp2_with (go_at_call 83; (with_reducible refine (HC.out _).mono ?_); rintro e w1 ⟨rfl, rfl⟩)
  go_ret
  exact ⟨rfl, rfl⟩
theorem nan64 (a : Int) (w : World) : Calls Tryz.prog 80 #[.int .u64 a] w fun e w' => e = .returned (.bool false) ∧ w' = w := by
  go_enter Tryz.func80, Tryz.ntmps80
  go_wp2
  go_ret
  exact ⟨by simp, rfl⟩
theorem nan32 (a : Int) (w : World) : Calls Tryz.prog 81 #[.int .u32 a] w fun e w' => e = .returned (.bool false) ∧ w' = w := by
  go_enter Tryz.func81, Tryz.ntmps81
  go_wp2
  go_ret
  exact ⟨by simp, rfl⟩
theorem nan16 (a : Int) (w : World) : Calls Tryz.prog 82 #[.int .u16 a] w fun e w' => e = .returned (.bool false) ∧ w' = w := by
  go_enter Tryz.func82, Tryz.ntmps82
  go_wp2
  go_ret
  exact ⟨by simp, rfl⟩
theorem cmp64 (a b : Nat) (w : World) : Calls Tryz.prog 55 #[.int .u64 (a : Int), .int .u64 (b : Int)] w fun e w' => e = .returned (.int .i64 (cmpN a b)) ∧ w' = w := by
  have HC := Lib.hid nan64
  by_cases h1 : a < b
  · have h : (a : Int) < (b : Int) := by omega
    rw [show cmpN a b = -1 by unfold cmpN; rw [if_pos h1]]
    go_enter Tryz.func55, Tryz.ntmps55
    go_wp2_with (go_at_call 80; (with_reducible refine (HC.out _ _).mono ?_); rintro e w1 ⟨rfl, rfl⟩)
    go_ret
    exact ⟨rfl, rfl⟩
  · have h : ¬ (a : Int) < (b : Int) := by omega
    by_cases h2 : b < a
    · have h3 : (b : Int) < (a : Int) := by omega
      rw [show cmpN a b = 1 by unfold cmpN; rw [if_neg h1, if_pos h2]]
      go_enter Tryz.func55, Tryz.ntmps55
      go_wp2_with (go_at_call 80; (with_reducible refine (HC.out _ _).mono ?_); rintro e w1 ⟨rfl, rfl⟩)
      go_ret
      exact ⟨rfl, rfl⟩
    · have h3 : ¬ (b : Int) < (a : Int) := by omega
      rw [show cmpN a b = 0 by unfold cmpN; rw [if_neg h1, if_neg h2]]
      go_enter Tryz.func55, Tryz.ntmps55
      go_wp2_with (go_at_call 80; (with_reducible refine (HC.out _ _).mono ?_); rintro e w1 ⟨rfl, rfl⟩)
      go_ret
      exact ⟨rfl, rfl⟩
theorem cmp32 (a b : Nat) (w : World) : Calls Tryz.prog 57 #[.int .u32 (a : Int), .int .u32 (b : Int)] w fun e w' => e = .returned (.int .i64 (cmpN a b)) ∧ w' = w := by
  have HC := Lib.hid nan32
  by_cases h1 : a < b
  · have h : (a : Int) < (b : Int) := by omega
    rw [show cmpN a b = -1 by unfold cmpN; rw [if_pos h1]]
    go_enter Tryz.func57, Tryz.ntmps57
    go_wp2_with (go_at_call 81; (with_reducible refine (HC.out _ _).mono ?_); rintro e w1 ⟨rfl, rfl⟩)
    go_ret
    exact ⟨rfl, rfl⟩
  · have h : ¬ (a : Int) < (b : Int) := by omega
    by_cases h2 : b < a
    · have h3 : (b : Int) < (a : Int) := by omega
      rw [show cmpN a b = 1 by unfold cmpN; rw [if_neg h1, if_pos h2]]
      go_enter Tryz.func57, Tryz.ntmps57
      go_wp2_with (go_at_call 81; (with_reducible refine (HC.out _ _).mono ?_); rintro e w1 ⟨rfl, rfl⟩)
      go_ret
      exact ⟨rfl, rfl⟩
    · have h3 : ¬ (b : Int) < (a : Int) := by omega
      rw [show cmpN a b = 0 by unfold cmpN; rw [if_neg h1, if_neg h2]]
      go_enter Tryz.func57, Tryz.ntmps57
      go_wp2_with (go_at_call 81; (with_reducible refine (HC.out _ _).mono ?_); rintro e w1 ⟨rfl, rfl⟩)
      go_ret
      exact ⟨rfl, rfl⟩
theorem cmp16 (a b : Nat) (w : World) : Calls Tryz.prog 58 #[.int .u16 (a : Int), .int .u16 (b : Int)] w fun e w' => e = .returned (.int .i64 (cmpN a b)) ∧ w' = w := by
  have HC := Lib.hid nan16
  by_cases h1 : a < b
  · have h : (a : Int) < (b : Int) := by omega
    rw [show cmpN a b = -1 by unfold cmpN; rw [if_pos h1]]
    go_enter Tryz.func58, Tryz.ntmps58
    go_wp2_with (go_at_call 82; (with_reducible refine (HC.out _ _).mono ?_); rintro e w1 ⟨rfl, rfl⟩)
    go_ret
    exact ⟨rfl, rfl⟩
  · have h : ¬ (a : Int) < (b : Int) := by omega
    by_cases h2 : b < a
    · have h3 : (b : Int) < (a : Int) := by omega
      rw [show cmpN a b = 1 by unfold cmpN; rw [if_neg h1, if_pos h2]]
      go_enter Tryz.func58, Tryz.ntmps58
      go_wp2_with (go_at_call 82; (with_reducible refine (HC.out _ _).mono ?_); rintro e w1 ⟨rfl, rfl⟩)
      go_ret
      exact ⟨rfl, rfl⟩
    · have h3 : ¬ (b : Int) < (a : Int) := by omega
      rw [show cmpN a b = 0 by unfold cmpN; rw [if_neg h1, if_neg h2]]
      go_enter Tryz.func58, Tryz.ntmps58
      go_wp2_with (go_at_call 82; (with_reducible refine (HC.out _ _).mono ?_); rintro e w1 ⟨rfl, rfl⟩)
      go_ret
      exact ⟨rfl, rfl⟩
/-- The first number that isn't 0, or 0. -/
def firstZ : List Int → Int
  | [] => 0
  | x :: r => if x = 0 then firstZ r else x
theorem firstZ_skip : ∀ (L : List Int) (k : Nat), (∀ j, j < k → L[j]! = 0) → firstZ L = firstZ (L.drop k)
  | L, 0, _ => rfl
  | [], k + 1, _ => by simp
  | x :: L, k + 1, h => by
    have h0 := h 0 (by omega)
    simp only [List.getElem!_cons_zero] at h0
    subst h0
    rw [List.drop_succ_cons, firstZ, if_pos rfl]
    exact firstZ_skip L k (fun j hj => by have := h (j + 1) (by omega); simpa using this)
def OrR (L : List Int) (w : World) (i : Value) (wr : World) : Prop := ∃ k : Nat, i = .int .i64 (k : Int) ∧ k ≤ L.length ∧ (∀ j, j < k → L[j]! = 0) ∧ wr = w
theorem or_any (L : List Int) (g c : Nat) (hl : L.length ≤ 1000000) (w : World) (hc : ∀ j, j < L.length → w.cell? ⟨g, j, none⟩ = some (.int .i64 L[j]!)) : Calls Tryz.prog 54 #[.slice (some ⟨g, 0, none⟩) L.length c] w fun e w' => e = .returned (.int .i64 (firstZ L)) ∧ w' = w := by
  obtain ⟨l, hll⟩ : ∃ l, l = L.length := ⟨_, rfl⟩
  have HL := Lib.hid hll
  have HC := Lib.hid hc
  have R0 : Hid (OrR L w (.int .i64 0) w) := Lib.hid ⟨0, rfl, by omega, fun j h1 => absurd h1 (by omega), rfl⟩
  rw [← hll] at hl ⊢
  clear hll hc
  obtain ⟨r, hr⟩ : ∃ r, r = firstZ L := ⟨_, rfl⟩
  have HR := Lib.hid hr
  rw [← hr]
  clear hr
  go_enter Tryz.func54, Tryz.ntmps54
  go_upto_region 3 with fail
  go_loopw [8] (OrR L w) (fun i _ => l - (RowKit.intOf i).toNat)
  case atStart => exact R0.out
  case round =>
    obtain ⟨k, rfl, hk, hF, rfl⟩ := hrel
    rw [← HL.out] at hk
    clear R0
    have HF := Lib.hid hF
    clear hF
    by_cases hlt : k < l
    · have hlt' : (k : Int) < (l : Int) := by omega
      have hcell := HC.out k (by rw [← HL.out]; omega)
      by_cases hz : L[k]! = 0
      · have HNX : Hid (OrR L wr (.int .i64 ((k : Int) + 1)) wr) := Lib.hid ⟨k + 1, by simp, by rw [← HL.out]; omega, fun j h2 => by
          by_cases e : j = k
          · subst e; exact hz
          · exact HF.out j (by omega), rfl⟩
        rw [hz] at hcell
        clear HF HC hz
        go_wp2
        go_roundw
        case rel => exact HNX.out
        case measure => simp [RowKit.intOf]; omega
      · have HRT : Hid (L[k]! = r) := Lib.hid (by
          rw [HR.out, firstZ_skip L k HF.out]
          have hkl : k < L.length := by rw [← HL.out]; exact hlt
          rw [List.drop_eq_getElem_cons hkl, firstZ, if_neg (by rw [getElem!_pos L k hkl] at hz; exact hz), getElem!_pos L k hkl])
        generalize L[k]! = x at *
        have hz2 : (x == 0) = false := by rw [beq_eq_false_iff_ne]; exact hz
        clear HF HC HR
        go_wp2
        go_ret
        exact ⟨by rw [HRT.out]; rfl, rfl⟩
    · have hlt' : ¬ (k : Int) < (l : Int) := by omega
      have HRT : Hid (r = 0) := Lib.hid (by
        rw [HR.out, firstZ_skip L k HF.out, List.drop_of_length_le (by rw [← HL.out]; omega)]
        rfl)
      clear HF HC HR
      go_wp2
      go_ret
      exact ⟨by rw [HRT.out]; rfl, rfl⟩
end Go.Proofs.YtkceipkgebgigaaGreat
end
section
namespace Go.Proofs.YtkceipkgebgigaaGreat
open Go.Shelf Go.RowKit Go.Lib Go.Great
set_option maxRecDepth 100000
set_option maxHeartbeats 2000000
theorem region_tail {P : Program} {id : Nat} {Q : Exit → Act → World → Prop} {a : Act} {w : World} {l : List Oper} (n : Nat) (W1 : World) (hW : W1 = { w with drawn := w.drawn + 1 }) (hm : P.follows .mixedOrders = true) (hB : Region.lexTailB .any l.toArray n = true)
    (h : wpStill P l.toArray W1 (fun a' => wpList P l.toArray Q (l.drop n) a' W1) (l.take n) a) : (Code.region id l.toArray true).wp P Q a w := by
  subst hW
  exact wp_region_still_tail n hm hB h
/-- What decides, in its order. -/
def listI (x y : Ins) : List Int := [cmpN x.seq y.seq, cmpN (flagN x.gone) (flagN y.gone), cmpN x.born y.born, cmpN x.life y.life, compareBytes x.pub y.pub, cmpN x.pri y.pri, cmpN x.wei y.wei, cmpN x.port y.port, compareBytes x.tgt y.tgt]
/-- Which one is newer. -/
def cmpI (x y : Ins) : Int := firstZ (listI x y)
theorem compareBytes_self : ∀ l : List UInt8, compareBytes l l = 0
  | [] => rfl
  | a :: l => by
    have : ¬ a < a := UInt8.lt_irrefl a
    simp only [compareBytes, this, if_false]
    exact compareBytes_self l
theorem cmpN_self (a : Nat) : cmpN a a = 0 := by simp [cmpN]
theorem cmpI_self (x : Ins) : cmpI x x = 0 := by
  unfold cmpI listI
  simp only [cmpN_self, compareBytes_self, firstZ, if_true]
/-- Nine numbers in a slice of their own. -/
theorem run_build9 (a b c d e f g h i : Int) (w : World) : (Instr.buildSlice 77 9 #[(0, .int .i64 a), (1, .int .i64 b), (2, .int .i64 c), (3, .int .i64 d), (4, .int .i64 e), (5, .int .i64 f), (6, .int .i64 g), (7, .int .i64 h), (8, .int .i64 i)]).run Tryz.prog w = .ok (.slice (some ⟨w.heap.size, 0, none⟩) 9 9) (w.alloc (.cells #[.int .i64 a, .int .i64 b, .int .i64 c, .int .i64 d, .int .i64 e, .int .i64 f, .int .i64 g, .int .i64 h, .int .i64 i] 3)) := by kernel_rfl
theorem or9 (L : List Int) (hl : L.length = 9) (w : World) (g : Nat) (hg : w.heap[g]? = some (.cells #[.int .i64 L[0]!, .int .i64 L[1]!, .int .i64 L[2]!, .int .i64 L[3]!, .int .i64 L[4]!, .int .i64 L[5]!, .int .i64 L[6]!, .int .i64 L[7]!, .int .i64 L[8]!] 3 (0, 0))) :
    Calls Tryz.prog 54 #[.slice (some ⟨g, 0, none⟩) 9 9] w fun e w' => e = .returned (.int .i64 (firstZ L)) ∧ w' = w := by
  have := or_any L g 9 (by omega) w (fun j hj => by
    rw [cell_of_row w g j _ 3 (0, 0) hg]
    have : j = 0 ∨ j = 1 ∨ j = 2 ∨ j = 3 ∨ j = 4 ∨ j = 5 ∨ j = 6 ∨ j = 7 ∨ j = 8 := by omega
    rcases this with rfl | rfl | rfl | rfl | rfl | rfl | rfl | rfl | rfl <;> rfl)
  rwa [hl] at this
theorem wpList_bslice9 {w : World} {ops : Array Oper} {rest : List Oper} {o : Oper} {a : Act} {Q : Exit → Act → World → Prop} (hg : o.guard = none) (ps : Array (Nat × Operand)) (ho : o.op = .buildSlice 77 9 ps) (a1 a2 a3 a4 a5 a6 a7 a8 a9 : Int)
    (hv : (ps.map fun (i, x) => (i, a.eval x)) = #[(0, .int .i64 a1), (1, .int .i64 a2), (2, .int .i64 a3), (3, .int .i64 a4), (4, .int .i64 a5), (5, .int .i64 a6), (6, .int .i64 a7), (7, .int .i64 a8), (8, .int .i64 a9)])
    (h : wpList Tryz.prog ops Q rest (a.put o.dst (.slice (some ⟨w.heap.size, 0, none⟩) 9 9)) (w.alloc (.cells #[.int .i64 a1, .int .i64 a2, .int .i64 a3, .int .i64 a4, .int .i64 a5, .int .i64 a6, .int .i64 a7, .int .i64 a8, .int .i64 a9] 3))) : wpList Tryz.prog ops Q (o :: rest) a w :=
  wpList_plain hg fun _ hK => by
    have hr := run_build9 a1 a2 a3 a4 a5 a6 a7 a8 a9 w
    unfold Oper.wp execOp
    simp only [ho, hv, Sem.run_bind, hr, Result.andThen_ok]
    exact hK _ _ h
theorem icmp_any (x y : Ins) (w : World) : Calls Tryz.prog 28 #[.agg (encI x).toArray, .agg (encI y).toArray] w fun e w' => e = .returned (.int .i64 (cmpI x y)) ∧ Below w.heap.size w w' := by
  obtain ⟨h1, h2, hb⟩ := heap2 w (.cells (encI x).toArray 29) (.cells (encI y).toArray 29)
  have HB := Lib.hid hb
  have F1 := fldB h1
  have F2 := fldB h2
  have HK1 := Lib.hid F1.all
  have HK2 := Lib.hid F2.all
  have he := fun W => eqIns x y W
  cases hq : eqI x y with
  | true =>
    rw [hq] at he
    have hz : cmpI x y = 0 := by rw [(eqI_iff x y).1 hq, cmpI_self]
    rw [hz]
    generalize (encI x).toArray = X at *
    generalize (encI y).toArray = Y at *
    clear F1 F2 h1 h2 hb hz
    go_enter Tryz.func28, Tryz.ntmps28
    go_wp2_with (first
      | ((with_reducible refine wpList_loadV (op := ⟨some 5, _, _, _, _, _⟩) rfl 29 (.tmp 2) rfl _ ?_ _ HK1.out ?_); rfl)
      | ((with_reducible refine wpList_loadV (op := ⟨some 6, _, _, _, _, _⟩) rfl 29 (.tmp 3) rfl _ ?_ _ HK2.out ?_); rfl))
    go_ret
    exact ⟨rfl, HB.out⟩
  | false =>
    rw [hq] at he
    obtain ⟨W0, hW0⟩ : ∃ W0, W0 = (w.alloc (.cells (encI x).toArray 29)).alloc (.cells (encI y).toArray 29) := ⟨_, rfl⟩
    have HW0 := Lib.hid hW0
    rw [← hW0] at h1 h2
    obtain ⟨W1, hW1⟩ : ∃ W1, W1 = { W0 with drawn := W0.drawn + 1 } := ⟨_, rfl⟩
    have HW1 := Lib.hid hW1
    have hbd : Below W0.heap.size W0 W1 := by rw [hW1]; exact ⟨rfl, rfl, rfl, Nat.le_refl _, fun _ _ => rfl⟩
    have G1 := fldB (show W1.heap[w.heap.size]? = _ by rw [hW1]; exact h1)
    have G2 := fldB (show W1.heap[w.heap.size + 1]? = _ by rw [hW1]; exact h2)
    have k0 := G1.seq
    have k1 := G1.gone
    have k2 := G1.born
    have k3 := G1.life
    have k5 := G1.pri
    have k6 := G1.wei
    have k7 := G1.port
    have k8 := G1.tgt
    have l0 := G2.seq
    have l1 := G2.gone
    have l2 := G2.born
    have l3 := G2.life
    have l5 := G2.pri
    have l6 := G2.wei
    have l7 := G2.port
    have l8 := G2.tgt
    have hs1 : w.heap.size < W1.heap.size := by rw [hW1]; exact (Array.getElem?_eq_some_iff.1 h1).1
    have hs2 : w.heap.size + 1 < W1.heap.size := by rw [hW1]; exact (Array.getElem?_eq_some_iff.1 h2).1
    have P1 : BAt W1 W1.heap.size (some ⟨w.heap.size, 0, none⟩) x.pub := .inr ⟨_, 0, rfl, hs1, fun j hj => (range_frontI (show W1.rangeAt w.heap.size 0 (encI x) from row_range (by rw [hW1]; exact h1))) j _ (bcells_get x.pub j hj)⟩
    have P2 : BAt W1 W1.heap.size (some ⟨w.heap.size + 1, 0, none⟩) y.pub := .inr ⟨_, 0, rfl, hs2, fun j hj => (range_frontI (show W1.rangeAt (w.heap.size + 1) 0 (encI y) from row_range (by rw [hW1]; exact h2))) j _ (bcells_get y.pub j hj)⟩
    have HP := Lib.hid (bcmp_any _ _ 20 20 20 20 x.pub y.pub W1 x.hp y.hp P1 P2)
    have HS := Lib.hid (scmp_any x.tgt y.tgt W1)
    have HFl := Lib.hid (fun b => flag_any b W1)
    have H64 := Lib.hid (fun a b => cmp64 a b W1)
    have H32 := Lib.hid (fun a b => cmp32 a b W1)
    have H16 := Lib.hid (fun a b => cmp16 a b W1)
    have HO := Lib.hid (or9 (listI x y) rfl)
    have HB9 := Lib.hid run_build9
    have HBE : Hid (∀ o, Below w.heap.size w (W1.alloc o)) := Lib.hid (fun o => by
      have hb0 : Below w.heap.size w W0 := by rw [hW0]; exact hb
      have hb1 := hb0.trans (hbd.mono hb0.size)
      exact hb1.alloc hb1.size o)
    have HNX : Hid (∀ o, (W1.alloc o).heap[W1.heap.size]? = some o) := Lib.hid (fun o => heap_alloc_new W1 o)
    change Hid (∀ w g, w.heap[g]? = some (.cells #[.int .i64 (cmpN x.seq y.seq), .int .i64 (cmpN (flagN x.gone) (flagN y.gone)), .int .i64 (cmpN x.born y.born), .int .i64 (cmpN x.life y.life), .int .i64 (compareBytes x.pub y.pub), .int .i64 (cmpN x.pri y.pri), .int .i64 (cmpN x.wei y.wei), .int .i64 (cmpN x.port y.port), .int .i64 (compareBytes x.tgt y.tgt)] 3 (0, 0)) → Calls Tryz.prog 54 #[.slice (some ⟨g, 0, none⟩) 9 9] w fun e w' => e = .returned (.int .i64 (cmpI x y)) ∧ w' = w) at HO
    generalize (encI x).toArray = X at *
    generalize (encI y).toArray = Y at *
    generalize cmpI x y = r at *
    generalize compareBytes x.pub y.pub = cp at *
    generalize compareBytes x.tgt y.tgt = ct at *
    generalize bstr x.tgt = T1 at *
    generalize bstr y.tgt = T2 at *
    generalize x.seq = x0 at *
    generalize x.gone = x1 at *
    generalize x.born = x2 at *
    generalize x.life = x3 at *
    generalize x.pri = x5 at *
    generalize x.wei = x6 at *
    generalize x.port = x7 at *
    generalize y.seq = y0 at *
    generalize y.gone = y1 at *
    generalize y.born = y2 at *
    generalize y.life = y3 at *
    generalize y.pri = y5 at *
    generalize y.wei = y6 at *
    generalize y.port = y7 at *
    clear F1 F2 h1 h2 hb hq G1 G2 hbd P1 P2 hs1 hs2
    have hW1c := hW1
    clear hW1 hW0
    go_enter Tryz.func28, Tryz.ntmps28
    go_upto_region 3 with (first
      | ((with_reducible refine wpList_loadV (op := ⟨some 5, _, _, _, _, _⟩) rfl 29 (.tmp 2) rfl _ ?_ _ HK1.out ?_); rfl)
      | ((with_reducible refine wpList_loadV (op := ⟨some 6, _, _, _, _, _⟩) rfl 29 (.tmp 3) rfl _ ?_ _ HK2.out ?_); rfl))
    rw [← HW0.out]
    clear hW1c
    refine region_tail 47 W1 HW1.out (by kernel_rfl) (by kernel_rfl) ?_
    simp only [List.take_succ_cons, List.take_zero, List.drop_succ_cons, List.drop_zero]
    repeat (first
      | still_step
      | still_call (HP.out)
      | still_call (HS.out)
      | still_call (H64.out _ _)
      | still_call (H32.out _ _)
      | still_call (H16.out _ _)
      | still_call (HFl.out _))
    refine wpStill_nil ?_
    go_wp2_with (first
      | ((with_reducible refine wpList_bslice9 (o := ⟨some 55, _, _, _, _, _⟩) rfl _ rfl _ _ _ _ _ _ _ _ _ ?_ ?_); (simp only [List.map_toArray, List.map_cons, List.map_nil]; rfl))
      | (go_at_call 54; (with_reducible refine (HO.out _ _ (HNX.out _)).mono ?_); rintro e w1 ⟨rfl, rfl⟩))
    go_ret
    exact ⟨rfl, HBE.out _⟩
end Go.Proofs.YtkceipkgebgigaaGreat
end
section
namespace Go.Proofs.YtkceipkgebgigaaGreat
open Go.Shelf Go.RowKit Go.Lib Go.Great
set_option maxRecDepth 100000
set_option maxHeartbeats 1000000
theorem rend_any (i : Ins) (w : World) : Calls Tryz.prog 65 #[.agg (encI i).toArray] w fun e w' => e = .returned (.int .u64 (endI i : Int)) ∧ w' = w.alloc (.cells (encI i).toArray 29) := by
  have HF := fldB (heap_alloc_new w (.cells (encI i).toArray 29))
  have c1 := HF.born
  have c2 := HF.life
  have h1 := i.hb
  have h2 := i.hl
  have h3 : (i.life : Int) % 18446744073709551616 = i.life := by omega
  have h4 : ((18446744073709551615 : Int) - (i.life : Int)) % 18446744073709551616 = 18446744073709551615 - i.life := by omega
  have HE : Hid (endI i = if 18446744073709551615 < i.born + i.life then 18446744073709551615 else i.born + i.life) := Lib.hid rfl
  generalize (encI i).toArray = X at *
  generalize endI i = E at *
  generalize i.born = b at *
  generalize i.life = l at *
  clear HF
  by_cases h : 18446744073709551615 < b + l
  · have hE : E = 18446744073709551615 := by rw [HE.out, if_pos h]
    have h5 : (18446744073709551615 : Int) - (l : Int) < (b : Int) := by omega
    subst hE
    clear HE
    go_enter Tryz.func65, Tryz.ntmps65
    go_wp2
    go_ret
    exact ⟨rfl, rfl⟩
  · have hE : E = b + l := by rw [HE.out, if_neg h]
    have h5 : ¬ (18446744073709551615 : Int) - (l : Int) < (b : Int) := by omega
    have h6 : ((b : Int) + (l : Int)) % 18446744073709551616 = b + l := by omega
    subst hE
    clear HE
    go_enter Tryz.func65, Tryz.ntmps65
    go_wp2
    go_ret
    exact ⟨by simp, rfl⟩
theorem rover_any (i : Ins) (n : Nat) (w : World) : Calls Tryz.prog 46 #[.agg (encI i).toArray, .int .u64 (n : Int)] w fun e w' => e = .returned (.bool (overI i n)) ∧ Below w.heap.size w w' := by
  have hb : Below w.heap.size w (w.alloc (.cells (encI i).toArray 29)) := (Below.refl _ w).alloc (Nat.le_refl _) _
  have HF := fldB (heap_alloc_new w (.cells (encI i).toArray 29))
  have HK := Lib.hid HF.all
  have HC := Lib.hid (rend_any i)
  have HE : Hid (((endI i : Nat) : Int) ≤ (n : Int) ↔ overI i n = true) := Lib.hid (by unfold overI; rw [decide_eq_true_eq]; omega)
  have HB := Lib.hid (fun W (h : W = (w.alloc (.cells (encI i).toArray 29)).alloc (.cells (encI i).toArray 29)) => show Below w.heap.size w W by rw [h]; exact hb.alloc hb.size _)
  generalize (encI i).toArray = X at *
  generalize endI i = E at *
  generalize overI i n = k at *
  clear hb HF
  go_enter Tryz.func46, Tryz.ntmps46
  go_wp2_with (first
    | ((with_reducible refine wpList_loadV (op := ⟨some 6, _, _, _, _, _⟩) rfl 29 (.tmp 2) rfl _ ?_ _ HK.out ?_); rfl)
    | (go_at_call 65; (with_reducible refine (HC.out _).mono ?_); rintro e w1 ⟨rfl, hw1⟩))
  go_ret
  refine ⟨?_, HB.out _ rfl⟩
  have := HE.out
  cases k
  · simp only [Bool.false_eq_true, iff_false] at this
    simp
    omega
  · simp only [iff_true] at this
    simp
    omega
theorem ralive_any (i : Ins) (n : Nat) (w : World) : Calls Tryz.prog 43 #[.agg (encI i).toArray, .int .u64 (n : Int)] w fun e w' => e = .returned (.bool (aliveI i n)) ∧ Below w.heap.size w w' := by
  have hb : Below w.heap.size w (w.alloc (.cells (encI i).toArray 29)) := (Below.refl _ w).alloc (Nat.le_refl _) _
  have HF := fldB (heap_alloc_new w (.cells (encI i).toArray 29))
  have HK := Lib.hid HF.all
  have c1 := HF.born
  have HC := Lib.hid (rend_any i)
  have HE : Hid (aliveI i n = (decide (i.born ≤ n) && !decide (endI i ≤ n))) := Lib.hid rfl
  have HB := Lib.hid hb
  have HB2 : Hid (Below w.heap.size w ((w.alloc (.cells (encI i).toArray 29)).alloc (.cells (encI i).toArray 29))) := Lib.hid (hb.alloc hb.size _)
  generalize (encI i).toArray = X at *
  generalize endI i = E at *
  generalize aliveI i n = r at *
  generalize i.born = b at *
  clear hb HF
  by_cases h : b ≤ n
  · have hr : r = !decide (E ≤ n) := by rw [HE.out, decide_eq_true (show b ≤ n by omega), Bool.true_and]
    have h' : (b : Int) ≤ (n : Int) := by omega
    have HR := Lib.hid hr
    clear HE hr
    go_enter Tryz.func43, Tryz.ntmps43
    go_wp2_with (first
      | ((with_reducible refine wpList_loadG (o := ⟨some 11, _, _, _, _, _⟩) rfl 29 (.tmp 2) rfl _ ?_ _ HK.out ?_); rfl)
      | (go_at_call 65; (with_reducible refine (HC.out _).mono ?_); rintro e w1 ⟨rfl, rfl⟩))
    go_ret
    refine ⟨?_, HB2.out⟩
    rw [HR.out]
    by_cases h2 : E ≤ n <;> simp [h2] <;> omega
  · have hr : r = false := by rw [HE.out, decide_eq_false (show ¬ b ≤ n by omega), Bool.false_and]
    have h' : ¬ (b : Int) ≤ (n : Int) := by omega
    subst hr
    clear HE
    go_enter Tryz.func43, Tryz.ntmps43
    go_wp2
    go_ret
    exact ⟨rfl, HB.out⟩
theorem rcmp64 (a b : Nat) (w : World) : Calls Tryz.prog 62 #[.int .u64 (a : Int), .int .u64 (b : Int)] w fun e w' => e = .returned (.int .i64 (cmpN a b)) ∧ w' = w := by
  by_cases h1 : a < b
  · have h : (a : Int) < (b : Int) := by omega
    rw [show cmpN a b = -1 by unfold cmpN; rw [if_pos h1]]
    go_enter Tryz.func62, Tryz.ntmps62
    go_wp2
    go_ret
    exact ⟨rfl, rfl⟩
  · have h : ¬ (a : Int) < (b : Int) := by omega
    by_cases h2 : b < a
    · have h3 : (b : Int) < (a : Int) := by omega
      rw [show cmpN a b = 1 by unfold cmpN; rw [if_neg h1, if_pos h2]]
      go_enter Tryz.func62, Tryz.ntmps62
      go_wp2
      go_ret
      exact ⟨rfl, rfl⟩
    · have h3 : ¬ (b : Int) < (a : Int) := by omega
      rw [show cmpN a b = 0 by unfold cmpN; rw [if_neg h1, if_neg h2]]
      go_enter Tryz.func62, Tryz.ntmps62
      go_wp2
      go_ret
      exact ⟨rfl, rfl⟩
theorem bit_any (b : Bool) (w : World) : Calls Tryz.prog 63 #[.bool b] w fun e w' => e = .returned (.int .u64 (flagN b : Int)) ∧ w' = w := by
  cases b
  · go_enter Tryz.func63, Tryz.ntmps63
    go_wp2
    go_ret
    exact ⟨rfl, rfl⟩
  · go_enter Tryz.func63, Tryz.ntmps63
    go_wp2
    go_ret
    exact ⟨rfl, rfl⟩
end Go.Proofs.YtkceipkgebgigaaGreat
end
