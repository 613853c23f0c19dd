/- publishers of the statements. Condition: a length that an int holds. chosen of the program, the publisher's own one, and what the sequence yields. Conditions: a length that an int holds. What the sequence of chosen ones yields. Conditions: a length that an int holds; the body keeps what lay below a bound. -/
import Derived.Test.YtkceipkgebgigaaXObc
import Derived.Test.YtkceipkgebgigaaXIiq
import Derived.Test.YtkceipkgebgigaaXIin
import Derived.Test.YtkceipkgebgigaaXJLcc
import Derived.RangeFuncBox
section
namespace Go.Proofs.Ytkceipkgebgigaa
open Go.Shelf Go.RowKit Go.Lib Go.Great
set_option maxRecDepth 100000
set_option maxHeartbeats 400000
/-- None of the first j has the publisher of the one at k. -/
def onceTo (L : List Ins) (k : Nat) : Nat → Bool
  | 0 => true
  | j + 1 => onceTo L k j && !(L[j]!.pub == L[k]!.pub)
/-- How many publishers the first k have. -/
def pubN (L : List Ins) : Nat → Nat
  | 0 => 0
  | k + 1 => if onceTo L k k then pubN L k + 1 else pubN L k
theorem pubN_le (L : List Ins) : ∀ k, pubN L k ≤ k
  | 0 => Nat.le_refl _
  | k + 1 => by
    have := pubN_le L k
    unfold pubN
    split <;> omega
theorem pubs_none (A : Option Addr) (c : Nat) (w : World) : Calls Try.prog 41 #[.slice A 0 c] w fun e w' => e = .returned (.int .i64 0) ∧ w' = w := by
  go_enter Try.func41, Try.ntmps41
  go_wp2
  go_loopg [3, 11] 0 (fun _ s3 s wr => s3 = .int .i64 0 ∧ s = .int .i64 0 ∧ wr = w)
  case atStart => exact ⟨rfl, rfl, rfl⟩
  case round =>
    obtain ⟨rfl, rfl, rfl⟩ := hrel
    go_wp2
    go_ret
    exact ⟨rfl, rfl⟩
theorem pubs_some (b off c n : Nat) (L : List Ins) (w : World) (hn : L.length = n) (hL : n ≤ 9223372036854775807) (hnc : n ≤ c) (hb : b < w.heap.size) (hr : w.rangeAt b off (flatE encI L)) :
    Calls Try.prog 41 #[.slice (some ⟨b, off, none⟩) n c] w fun e w' => e = .returned (.int .i64 (pubN L n : Int)) ∧ Below w.heap.size w w' := by
  have HLD : Hid (∀ k, k < n → ∀ W, Below w.heap.size w W → (loadVar 28 ⟨b, off + k * 28, none⟩).run Try.prog W = .ok (.agg (encI L[k]!).toArray) W) := Lib.hid (fun k hk W hW => row_load hr hb hW (by omega))
  have HLE : Hid (∀ k, pubN L k ≤ k) := Lib.hid (pubN_le L)
  have HS : Hid (∀ k, pubN L (k + 1) = if onceTo L k k then pubN L k + 1 else pubN L k) := Lib.hid (fun k => rfl)
  have HO : Hid (∀ k j, onceTo L k (j + 1) = (onceTo L k j && !(L[j]!.pub == L[k]!.pub))) := Lib.hid (fun k j => rfl)
  have HO0 : Hid (∀ k, onceTo L k 0 = true) := Lib.hid (fun k => rfl)
  have HS0 : Hid (pubN L 0 = 0) := Lib.hid rfl
  clear hr hn
  generalize hP : pubN L = P at *
  generalize hOn : onceTo L = On at *
  clear hP hOn
  go_enter Try.func41, Try.ntmps41
  go_wp2
  go_loopw [3, 11] (fun s3 i wr => ∃ k : Nat, i = .int .i64 (k : Int) ∧ k ≤ n ∧ s3 = .int .i64 (P k : Int) ∧ Below w.heap.size w wr) (fun _ i _ => n - (RowKit.intOf i).toNat)
  case atStart => exact ⟨0, rfl, by omega, by rw [HS0.out]; rfl, Below.refl _ _⟩
  case round =>
    obtain ⟨k, rfl, hk, rfl, hbr⟩ := hrel
    by_cases hlt : k < n
    · have hlt' : (k : Int) < (n : Int) := by omega
      have hbn : Below w.heap.size w (wr.alloc (.cells (encI L[k]!).toArray 28)) := hbr.alloc hbr.size _
      have HBN := Lib.hid hbn
      have hnew := heap_alloc_new wr (.cells (encI L[k]!).toArray 28)
      have hld := Lib.hid (HLD.out k hlt wr hbr)
      have HZ : Hid (∀ W, Below (wr.alloc (.cells (encI L[k]!).toArray 28)).heap.size (wr.alloc (.cells (encI L[k]!).toArray 28)) W → (loadVar 23 ⟨wr.heap.size, 0, none⟩).run Try.prog W = .ok (.agg (bcells L[k]!.pub).toArray) W) := Lib.hid (fun W hW => load23 (row_range (by rw [hW.block _ (Array.getElem?_eq_some_iff.1 hnew).1]; exact hnew)))
      have hkc : (k : Int) ≤ (c : Int) := by omega
      have hc0 : ¬ (c : Int) = 0 := by omega
      have HPK : Hid (P k ≤ k) := Lib.hid (HLE.out k)
      have HSK := Lib.hid (HS.out k)
      have HOK := Lib.hid (HO.out k)
      have HOK0 := Lib.hid (HO0.out k)
      have HZP := Lib.hid (L[k]!).hp
      clear HS HO HO0 HLE hbn hnew hbr
      generalize L[k]! = Z at *
      go_upto_region 7 with (first
        | ((with_reducible refine wpList_loadV (op := ⟨some 15, _, _, _, _, _⟩) rfl 28 (.tmp 14) rfl _ ?_ _ hld.out ?_); rfl)
        | (with_reducible refine wpList_alloc28 (o := ⟨some 5, _, _, _, _, _⟩) wr.heap.size rfl rfl 5 rfl rfl ?_)
        | ((with_reducible refine wpList_store28n (o := ⟨none, _, _, _, _, _⟩) rfl (.tmp 5) (.tmp 15) rfl wr.heap.size rfl zeroI Z ?_ ?_ ?_); rfl; rfl))
      obtain ⟨bz, hbz⟩ : ∃ z, z = wr.heap.size := ⟨_, rfl⟩
      rw [← hbz] at HZ ⊢
      obtain ⟨wz, hwz⟩ : ∃ z, z = wr.alloc (.cells (encI Z).toArray 28) := ⟨_, rfl⟩
      rw [← hwz] at HZ HBN ⊢
      clear hbz hwz hld
      go_loopw [6, 20] (fun s6 i wr => ∃ j : Nat, i = .int .i64 (j : Int) ∧ j ≤ k ∧ s6 = .bool (On k j) ∧ Below wz.heap.size wz wr) (fun _ i _ => k - (RowKit.intOf i).toNat)
      case atStart => exact ⟨0, rfl, by omega, by rw [HOK0.out], Below.refl _ _⟩
      case round =>
        obtain ⟨j, rfl, hj, rfl, hbi⟩ := hrel
        by_cases hjl : j < k
        · have hjl' : (j : Int) < (k : Int) := by omega
          have hbw : Below w.heap.size w wr := HBN.out.trans (hbi.mono HBN.out.size)
          have hba : Below wr.heap.size wr (wr.alloc (.cells (encI L[j]!).toArray 28)) := (Below.refl _ wr).alloc (Nat.le_refl _) _
          have HBA : Hid (Below wz.heap.size wz (wr.alloc (.cells (encI L[j]!).toArray 28))) := Lib.hid (hbi.trans (hba.mono hbi.size))
          have hld := Lib.hid (HLD.out j (by omega) wr hbw)
          have HLZ := Lib.hid (HZ.out _ HBA.out)
          have HLY := Lib.hid (load23 (row_range (heap_alloc_new wr (.cells (encI L[j]!).toArray 28))))
          have HOJ := Lib.hid (HOK.out j)
          have HYP := Lib.hid (L[j]!).hp
          clear hbw hba hbi HOK HLD HS0
          generalize L[j]! = Y at *
          have heq := fun W => eq23 Y.pub Z.pub HYP.out HZP.out W 9998
          cases hq : On k j
          · have hr : On k (j + 1) = false := by rw [HOJ.out, hq]; rfl
            have HR := Lib.hid hr
            clear hr HOJ heq
            go_wp2_with (first
              | ((with_reducible refine wpList_loadV (op := ⟨some 23, _, _, _, _, _⟩) rfl 28 (.tmp 22) rfl _ ?_ _ hld.out ?_); rfl)
              | (with_reducible refine wpList_alloc28 (o := ⟨some 8, _, _, _, _, _⟩) wr.heap.size rfl rfl 8 rfl rfl ?_)
              | ((with_reducible refine wpList_store28n (o := ⟨none, _, _, _, _, _⟩) rfl (.tmp 8) (.tmp 23) rfl wr.heap.size rfl zeroI Y ?_ ?_ ?_); rfl; rfl))
            go_roundw
            case rel => exact ⟨j + 1, by go_num, by omega, by rw [HR.out], HBA.out⟩
            case measure => simp [RowKit.intOf]; omega
          · cases he : (Y.pub == Z.pub)
            · have hr : On k (j + 1) = true := by rw [HOJ.out, hq, he]; rfl
              have HR := Lib.hid hr
              rw [he] at heq
              clear hr HOJ he
              go_wp2_with (first
                | ((with_reducible refine wpList_loadV (op := ⟨some 23, _, _, _, _, _⟩) rfl 28 (.tmp 22) rfl _ ?_ _ hld.out ?_); rfl)
                | (with_reducible refine wpList_alloc28 (o := ⟨some 8, _, _, _, _, _⟩) wr.heap.size rfl rfl 8 rfl rfl ?_)
                | ((with_reducible refine wpList_store28n (o := ⟨none, _, _, _, _, _⟩) rfl (.tmp 8) (.tmp 23) rfl wr.heap.size rfl zeroI Y ?_ ?_ ?_); rfl; rfl)
                | ((with_reducible refine wpList_loadG (o := ⟨some 27, _, _, _, _, _⟩) rfl 23 (.tmp 26) rfl _ ?_ _ HLY.out ?_); rfl)
                | ((with_reducible refine wpList_loadG (o := ⟨some 29, _, _, _, _, _⟩) rfl 23 (.tmp 28) rfl _ ?_ _ HLZ.out ?_); rfl))
              go_roundw
              case rel => exact ⟨j + 1, by go_num, by omega, by rw [HR.out], HBA.out⟩
              case measure => simp [RowKit.intOf]; omega
            · have hr : On k (j + 1) = false := by rw [HOJ.out, hq, he]; rfl
              have HR := Lib.hid hr
              rw [he] at heq
              clear hr HOJ he
              go_wp2_with (first
                | ((with_reducible refine wpList_loadV (op := ⟨some 23, _, _, _, _, _⟩) rfl 28 (.tmp 22) rfl _ ?_ _ hld.out ?_); rfl)
                | (with_reducible refine wpList_alloc28 (o := ⟨some 8, _, _, _, _, _⟩) wr.heap.size rfl rfl 8 rfl rfl ?_)
                | ((with_reducible refine wpList_store28n (o := ⟨none, _, _, _, _, _⟩) rfl (.tmp 8) (.tmp 23) rfl wr.heap.size rfl zeroI Y ?_ ?_ ?_); rfl; rfl)
                | ((with_reducible refine wpList_loadG (o := ⟨some 27, _, _, _, _, _⟩) rfl 23 (.tmp 26) rfl _ ?_ _ HLY.out ?_); rfl)
                | ((with_reducible refine wpList_loadG (o := ⟨some 29, _, _, _, _, _⟩) rfl 23 (.tmp 28) rfl _ ?_ _ HLZ.out ?_); rfl))
              go_roundw
              case rel => exact ⟨j + 1, by go_num, by omega, by rw [HR.out], HBA.out⟩
              case measure => simp [RowKit.intOf]; omega
        · obtain rfl : j = k := by omega
          have HB : Hid (Below w.heap.size w wr) := Lib.hid (HBN.out.trans (hbi.mono HBN.out.size))
          clear hbi HLD HOK
          cases hq : On j j
          · have hr : P (j + 1) = P j := by rw [HSK.out, hq]; rfl
            have HR := Lib.hid hr
            clear hr HSK
            go_wp2
            go_roundw
            case rel => exact ⟨j + 1, by go_num, by omega, by rw [HR.out], HB.out⟩
            case measure => simp [RowKit.intOf]; omega
          · have hr : P (j + 1) = P j + 1 := by rw [HSK.out, hq]; rfl
            have HR := Lib.hid hr
            have hpj := HPK.out
            clear hr HSK
            go_wp2
            go_roundw
            case rel => exact ⟨j + 1, by go_num, by omega, by rw [HR.out]; go_num, HB.out⟩
            case measure => simp [RowKit.intOf]; omega
    · obtain rfl : k = n := by omega
      have HB := Lib.hid hbr
      clear HLD HS HO HO0 HLE hbr
      go_wp2
      go_ret
      exact ⟨rfl, HB.out⟩
theorem pubs_any (A : Option Addr) (c : Nat) (L : List Ins) (w : World) (hL : L.length ≤ 9223372036854775807) (hc : L.length ≤ c) (hA : IAt w w.heap.size A L) :
    Calls Try.prog 41 #[.slice A L.length c] w fun e w' => e = .returned (.int .i64 (pubN L L.length : Int)) ∧ Below w.heap.size w w' := by
  rcases hA with rfl | ⟨g, off, rfl, hg, hr⟩
  · exact (pubs_none A c w).mono (by rintro e w' ⟨rfl, rfl⟩; exact ⟨rfl, Below.refl _ _⟩)
  · exact pubs_some g off c L.length L w rfl hL hc hg hr
end Go.Proofs.Ytkceipkgebgigaa
end
section
namespace Go.Proofs.Ytkceipkgebgigaa
open Go.Shelf Go.RowKit Go.Lib Go.Great
set_option maxRecDepth 100000
set_option maxHeartbeats 400000
section
variable {F : Fence} {n : Nat} {P : Program} {ops : Array Oper} {rest : List Oper} {o : Oper} {a : Act} {w : World} {Q : Exit → Act → World → Prop}
/-- A load, inside a fence. -/
theorem wpListIn_loadV (hw : Region.wanted o (yielded ops a.tmps) = true) (ty : TypeId) (x : Operand) (ho : o.op = .load ty x) (p : Addr) (hx : a.eval x = .pointer (some p)) (v : Value) (hl : (loadVar ty p).run P w = .ok v w)
    (h : wpListIn F n P ops Q rest (a.put o.dst v) w) : wpListIn F n P ops Q (o :: rest) a w :=
  BigFrame.wpListIn_want hw fun K hK => by
    refine ⟨fun f hf => by simp [Oper.about, ho] at hf, ?_⟩
    rw [Oper.semAt_plain F _ _ (by rw [ho]; intro c hc'; cases hc')]
    unfold execOp
    simp only [ho, hx, Instr.loadAt, Instr.sureAddr, Sem.run_bind, Sem.run_pure, Result.andThen_ok, hl]
    exact hK _ _ h
end
section
variable {F : Fence} {n : Nat} {ops : Array Oper} {rest : List Oper} {o : Oper} {a : Act} {w : World} {Q : Exit → Act → World → Prop}
theorem wpListIn_alloc28 (k : Nat) (hn : w.heap.size = k) (hw : Region.wanted o (yielded ops a.tmps) = true) (d : Nat) (hd : o.dst = some d) (ho : o.op = .alloc 28)
    (h : wpListIn F n Try.prog ops Q rest (a.put (some d) (.pointer (some ⟨k, 0, none⟩))) (w.alloc (.cells (encI zeroI).toArray 28))) : wpListIn F n Try.prog ops Q (o :: rest) a w :=
  BigFrame.wpListIn_want hw fun K hK => by
    subst hn
    refine ⟨fun f hf => by simp [Oper.about, ho] at hf, ?_⟩
    rw [Oper.semAt_plain F _ _ (by rw [ho]; intro c hc'; cases hc')]
    have hz := fun W => zV28 W
    generalize (encI zeroI).toArray = Z at hz h
    unfold execOp
    simp only [ho, Instr.alloc, Sem.run_bind, hz, Result.andThen_ok, Value.cells]
    simp [Oper.uponIn, hd]
    exact hK _ _ h
theorem wpListIn_store28 (hw : Region.wanted o (yielded ops a.tmps) = true) (x y : Operand) (ho : o.op = .store 28 x y) (g : Nat) (c : Ins) (hx : a.eval x = .pointer (some ⟨g, 0, none⟩)) (hy : a.eval y = .agg (encI c).toArray)
    (ht : w.there g 0 28) (h : wpListIn F n Try.prog ops Q rest (a.put o.dst undef) (w.setCells g 0 (encI c))) : wpListIn F n Try.prog ops Q (o :: rest) a w :=
  BigFrame.wpListIn_want hw fun K hK => by
    have hsz : (encI c).toArray.size = 28 := by rw [List.size_toArray, encI_length]
    refine ⟨fun f hf => by simp [Oper.about, ho] at hf, ?_⟩
    rw [Oper.semAt_plain F _ _ (by rw [ho]; intro c hc'; cases hc')]
    unfold execOp
    simp only [ho, hx, hy, Instr.storeAt, Instr.sureAddr, Sem.run_bind, Sem.run_pure, Result.andThen_ok, run_storeVar_mid w g 0 28 (encI c).toArray (by rw [hsz]; exact ht) (by rw [hsz]; exact size28i) (encI_all c)]
    exact hK _ _ h
theorem wpListIn_store28n (hw : Region.wanted o (yielded ops a.tmps) = true) (x y : Operand) (ho : o.op = .store 28 x y) (k : Nat) (hn : w.heap.size = k) (z c : Ins) (hx : a.eval x = .pointer (some ⟨k, 0, none⟩)) (hy : a.eval y = .agg (encI c).toArray)
    (h : wpListIn F n Try.prog ops Q rest (a.put o.dst undef) (w.alloc (.cells (encI c).toArray 28))) : wpListIn F n Try.prog ops Q (o :: rest) a (w.alloc (.cells (encI z).toArray 28)) := by
  subst hn
  refine wpListIn_store28 hw x y ho w.heap.size c hx hy ?_ ?_
  · have := there_new w 28 (encI z)
    rwa [encI_length] at this
  · rw [setCells_all w 28 (encI z) (encI c) (by rw [encI_length, encI_length])]
    exact h
/-- A call of a function value, inside a fence that fences nothing off. -/
theorem wpListIn_callV (hF : ∀ f, F.fn f) (hwd : F = Fence.wide ∨ ∃ l, F = Fence.wide.inRound l) (hn1 : 1 ≤ n) (hw : Region.wanted o (yielded ops a.tmps) = true) (f : Nat) (caps : Array Value) (x : Operand) {xs : Array Operand} {ts : Array TypeId} (ho : o.op = .call { callee := .value x, args := xs, argTypes := ts })
    (hx : a.eval x = .func (.func f) #[] caps) (eg : ∀ args w, (callFunc f args).run Try.prog w = .ok (.enter f args) w) (args : Array Value) (hargs : xs.map a.eval = args)
    (h : Calls Try.prog f (args ++ caps) w fun e w' => ∃ v, e = .returned v ∧ wpListIn F n Try.prog ops Q rest (a.put o.dst v) w') : wpListIn F n Try.prog ops Q (o :: rest) a w :=
  BigFrame.wpListIn_want hw fun K hK => by
    refine ⟨fun f hf => hF f, ?_⟩
    rw [Oper.semAt_plain F _ _ (by rw [ho]; intro c hc'; cases hc'), callV_run f caps x ho hx eg args hargs, Oper.uponIn_enter]
    refine ⟨fun _ => hn1, ?_⟩
    have hc : CallsIn F (n - 1) Try.prog f (args ++ caps) w fun e w' => ∃ v, e = .returned v ∧ wpListIn F n Try.prog ops Q rest (a.put o.dst v) w' := by
      rcases hwd with rfl | ⟨l, rfl⟩
      · exact callsIn_wide.2 h
      · exact CallsIn.inRound l (callsIn_wide.2 h)
    exact hc.mono (by rintro e w'' ⟨v, rfl, h1⟩; exact hK _ _ h1)
end
theorem chosen_any (A : Option Addr) (n c : Nat) (fv : Value) (hfv : ∃ f cs, fv = .func (.func f) #[] cs) (w : World) : Calls Try.prog 82 #[.slice A n c, fv] w fun e w' => e = .returned (.func (.func 106) #[] #[.pointer (some ⟨w.heap.size, 0, none⟩), .pointer (some ⟨w.heap.size + 1, 0, none⟩)]) ∧ w' = (w.alloc (.cells #[.slice A n c] 56)).alloc (.cells #[fv] 36) := by
  obtain ⟨f, cs, rfl⟩ := hfv
  go_enter Try.func82, Try.ntmps82
  go_wp2
  go_ret
  exact ⟨rfl, rfl⟩
theorem get1_any (x : Ins) (p : List UInt8) (hp : p.length = 20) (B : Nat) (w : World) (h : w.heap[B]? = some (.cells (bcells p).toArray 23 (0, 0))) : Calls Try.prog 83 #[.agg (encI x).toArray, .pointer (some ⟨B, 0, none⟩)] w fun e w' => e = .returned (.bool (x.pub == p)) ∧ Below w.heap.size w w' := by
  have hb : Below w.heap.size w (w.alloc (.cells (encI x).toArray 28)) := (Below.refl _ w).alloc (Nat.le_refl _) _
  have HX := Lib.hid (load23 (row_range (heap_alloc_new w (.cells (encI x).toArray 28))))
  have HP : Hid ((loadVar 23 ⟨B, 0, none⟩).run Try.prog (w.alloc (.cells (encI x).toArray 28)) = .ok (.agg (bcells p).toArray) (w.alloc (.cells (encI x).toArray 28))) := Lib.hid (by
    have h2 : (w.alloc (.cells (encI x).toArray 28)).heap[B]? = some (.cells (bcells p).toArray 23 (0, 0)) := (hb.block _ (Array.getElem?_eq_some_iff.1 h).1).trans h
    exact run_loadVar_mid _ B 0 23 (bcells p) _ (row_range h2) Try.underlying23 rfl (by rw [bcells_length, hp]; exact size23i))
  have heq := fun W => eq23 x.pub p x.hp hp W 9998
  have HB := Lib.hid hb
  clear hb h
  go_enter Try.func83, Try.ntmps83
  go_wp2_with (first
    | ((with_reducible refine wpList_loadV (op := ⟨some 5, _, _, _, _, _⟩) rfl 23 (.tmp 4) rfl _ ?_ _ HX.out ?_); rfl)
    | ((with_reducible refine wpList_loadV (op := ⟨some 6, _, _, _, _, _⟩) rfl 23 (.tmp 1) rfl _ ?_ _ HP.out ?_); rfl))
  go_ret
  exact ⟨rfl, HB.out⟩
end Go.Proofs.Ytkceipkgebgigaa
end
section
namespace Go.Proofs.Ytkceipkgebgigaa
open Go.Shelf Go.RowKit Go.Lib Go.Great
set_option maxRecDepth 100000
set_option maxHeartbeats 400000
theorem filter_at (L : List Ins) (q : Ins → Bool) (k : Nat) (hk : k < L.length) : L.filter q = (L.take k).filter q ++ (if q L[k]! then [L[k]!] else []) ++ (L.drop (k + 1)).filter q := by
  have e : L = L.take k ++ L[k]! :: L.drop (k + 1) := by
    rw [getElem!_pos L k hk, ← List.drop_eq_getElem_cons hk, List.take_append_drop]
  conv => lhs; rw [e]
  rw [List.filter_append, List.filter_cons]
  split <;> simp
theorem filter_next (L : List Ins) (q : Ins → Bool) (k : Nat) (hk : k < L.length) : (L.take (k + 1)).filter q = (L.take k).filter q ++ (if q L[k]! then [L[k]!] else []) := by
  have e : L.take (k + 1) = L.take k ++ [L[k]!] := by
    rw [List.take_add_one, List.getElem?_eq_getElem hk, getElem!_pos L k hk]; rfl
  rw [e, List.filter_append, List.filter_cons, List.filter_nil]
theorem chosen_stops (m : Nat) (hm : 2 ≤ m) (A : Option Addr) (c : Nat) (L : List Ins) (q : Ins → Bool) (caps : Array Value) (Bs Bf n₀ : Nat) (w : World) (hL : L.length ≤ 9223372036854775807) (hn₀ : n₀ ≤ w.heap.size) (hBs : Bs < n₀) (hBf : Bf < n₀)
    (hcs : w.cell? ⟨Bs, 0, none⟩ = some (.slice A L.length c)) (hcf : w.cell? ⟨Bf, 0, none⟩ = some (.func (.func 83) #[] caps)) (hA : IAt w n₀ A L)
    (hq : ∀ x W, Below n₀ w W → Calls Try.prog 83 (#[.agg (encI x).toArray] ++ caps) W fun e w' => e = .returned (.bool (q x)) ∧ Below W.heap.size W w') :
    SeqStopsK Fence.wide m Try.prog 106 #[.pointer (some ⟨Bs, 0, none⟩), .pointer (some ⟨Bf, 0, none⟩)] (fun x : Ins => #[.agg (encI x).toArray]) (Below n₀) (fun xs => xs = L.filter q) (fun pre => pre <+: L.filter q) (L.filter q).length w := fun l J Jx W hW hJ hJx hY h0 => by
  have HCS : Hid (∀ W', Below n₀ w W' → W'.cell? ⟨Bs, 0, none⟩ = some (.slice A L.length c)) := Lib.hid (fun W' h => (h.cell (p := ⟨Bs, 0, none⟩) hBs).trans hcs)
  have HCF : Hid (∀ W', Below n₀ w W' → W'.cell? ⟨Bf, 0, none⟩ = some (.func (.func 83) #[] caps)) := Lib.hid (fun W' h => (h.cell (p := ⟨Bf, 0, none⟩) hBf).trans hcf)
  have HQ := Lib.hid hq
  have hW0 : Below n₀ w W := hW.mono hn₀
  have HLD : Hid (∀ k, k < L.length → ∃ b off, A = some ⟨b, off, none⟩ ∧ ∀ W', Below n₀ w W' → (loadVar 28 ⟨b, off + k * 28, none⟩).run Try.prog W' = .ok (.agg (encI L[k]!).toArray) W') := Lib.hid (fun k hk => by
    rcases hA with rfl | ⟨g, off, rfl, hg, hr⟩
    · simp at hk
    · exact ⟨g, off, rfl, fun W' hW' => row_load hr hg hW' hk⟩)
  have HY := Lib.hid hY
  have HJ := Lib.hid hJ
  have HFA := Lib.hid (filter_at L q)
  have HFN := Lib.hid (filter_next L q)
  have hcell := HCS.out W hW0
  obtain ⟨n, hn⟩ : ∃ n, n = L.length := ⟨_, rfl⟩
  have HSZ := Lib.hid hn₀
  have R0 : Hid (∃ k : Nat, Value.int .i64 0 = .int .i64 (k : Int) ∧ k ≤ n ∧ J ((L.take k).filter q) W ∧ Below n₀ w W) := Lib.hid ⟨0, rfl, by omega, by simpa using h0, hW0⟩
  have HEND : Hid (∀ W', J ((L.take n).filter q) W' → J (L.filter q) W') := Lib.hid (fun W' h => by rw [hn, List.take_length] at h; exact h)
  rw [← hn] at HLD HFA HFN hcell hL
  clear hY hJ hJx h0 hq hcs hcf hA hW0 HCS hW hBs hBf hn₀
  refine callsIn_of_wp Try.func106 rfl trivial ?_ rfl
  simp only [Try.ntmps106, List.size_toArray, List.length_cons, List.length_nil, Nat.reduceAdd, Nat.reduceSub, Array.replicate_succ, Array.replicate_zero, List.push_toArray, List.append_toArray, List.nil_append, List.cons_append]
  gi_wp2
  gi_loopw [8] (fun i wr => ∃ k : Nat, i = .int .i64 (k : Int) ∧ k ≤ n ∧ J ((L.take k).filter q) wr ∧ Below n₀ w wr) (fun i _ => n - (RowKit.intOf i).toNat)
  case atStart => exact R0.out
  case round =>
    obtain ⟨k, rfl, hk, hJw, hbr⟩ := hrel
    clear R0
    by_cases hlt : k < n
    · have hlt' : (k : Int) < (n : Int) := by omega
      obtain ⟨b, off, rfl, hld⟩ := HLD.out k hlt
      have hld := Lib.hid (hld wr hbr)
      have hba0 : Below wr.heap.size wr (wr.alloc (.cells (encI L[k]!).toArray 28)) := (Below.refl _ wr).alloc (Nat.le_refl _) _
      have hnew := heap_alloc_new wr (.cells (encI L[k]!).toArray 28)
      have hbs := hbr.size
      have hsz := HSZ.out
      have hfa := HFA.out k hlt
      have hfn := HFN.out k hlt
      have hba : Below n₀ w (wr.alloc (.cells (encI L[k]!).toArray 28)) := hbr.trans (hba0.mono (by omega))
      have hcf := HCF.out _ hba
      have HW := Lib.hid (HQ.out L[k]! _ hba)
      have HLX : Hid (∀ W', Below (wr.alloc (.cells (encI L[k]!).toArray 28)).heap.size (wr.alloc (.cells (encI L[k]!).toArray 28)) W' → (loadVar 28 ⟨wr.heap.size, 0, none⟩).run Try.prog W' = .ok (.agg (encI L[k]!).toArray) W') := Lib.hid (fun W' h => load28 (row_range (by rw [h.block _ (Array.getElem?_eq_some_iff.1 hnew).1]; exact hnew)))
      have HJ1 : Hid (∀ w1, Below (wr.alloc (.cells (encI L[k]!).toArray 28)).heap.size (wr.alloc (.cells (encI L[k]!).toArray 28)) w1 → J ((L.take k).filter q) w1 ∧ Below n₀ w w1) := Lib.hid (fun w1 h => by
        have h1 := hba0.trans (h.mono hba0.size)
        exact ⟨HJ.out _ _ _ _ hJw (below_grown h1) (fun r e => by cases e), hbr.trans (h1.mono (by omega))⟩)
      clear HLD HFA HFN HEND HQ HCF HJ hJw hbr hba hnew
      generalize L[k]! = x at *
      generalize (L.take k).filter q = pre at *
      generalize (L.drop (k + 1)).filter q = post at *
      have eg83 : ∀ args w, (callFunc 83 args).run Try.prog w = .ok (.enter 83 args) w := enters_of Try.func83 (by kernel_rfl) rfl
      cases hqx : q x
      · rw [hqx] at hfn HW
        simp only [Bool.false_eq_true, if_false, List.append_nil] at hfn
        have HR : Hid (∀ w1, J pre w1 ∧ Below n₀ w w1 → ∃ k' : Nat, Value.int .i64 ((k : Int) + 1) = .int .i64 (k' : Int) ∧ k' ≤ n ∧ J ((L.take k').filter q) w1 ∧ Below n₀ w w1) := Lib.hid (fun w1 h => ⟨k + 1, by simp, by omega, by rw [hfn]; exact h.1, h.2⟩)
        clear hfn hfa HY hba0
        gi_wp2_with (first
          | ((with_reducible refine wpListIn_loadV (o := ⟨some 11, _, _, _, _, _⟩) rfl 28 (.tmp 10) rfl _ ?_ _ hld.out ?_); rfl)
          | (with_reducible refine wpListIn_alloc28 (o := ⟨some 5, _, _, _, _, _⟩) wr.heap.size rfl rfl 5 rfl rfl ?_)
          | ((with_reducible refine wpListIn_store28n (o := ⟨none, _, _, _, _, _⟩) rfl (.tmp 5) (.tmp 11) rfl wr.heap.size rfl zeroI x ?_ ?_ ?_); rfl; rfl)
          | ((with_reducible refine wpListIn_loadV (o := ⟨some 13, _, _, _, _, _⟩) rfl 28 (.tmp 5) rfl _ ?_ _ (HLX.out _ (Below.refl _ _)) ?_); rfl)
          | ((refine wpListIn_callV (o := ⟨some 14, _, _, _, _, _⟩) (xs := #[.tmp 13]) (ts := #[28]) (fun _ => trivial) (.inl rfl) (by omega) rfl 83 caps (.tmp 12) rfl rfl eg83 #[.agg (encI x).toArray] (by simp only [List.map_toArray, List.map_cons, List.map_nil]; rfl) ?_); (with_reducible refine HW.out.mono ?_); rintro e w1 ⟨rfl, hb1⟩; refine ⟨_, rfl, ?_⟩; have hj1 := Lib.hid (HJ1.out _ hb1)))
        refine ⟨(fun f hf => by cases hf), ?_⟩
        gi_wp2
        go_roundw
        case rel => exact HR.out _ hj1.out
        case measure => simp [RowKit.intOf]; omega
      · rw [hqx] at hfn hfa HW
        simp only [if_true] at hfn hfa
        have hlen : pre.length < (L.filter q).length := by rw [hfa]; simp
        have HP : Hid ((pre ++ [x]) <+: L.filter q) := Lib.hid ⟨post, hfa.symm⟩
        have HR : Hid (∀ w1, J (pre ++ [x]) w1 → Below n₀ w w1 → ∃ k' : Nat, Value.int .i64 ((k : Int) + 1) = .int .i64 (k' : Int) ∧ k' ≤ n ∧ J ((L.take k').filter q) w1 ∧ Below n₀ w w1) := Lib.hid (fun w1 h h2 => ⟨k + 1, by simp, by omega, by rw [hfn]; exact h, h2⟩)
        clear hfn hfa hba0
        gi_wp2_with (first
          | ((with_reducible refine wpListIn_loadV (o := ⟨some 11, _, _, _, _, _⟩) rfl 28 (.tmp 10) rfl _ ?_ _ hld.out ?_); rfl)
          | (with_reducible refine wpListIn_alloc28 (o := ⟨some 5, _, _, _, _, _⟩) wr.heap.size rfl rfl 5 rfl rfl ?_)
          | ((with_reducible refine wpListIn_store28n (o := ⟨none, _, _, _, _, _⟩) rfl (.tmp 5) (.tmp 11) rfl wr.heap.size rfl zeroI x ?_ ?_ ?_); rfl; rfl)
          | ((with_reducible refine wpListIn_loadV (o := ⟨some 13, _, _, _, _, _⟩) rfl 28 (.tmp 5) rfl _ ?_ _ (HLX.out _ (Below.refl _ _)) ?_); rfl)
          | ((refine wpListIn_callV (o := ⟨some 14, _, _, _, _, _⟩) (xs := #[.tmp 13]) (ts := #[28]) (fun _ => trivial) (.inl rfl) (by omega) rfl 83 caps (.tmp 12) rfl rfl eg83 #[.agg (encI x).toArray] (by simp only [List.map_toArray, List.map_cons, List.map_nil]; rfl) ?_); (with_reducible refine HW.out.mono ?_); rintro e w1 ⟨rfl, hb1⟩; refine ⟨_, rfl, ?_⟩; have hj1 := Lib.hid (HJ1.out _ hb1); have hlx := Lib.hid (HLX.out _ hb1); obtain ⟨fn, tmps, assign, body, hy, hR⟩ := HY.out pre x w1 hj1.out.1 hlen)
          | ((with_reducible refine wpListIn_loadV (o := ⟨some 17, _, _, _, _, _⟩) rfl 28 (.tmp 5) rfl _ ?_ _ hlx.out ?_); rfl))
        refine ⟨fun _ => by omega, hR.mono ?_⟩
        rintro e W3 (⟨rfl, hJ3, hk3⟩ | ⟨rfl, hJx3⟩)
        · gi_wp2
          go_roundw
          case rel => exact HR.out _ hJ3 (hj1.out.2.trans hk3)
          case measure => simp [RowKit.intOf]; omega
        · gi_wp2
          refine bodyPost_ret (results_none rfl _ _ _) rfl ?_
          exact ⟨⟨_, rfl⟩, .inr ⟨pre ++ [x], HP.out, hJx3⟩⟩
    · obtain rfl : k = n := by omega
      have hj := Lib.hid (HEND.out _ hJw)
      clear HLD HFA HFN HEND HY HJ HQ HCF hbr hJw
      gi_wp2
      go_end0
      exact ⟨⟨_, rfl⟩, .inl ⟨_, rfl, hj.out⟩⟩
end Go.Proofs.Ytkceipkgebgigaa
end
