/- Bytes of package inst. Conditions: targets of at most 100,000 bytes. roster.Read of the program. No condition beyond a good reader. -/
import Derived.Test.YtkceipkgebgigaaXObc
import Derived.Test.YtkceipkgebgigaaXJLrg
import Derived.Test.YtkceipkgebgigaaXIin
section
namespace Go.Proofs.Ytkceipkgebgigaa
open Go.Shelf Go.RowKit Go.Lib Go.Great
set_option maxRecDepth 100000
set_option maxHeartbeats 2000000
def headB (i : Ins) : List UInt8 := i.pub ++ putB i.seq 8 ++ putB i.born 8 ++ putB i.life 4 ++ putB (flagN i.gone) 1
/-- The bytes of a good instance. -/
def bytesI (i : Ins) : List UInt8 := if i.gone then headB i else headB i ++ putB i.pri 2 ++ putB i.wei 2 ++ putB i.port 2 ++ (putB i.tgt.length 2 ++ i.tgt)
def byI (i : Ins) : List UInt8 := if goodI i = true then bytesI i else []
def errI (i : Ins) : Int := if goodI i = true then 0 else 2
theorem goodI_len {i : Ins} (h : goodI i = true) : i.tgt.length ≤ 253 := by
  unfold goodI tgtL at h
  cases hg : i.gone
  · rw [hg] at h
    simp only [Bool.and_eq_true, decide_eq_true_eq, Bool.false_eq_true, if_false] at h
    exact ((goodL_iff _).1 h.2.2.1).2
  · rw [hg] at h
    simp only [Bool.and_eq_true, decide_eq_true_eq, if_true] at h
    have := (eqI_iff _ _).1 h.2
    rw [this]
    simp [bareI]
theorem IsB.nil (w : World) : IsB (.slice none 0 0) [] w := ⟨none, 0, rfl, by simp, .inl rfl⟩
theorem ibytes_any (i : Ins) (hi : i.tgt.length ≤ 100000) (w : World) : Calls Try.prog 12 #[.agg (encI i).toArray] w fun e w' => ∃ v, e = .returned (.tuple #[v, .int .i64 (errI i)]) ∧ IsB v (byI i) w' ∧ Below w.heap.size w w' := by
  obtain ⟨W0, hW0⟩ : ∃ W0, W0 = w.alloc (.cells (encI i).toArray 28) := ⟨_, rfl⟩
  have hb0 : Below w.heap.size w W0 := by rw [hW0]; exact (Below.refl _ w).alloc (Nat.le_refl _) _
  have hn : W0.heap[w.heap.size]? = some (.cells (encI i).toArray 28 (0, 0)) := by rw [hW0]; exact heap_alloc_new w _
  have hl0 := (Array.getElem?_eq_some_iff.1 hn).1
  have HK : Hid ((loadVar 28 ⟨w.heap.size, 0, none⟩).run Try.prog W0 = .ok (.agg (encI i).toArray) W0) := Lib.hid (fldB hn).all
  have HG : Hid (Calls Try.prog 14 #[.agg (encI i).toArray] W0 fun e w' => e = .returned (.bool (goodI i)) ∧ Below W0.heap.size W0 w') := Lib.hid (igood_any i hi W0)
  have HB := Lib.hid hb0
  have HW := Lib.hid hW0
  cases hg : goodI i
  · have HN : Hid (errI i = 2 ∧ byI i = []) := Lib.hid (by unfold errI byI; rw [if_neg (by rw [hg]; simp), if_neg (by rw [hg]; simp)]; exact ⟨rfl, rfl⟩)
    rw [HN.out.1, HN.out.2]
    rw [hg] at HG
    generalize (encI i).toArray = X at *
    clear hn hW0 hb0 hl0
    go_enter Try.func12, Try.ntmps12
    go_wp2_with (first
      | (rw [← HW.out]; (with_reducible refine wpList_loadV (op := ⟨some 6, _, _, _, _, _⟩) rfl 28 (.tmp 1) rfl _ ?_ _ HK.out ?_); rfl)
      | (go_at_call 14; (with_reducible refine HG.out.mono ?_); rintro e w1 ⟨rfl, hb1⟩))
    refine bodyPost_ret (results_2b rfl _ _ _ _ rfl rfl) rfl ?_
    exact ⟨_, rfl, IsB.nil _, HB.out.trans (hb1.mono HB.out.size)⟩
  · have hlen := goodI_len hg
    have HY : Hid (∀ w1, Below W0.heap.size W0 w1 → BYW w i w1.heap.size i.pub (w1.alloc (.cells #[.slice (some ⟨w.heap.size, 0, none⟩) 20 20] 30)) ∧ (w1.alloc (.cells #[.slice (some ⟨w.heap.size, 0, none⟩) 20 20] 30)).cell? ⟨w.heap.size, 20, none⟩ = some (.int .u64 (i.seq : Int))) := Lib.hid (fun w1 hb1 => by
      have hba : Below w1.heap.size w1 (w1.alloc (.cells #[.slice (some ⟨w.heap.size, 0, none⟩) 20 20] 30)) := (Below.refl _ w1).alloc (Nat.le_refl _) _
      have h1 : (w1.alloc (.cells #[.slice (some ⟨w.heap.size, 0, none⟩) 20 20] 30)).heap[w.heap.size]? = some (.cells (encI i).toArray 28 (0, 0)) := (hba.block _ (Nat.lt_of_lt_of_le hl0 hb1.size)).trans ((hb1.block _ hl0).trans hn)
      have hbb := hb0.trans (hb1.mono hb0.size)
      have hp := i.hp
      have r : BYW w i w1.heap.size i.pub (w1.alloc (.cells #[.slice (some ⟨w.heap.size, 0, none⟩) 20 20] 30)) := ⟨h1, ⟨some ⟨w.heap.size, 0, none⟩, 20, by rw [hp]; exact heap_alloc_new w1 _, .inr ⟨_, 0, rfl, (Array.getElem?_eq_some_iff.1 h1).1, fun j hj => (range_frontI (show World.rangeAt _ w.heap.size 0 (encI i) from row_range h1)) j _ (bcells_get i.pub j hj)⟩, by omega⟩, hbb.trans (hba.mono hbb.size), Nat.lt_of_lt_of_le hl0 hb1.size⟩
      exact ⟨r, r.cell (j := 0) rfl⟩)
    obtain ⟨b0, e0⟩ : ∃ b, b = i.pub := ⟨_, rfl⟩
    obtain ⟨b1, e1⟩ : ∃ b, b = b0 ++ putB i.seq 8 := ⟨_, rfl⟩
    obtain ⟨b2, e2⟩ : ∃ b, b = b1 ++ putB i.born 8 := ⟨_, rfl⟩
    obtain ⟨b3, e3⟩ : ∃ b, b = b2 ++ putB i.life 4 := ⟨_, rfl⟩
    obtain ⟨b4, e4⟩ : ∃ b, b = b3 ++ putB (flagN i.gone) 1 := ⟨_, rfl⟩
    obtain ⟨b5, e5⟩ : ∃ b, b = b4 ++ putB i.pri 2 := ⟨_, rfl⟩
    obtain ⟨b6, e6⟩ : ∃ b, b = b5 ++ putB i.wei 2 := ⟨_, rfl⟩
    obtain ⟨b7, e7⟩ : ∃ b, b = b6 ++ putB i.port 2 := ⟨_, rfl⟩
    have l0 : b0.length = 20 := by rw [e0]; exact i.hp
    have l1 : b1.length = 28 := by rw [e1, List.length_append, l0, putB_length]
    have l2 : b2.length = 36 := by rw [e2, List.length_append, l1, putB_length]
    have l3 : b3.length = 40 := by rw [e3, List.length_append, l2, putB_length]
    have l4 : b4.length = 41 := by rw [e4, List.length_append, l3, putB_length]
    have l5 : b5.length = 43 := by rw [e5, List.length_append, l4, putB_length]
    have l6 : b6.length = 45 := by rw [e6, List.length_append, l5, putB_length]
    have l7 : b7.length = 47 := by rw [e7, List.length_append, l6, putB_length]
    rw [← e0] at HY
    have C1 : Hid (∀ p W, BYW w i p b0 W → Calls Try.prog 46 #[.int .u64 (i.seq : Int), .int .i64 8, .pointer (some ⟨p, 0, none⟩)] W fun e W' => e = .returned (.tuple #[]) ∧ BYW w i p b1 W' ∧ W'.cell? ⟨w.heap.size, 21, none⟩ = some (.int .u64 (i.born : Int))) := Lib.hid (fun p W r => by
      have := clo46_any (v := .int .u64 (i.born : Int)) r (by omega) i.seq 8 i.hs (by omega) (by omega) (j := 1) rfl
      rw [← e1] at this
      exact this)
    have C2 : Hid (∀ p W, BYW w i p b1 W → Calls Try.prog 46 #[.int .u64 (i.born : Int), .int .i64 8, .pointer (some ⟨p, 0, none⟩)] W fun e W' => e = .returned (.tuple #[]) ∧ BYW w i p b2 W' ∧ W'.cell? ⟨w.heap.size, 22, none⟩ = some (.int .u32 (i.life : Int))) := Lib.hid (fun p W r => by
      have := clo46_any (v := .int .u32 (i.life : Int)) r (by omega) i.born 8 i.hb (by omega) (by omega) (j := 2) rfl
      rw [← e2] at this
      exact this)
    have C3 : Hid (∀ p W, BYW w i p b2 W → Calls Try.prog 46 #[.int .u64 (i.life : Int), .int .i64 4, .pointer (some ⟨p, 0, none⟩)] W fun e W' => e = .returned (.tuple #[]) ∧ BYW w i p b3 W' ∧ W'.cell? ⟨w.heap.size, 23, none⟩ = some (.bool i.gone)) := Lib.hid (fun p W r => by
      have := clo46_any (v := .bool i.gone) r (by omega) i.life 4 (by have := i.hl; omega) (by omega) (by omega) (j := 3) rfl
      rw [← e3] at this
      exact this)
    have C4 : Hid (∀ p W, BYW w i p b3 W → Calls Try.prog 46 #[.int .u64 (flagN i.gone : Int), .int .i64 1, .pointer (some ⟨p, 0, none⟩)] W fun e W' => e = .returned (.tuple #[]) ∧ BYW w i p b4 W' ∧ W'.cell? ⟨w.heap.size, 23, none⟩ = some (.bool i.gone) ∧ W'.cell? ⟨w.heap.size, 24, none⟩ = some (.int .u16 (i.pri : Int)) ∧ ∃ A c, W'.cell? ⟨p, 0, none⟩ = some (.slice A b4.length c) ∧ BAt W' W'.heap.size A b4 ∧ b4.length ≤ c) := Lib.hid (fun p W r => (clo46_any (v := .bool i.gone) r (by omega) (flagN i.gone) 1 (by unfold flagN; split <;> omega) (by omega) (by omega) (j := 3) rfl).mono (by
      rintro e W' ⟨rfl, r2, h⟩
      rw [← e4] at r2
      obtain ⟨A, c, hh, hA, hc⟩ := r2.h2
      refine ⟨rfl, r2, h, r2.cell (j := 4) rfl, A, c, ?_, hA, hc⟩
      have := cell_of_row W' _ 0 _ 30 (0, 0) hh
      simpa using this))
    have C5 : Hid (∀ p W, BYW w i p b4 W → Calls Try.prog 46 #[.int .u64 (i.pri : Int), .int .i64 2, .pointer (some ⟨p, 0, none⟩)] W fun e W' => e = .returned (.tuple #[]) ∧ BYW w i p b5 W' ∧ W'.cell? ⟨w.heap.size, 25, none⟩ = some (.int .u16 (i.wei : Int))) := Lib.hid (fun p W r => by
      have := clo46_any (v := .int .u16 (i.wei : Int)) r (by omega) i.pri 2 (by have := i.h1; omega) (by omega) (by omega) (j := 5) rfl
      rw [← e5] at this
      exact this)
    have C6 : Hid (∀ p W, BYW w i p b5 W → Calls Try.prog 46 #[.int .u64 (i.wei : Int), .int .i64 2, .pointer (some ⟨p, 0, none⟩)] W fun e W' => e = .returned (.tuple #[]) ∧ BYW w i p b6 W' ∧ W'.cell? ⟨w.heap.size, 26, none⟩ = some (.int .u16 (i.port : Int))) := Lib.hid (fun p W r => by
      have := clo46_any (v := .int .u16 (i.port : Int)) r (by omega) i.wei 2 (by have := i.h2; omega) (by omega) (by omega) (j := 6) rfl
      rw [← e6] at this
      exact this)
    have C7 : Hid (∀ p W, BYW w i p b6 W → Calls Try.prog 46 #[.int .u64 (i.port : Int), .int .i64 2, .pointer (some ⟨p, 0, none⟩)] W fun e W' => e = .returned (.tuple #[]) ∧ BYW w i p b7 W' ∧ W'.cell? ⟨w.heap.size, 27, none⟩ = some (.string (bstr i.tgt)) ∧ ∃ A c, W'.cell? ⟨p, 0, none⟩ = some (.slice A b7.length c) ∧ BAt W' W'.heap.size A b7) := Lib.hid (fun p W r => (clo46_any (v := .string (bstr i.tgt)) r (by omega) i.port 2 (by have := i.h3; omega) (by omega) (by omega) (j := 7) rfl).mono (by
      rintro e W' ⟨rfl, r2, h⟩
      rw [← e7] at r2
      obtain ⟨A, c, hh, hA, hc⟩ := r2.h2
      refine ⟨rfl, r2, h, A, c, ?_, hA⟩
      have := cell_of_row W' _ 0 _ 30 (0, 0) hh
      simpa using this))
    have CF : Hid (∀ W, Calls Try.prog 48 #[.bool i.gone] W fun e w' => e = .returned (.int .u64 (flagN i.gone : Int)) ∧ w' = W) := Lib.hid (flag_any i.gone)
    have C8 : Hid (∀ p W A c, BYW w i p b7 W → BAt W W.heap.size A b7 → Calls Try.prog 49 #[.slice A b7.length c, .string (bstr i.tgt)] W fun e w' => ∃ v, e = .returned (.tuple #[v, .int .i64 0]) ∧ IsB v (b7 ++ (putB i.tgt.length 2 ++ i.tgt)) w' ∧ Below w.heap.size w w') := Lib.hid (fun p W A c r hA => (text_yes A c b7 (bstr i.tgt) W hA (by omega) (by rw [bstr_size]; omega)).mono (by
      rintro e w' ⟨v, rfl, ho, hb⟩
      have e8 : (bstr i.tgt).data.toList = i.tgt := by simp [bstr]
      rw [bstr_size, e8] at ho
      exact ⟨v, rfl, IsB.of_own ho, r.be.trans (hb.mono r.be.size)⟩))
    have HEr : Hid (errI i = 0) := Lib.hid (by unfold errI; rw [if_pos hg])
    have HBy : Hid (byI i = if i.gone = true then b4 else b7 ++ (putB i.tgt.length 2 ++ i.tgt)) := Lib.hid (by unfold byI; rw [if_pos hg]; unfold bytesI headB; rw [e7, e6, e5, e4, e3, e2, e1, e0])
    have q2 : (i.life : Int) % 18446744073709551616 = i.life := by have := i.hl; omega
    have q2' : i.life % 18446744073709551616 = i.life := by have := i.hl; omega
    have q5 : i.pri % 18446744073709551616 = i.pri := by have := i.h1; omega
    have q6 : i.wei % 18446744073709551616 = i.wei := by have := i.h2; omega
    have q7 : i.port % 18446744073709551616 = i.port := by have := i.h3; omega
    have H46 : ∀ args w, (callFunc 46 args).run Try.prog w = .ok (.enter 46 args) w := enters_of Try.func46 (by kernel_rfl) rfl
    rw [HEr.out]
    rw [hg] at HG
    generalize (encI i).toArray = X at *
    generalize byI i = R at *
    generalize bstr i.tgt = T at *
    generalize (putB i.tgt.length 2 ++ i.tgt) = TB at *
    generalize i.seq = f0 at *
    generalize i.born = f1 at *
    generalize i.life = f2 at *
    generalize i.pri = f4 at *
    generalize i.wei = f5 at *
    generalize i.port = f6 at *
    generalize i.gone = gn at *
    clear hn hW0 hb0 hl0 hlen e0 e1 e2 e3 e4 e5 e6 e7
    generalize hn4 : b4.length = n4 at *
    have HN4 := Lib.hid hn4
    clear hn4
    generalize b7.length = n7 at *
    clear l0 l1 l2 l3 l4 l5 l6 l7
    cases gn
    · have hR := HBy.out
      simp only [Bool.false_eq_true, if_false] at hR
      subst hR
      clear HBy
      go_enter Try.func12, Try.ntmps12
      go_upto_region 5 with (first
        | (rw [← HW.out]; (with_reducible refine wpList_loadV (op := ⟨some 6, _, _, _, _, _⟩) rfl 28 (.tmp 1) rfl _ ?_ _ HK.out ?_); rfl)
        | (go_at_call 14; (with_reducible refine HG.out.mono ?_); rintro e w1 ⟨rfl, hb1⟩))
      obtain ⟨r0, c0⟩ := HY.out _ hb1
      generalize w1.alloc (.cells #[.slice (some ⟨w.heap.size, 0, none⟩) 20 20] 30) = w2 at *
      generalize w1.heap.size = p at *
      clear hb1 HY HG HK HW
      go_wp2_with (first
      | (go_at_call 46; (with_reducible refine (C1.out _ _ r0).mono ?_); rintro e w3 ⟨rfl, r1, c1⟩)
      | (go_at_call 46; (with_reducible refine (C2.out _ _ r1).mono ?_); rintro e w4 ⟨rfl, r2, c2⟩)
      | (go_at_call 46; (with_reducible refine (C3.out _ _ r2).mono ?_); rintro e w5 ⟨rfl, r3, c3⟩)
      | (go_at_call 48; (with_reducible refine (CF.out _).mono ?_); rintro e w6 ⟨rfl, rfl⟩)
      | (go_at_call 46; (with_reducible refine (C4.out _ _ r3).mono ?_); rintro e w7 ⟨rfl, r4, c4, c4b, A4, k4, c4c, hA4, hk4⟩)
      | (go_at_call 46; (with_reducible refine (C5.out _ _ r4).mono ?_); rintro e w8 ⟨rfl, r5, c5⟩)
      | (go_at_call 46; (with_reducible refine (C6.out _ _ r5).mono ?_); rintro e w9 ⟨rfl, r6, c6⟩)
      | (go_at_call 46; (with_reducible refine (C7.out _ _ r6).mono ?_); rintro e w10 ⟨rfl, r7, c7, A7, k7, c7b, hA7⟩)
      | (go_at_call 49; (with_reducible refine (C8.out _ _ _ _ r7 hA7).mono ?_); rintro e w11 ⟨v11, rfl, hv11, hb11⟩))
      refine bodyPost_ret (results_2b rfl _ _ _ _ rfl rfl) rfl ?_
      exact ⟨_, rfl, hv11, hb11⟩
    · have hR := HBy.out
      simp only [if_true] at hR
      subst hR
      clear HBy
      go_enter Try.func12, Try.ntmps12
      go_upto_region 5 with (first
        | (rw [← HW.out]; (with_reducible refine wpList_loadV (op := ⟨some 6, _, _, _, _, _⟩) rfl 28 (.tmp 1) rfl _ ?_ _ HK.out ?_); rfl)
        | (go_at_call 14; (with_reducible refine HG.out.mono ?_); rintro e w1 ⟨rfl, hb1⟩))
      obtain ⟨r0, c0⟩ := HY.out _ hb1
      generalize w1.alloc (.cells #[.slice (some ⟨w.heap.size, 0, none⟩) 20 20] 30) = w2 at *
      generalize w1.heap.size = p at *
      clear hb1 HY HG HK HW
      go_wp2_with (first
      | (go_at_call 46; (with_reducible refine (C1.out _ _ r0).mono ?_); rintro e w3 ⟨rfl, r1, c1⟩)
      | (go_at_call 46; (with_reducible refine (C2.out _ _ r1).mono ?_); rintro e w4 ⟨rfl, r2, c2⟩)
      | (go_at_call 46; (with_reducible refine (C3.out _ _ r2).mono ?_); rintro e w5 ⟨rfl, r3, c3⟩)
      | (go_at_call 48; (with_reducible refine (CF.out _).mono ?_); rintro e w6 ⟨rfl, rfl⟩)
      | (go_at_call 46; (with_reducible refine (C4.out _ _ r3).mono ?_); rintro e w7 ⟨rfl, r4, c4, c4b, A4, k4, c4c, hA4, hk4⟩))
      refine bodyPost_ret (results_2b rfl _ _ _ _ rfl rfl) rfl ?_
      exact ⟨_, rfl, ⟨A4, k4, by rw [HN4.out]; rfl, by rw [HN4.out]; exact hk4, hA4⟩, r4.be⟩
end Go.Proofs.Ytkceipkgebgigaa
end
section
namespace Go.Proofs.Ytkceipkgebgigaa
open Go.Shelf Go.RowKit Go.Lib Go.Sort Go.Great
set_option maxRecDepth 100000
set_option maxHeartbeats 2000000
/-- n instances read, one after another; where there is none, a zero one. -/
def rosN : Nat → St → List Ins × St
  | 0, s => ([], s)
  | n + 1, s => ((rosN n s).1 ++ [readI (rosN n s).2], readS (rosN n s).2)
theorem rosN_len (n : Nat) (s : St) : (rosN n s).1.length = n := by
  induction n with
  | zero => rfl
  | succ n ih => rw [rosN, List.length_append, ih]; rfl
theorem readI_tgt (s : St) : (readI s).tgt.length ≤ 1024 := by
  unfold readI
  split
  · exact nextI_tgt s
  · simp [zeroI]
theorem rosN_tgt (n : Nat) (s : St) : ∀ x ∈ (rosN n s).1, x.tgt.length ≤ 1024 := by
  induction n with
  | zero => intro x hx; cases hx
  | succ n ih =>
    intro x hx
    rw [rosN, List.mem_append] at hx
    rcases hx with hx | hx
    · exact ih x hx
    · simp only [List.mem_singleton] at hx
      subst hx
      exact readI_tgt _
/-- What Read tells, and leaves. -/
def rosG (s : St) : Bool := goodR (rosN (numV s 1) (numS s 1)).1
def rosL (s : St) : List Ins := if rosG s then (rosN (numV s 1) (numS s 1)).1 else []
def rosS (s : St) : St := if rosG s then (rosN (numV s 1) (numS s 1)).2 else ⟨[], true⟩
def RosIs (w : World) (g B : Nat) (s : St) (e : Ending) (w' : World) : Prop :=
  ∃ A c, e = .returned (.slice A (rosL s).length c) ∧ IAt w' w'.heap.size A (rosL s) ∧ (A = none ∨ ∃ g off, A = some ⟨g, off, none⟩ ∧ w.heap.size ≤ g) ∧ RdrB w' g (rosS s) B ∧ w.grownBy w' (some g)
theorem spoil_any {w : World} {g B : Nat} {s : St} (h : RdrB w g s B) : Calls Try.prog 75 #[.pointer (some ⟨g, 0, none⟩)] w fun e w' => e = .returned (.tuple #[]) ∧ RdrB w' g ⟨[], true⟩ B ∧ w.grownBy w' (some g) := by
  have HT : Hid (Calls Try.prog 96 #[.pointer (some ⟨g, 0, none⟩), .int .i64 (-1)] w fun e w' => ∃ v, e = .returned v ∧ RdrB w' g ⟨[], true⟩ B ∧ w.grownBy w' (some g)) := by
    refine Lib.hid ((take_any h.rs (-1) (by omega)).mono ?_)
    rintro e w' ⟨v, rfl, _, hr, hg⟩
    have e1 : takeS s (-1) = ⟨[], true⟩ := by
      unfold takeS
      rw [if_neg (by intro hk; have := hk.2.1; omega)]
    rw [e1] at hr
    exact ⟨v, rfl, h.fail hr hg.size, hg⟩
  clear h
  go_enter Try.func75, Try.ntmps75
  go_wp2_with (first | (go_at_call 96; (with_reducible refine HT.out.mono ?_); rintro e w1 ⟨v, rfl, hr, hg⟩))
  go_end0
  exact ⟨rfl, hr, hg⟩
theorem numV1_lt (s : St) : numV s 1 < 256 := by
  unfold numV
  split
  · exact getN_lt' _ 1 (by rw [List.length_take]; exact Nat.min_le_left _ _)
  · omega
theorem rosread_any {w : World} {g B : Nat} {s : St} (h : RdrB w g s B) (hB : B ≤ w.heap.size) : Calls Try.prog 36 #[.pointer (some ⟨g, 0, none⟩)] w (RosIs w g B s) := by
  have HN := Lib.hid (num_anyB h 1 (by omega))
  unfold NumPB at HN
  obtain ⟨N, hN⟩ : ∃ N, N = numV s 1 := ⟨_, rfl⟩
  have hN1 : N < 256 := by rw [hN]; exact numV1_lt s
  obtain ⟨s1, hs1⟩ : ∃ s1, s1 = numS s 1 := ⟨_, rfl⟩
  rw [← hN, ← hs1] at HN
  have HE : Hid (N = numV s 1 ∧ s1 = numS s 1) := Lib.hid ⟨hN, hs1⟩
  clear h hN hs1
  go_enter Try.func36, Try.ntmps36
  go_upto_region 3 with (first | (go_at_call 74; (with_reducible refine HN.out.mono ?_); rintro e1 w1 ⟨rfl, hr1, hg1⟩))
  have HR1 := Lib.hid hr1
  have HG1 := Lib.hid hg1
  have hgl := hr1.lt
  have HBs := Lib.hid hr1.hB
  clear HN hr1 hg1
  go_loopg [3, 8] N (fun kx s3 s6 wr => ∃ (j : Nat), j ≤ N ∧ N - j ≤ kx ∧ s6 = .int .u64 (j : Int) ∧ wr.ownsRow w1.heap.size 28 28 s3 (rosN j s1).1.length (flatE encI (rosN j s1).1) ∧ RdrB wr g (rosN j s1).2 B ∧ w1.grownBy wr (some g))
  case atStart => exact ⟨0, by omega, by omega, rfl, World.ownsRow_nil w1 _ 28 28, HR1.out, World.grownBy.refl _ _⟩
  case round =>
    obtain ⟨j, hj, hkx, rfl, ho, hrd, hgr⟩ := hrel
    clear HR1
    by_cases hlt : j < N
    · have hlt' : (j : Int) < (N : Int) := by omega
      obtain ⟨L, hL⟩ : ∃ L, L = (rosN j s1).1 := ⟨_, rfl⟩
      obtain ⟨sj, hsj⟩ : ∃ sj, sj = (rosN j s1).2 := ⟨_, rfl⟩
      rw [← hL] at ho
      rw [← hsj] at hrd
      have hLl : L.length = j := by rw [hL]; exact rosN_len j s1
      have H1 : Hid (Calls Try.prog 29 #[.pointer (some ⟨g, 0, none⟩)] wr fun e w2 => e = .returned (.tuple #[.agg (encI (readI sj)).toArray, .bool (goodI (nextI sj))]) ∧ RdrB w2 g (readS sj) B ∧ w1.grownBy w2 (some g) ∧ wr.grownBy w2 (some g)) := by
        refine Lib.hid ((iread_any hrd (by have := hgr.size; have := HBs.out; omega)).mono ?_)
        rintro e w2 ⟨rfl, a, b⟩
        exact ⟨rfl, a, grownBy_trans hgr b, b⟩
      obtain ⟨A3, c3, hv3, hn3, _⟩ := own_formI ho
      obtain ⟨nl, hnl⟩ : ∃ nl, nl = L.length := ⟨_, rfl⟩
      rw [← hnl] at hv3
      subst hv3
      have hbb : ∀ w2 : World, Below w2.heap.size w2 ((w2.alloc (.cells (encI (readI sj)).toArray 28)).alloc (.cells (encI (readI sj)).toArray 28)) := fun w2 => by
        have h1 : Below w2.heap.size w2 (w2.alloc (.cells (encI (readI sj)).toArray 28)) := (Below.refl _ w2).alloc (Nat.le_refl _) _
        exact h1.alloc h1.size _
      have HO : Hid (∀ w2, wr.grownBy w2 (some g) → ((w2.alloc (.cells (encI (readI sj)).toArray 28)).alloc (.cells (encI (readI sj)).toArray 28)).ownsRow w1.heap.size 28 28 (.slice A3 nl c3) L.length (flatE encI L)) := by
        refine Lib.hid (fun w2 hg2 => ?_)
        have h1 := ho.kept hg2 (by
          cases hk : (Value.slice A3 nl c3).ownBlock with
          | none => exact .inl rfl
          | some k =>
            right
            have := (ho.lt k hk).1
            intro e
            injection e with e
            omega)
        exact h1.kept (grown_of_bel (hbb w2) none) (by cases (Value.slice A3 nl c3).ownBlock <;> simp)
      have HFIN : Hid (∀ w2 v' w', RdrB w2 g (readS sj) B → w1.grownBy w2 (some g) → wr.grownBy w2 (some g) → w'.ownsRow w1.heap.size 28 28 v' (L ++ [readI sj]).length (flatE encI (L ++ [readI sj])) → ((w2.alloc (.cells (encI (readI sj)).toArray 28)).alloc (.cells (encI (readI sj)).toArray 28)).grownBy w' (Value.slice A3 nl c3).ownBlock → w'.ownsRow w1.heap.size 28 28 v' (rosN (j + 1) s1).1.length (flatE encI (rosN (j + 1) s1).1) ∧ RdrB w' g (rosN (j + 1) s1).2 B ∧ w1.grownBy w' (some g)) := by
        refine Lib.hid (fun w2 v' w' hr2 hg2 hgw ho' hg' => ?_)
        have e1 : rosN (j + 1) s1 = (L ++ [readI sj], readS sj) := by rw [rosN, ← hL, ← hsj]
        rw [e1]
        have hba := hbb w2
        have hob : ∀ k, (Value.slice A3 nl c3).ownBlock = some k → w1.heap.size ≤ k := fun k hk => (ho.lt k hk).1
        have hs12 := hg2.size
        have hBs := HBs.out
        refine ⟨ho', (hr2.below hba).keep (hg'.block g (Nat.lt_of_lt_of_le hr2.lt hba.size) (by intro e; have := hob g (by first | exact e | exact e.symm); omega)) hg'.size (fun i hi _ => hg'.block i (by have := hba.size; omega) (by intro e; have := hob i (by first | exact e | exact e.symm); omega)), ?_⟩
        have hg3 := grownBy_trans hg2 (grown_of_bel hba (some g))
        exact ⟨hg'.os.trans hg3.os, hg'.tape.trans hg3.tape, hg'.output.trans hg3.output, Nat.le_trans hg3.size hg'.size, fun i hi hne => (hg'.block i (Nat.lt_of_lt_of_le hi hg3.size) (by intro e; have := hob i (by first | exact e | exact e.symm); omega)).trans (hg3.block i hi hne)⟩
      have HLE : Hid (L.length + [readI sj].length ≤ 1000000) := Lib.hid (by rw [hLl]; simp; omega)
      have HSZ : Hid (∀ w2, w1.grownBy w2 (some g) → w1.heap.size ≤ ((w2.alloc (.cells (encI (readI sj)).toArray 28)).alloc (.cells (encI (readI sj)).toArray 28)).heap.size) := Lib.hid (fun w2 hg2 => by have := hg2.size; simp; omega)
      have HLK : Hid (∀ w2 : World, (loadVar 28 ⟨w2.heap.size, 0, none⟩).run Try.prog (w2.alloc (.cells (encI (readI sj)).toArray 28)) = .ok (.agg (encI (readI sj)).toArray) (w2.alloc (.cells (encI (readI sj)).toArray 28))) := Lib.hid (fun w2 => load28 (row_range (heap_alloc_new w2 _)))
      have HSR : Hid (∀ w2 : World, Src Try.prog 28 56 (.slice (some ⟨(w2.alloc (.cells (encI (readI sj)).toArray 28)).heap.size, 0, none⟩) 1 1) 1 (flatE encI [readI sj]) ((w2.alloc (.cells (encI (readI sj)).toArray 28)).alloc (.cells (encI (readI sj)).toArray 28))) := Lib.hid (fun w2 => src_newI insT (readI sj) _)
      clear ho hrd hgr hL hsj hLl hnl hn3 hbb
      go_wp2_with (first
        | (go_at_call 29; (with_reducible refine H1.out.mono ?_); rintro e2 w2 ⟨rfl, hr2, hg2, hgw2⟩)
        | (with_reducible refine wpList_alloc28 (o := ⟨some 4, _, _, _, _, _⟩) w2.heap.size rfl rfl 4 rfl rfl ?_)
        | ((with_reducible refine wpList_store28n (o := ⟨none, _, _, _, _, _⟩) rfl (.tmp 4) (.tmp 13) rfl w2.heap.size rfl zeroI (readI sj) ?_ ?_ ?_); rfl; rfl)
        | ((with_reducible refine wpList_loadV (op := ⟨some 16, _, _, _, _, _⟩) rfl 28 (.tmp 4) rfl _ ?_ _ (HLK.out _) ?_); rfl)
        | ((with_reducible refine wpList_build_oneI insT (readI sj) (o := ⟨some 17, _, _, _, _, _⟩) rfl (.tmp 16) rfl ?_ ?_); rfl)
        | (refine wpList_append_ins insT rfl (.tmp 15) (.tmp 17) rfl w1.heap.size _ L [readI sj] rfl (HO.out _ hgw2) _ rfl (HSR.out _) HLE.out (HSZ.out _ hg2) ?_; intro v5 w5 ho5 hg5))
      go_roundg (N - (j + 1))
      case measure => omega
      case rel =>
        obtain ⟨f1, f2, f3⟩ := HFIN.out _ _ _ hr2 hg2 hgw2 ho5 hg5
        exact ⟨j + 1, by omega, Nat.le_refl _, by go_num, f1, f2, f3⟩
    · obtain rfl : j = N := by omega
      have hlt' : ¬ (j : Int) < (j : Int) := by omega
      obtain ⟨L, hL⟩ : ∃ L, L = (rosN j s1).1 := ⟨_, rfl⟩
      obtain ⟨sj, hsj⟩ : ∃ sj, sj = (rosN j s1).2 := ⟨_, rfl⟩
      have hLt : ∀ x ∈ L, x.tgt.length ≤ 100000 := fun x hx => by have := rosN_tgt j s1 x (hL ▸ hx); omega
      rw [← hL] at ho
      rw [← hsj] at hrd
      have hLl : L.length = j := by rw [hL]; exact rosN_len j s1
      have hgood : rosG s = goodR L := by unfold rosG; rw [← HE.out.1, ← HE.out.2, ← hL]
      have hlS : rosG s = true → rosL s = L ∧ rosS s = sj := fun hg => by
        unfold rosL rosS
        rw [hg, ← HE.out.1, ← HE.out.2, ← hL, ← hsj]
        exact ⟨rfl, rfl⟩
      have hlN : rosG s = false → rosL s = [] ∧ rosS s = ⟨[], true⟩ := fun hg => by
        unfold rosL rosS
        rw [hg]
        exact ⟨rfl, rfl⟩
      have hgw := grownBy_trans HG1.out hgr
      have hw1s := HG1.out.size
      obtain ⟨A3, c3, hv3, hn3, _, _, hform⟩ := own_formI ho
      have hA2 : A3 = none ∨ ∃ g off, A3 = some ⟨g, off, none⟩ ∧ w.heap.size ≤ g := by
        rcases hform with ⟨rfl, _⟩ | ⟨g', rfl, hgb, _⟩
        · exact .inl rfl
        · exact .inr ⟨g', 0, rfl, by omega⟩
      have hA : IAt wr wr.heap.size A3 L := by
        rcases hform with ⟨_, e, _⟩ | ⟨g', rfl, _, hg', hr'⟩
        · exact .inl e
        · exact .inr ⟨g', 0, rfl, hg', hr'⟩
      have HI := Lib.hid (gd_any A3 c3 L wr hLt hA)
      subst hv3
      by_cases hgd : goodR L = true
      · rw [hgd] at HI
        have HF : Hid (∀ w2, Below wr.heap.size wr w2 → RosIs w g B s (.returned (.slice A3 L.length c3)) w2) := by
          refine Lib.hid (fun w2 hb2 => ?_)
          obtain ⟨q1, q2⟩ := hlS (hgood.trans hgd)
          refine ⟨A3, c3, by rw [q1], by rw [q1]; exact (hA.below hb2).more hb2.size, hA2, by rw [q2]; exact hrd.below hb2, grownBy_trans hgw (grown_of_bel hb2 _)⟩
        clear hA hA2 hform ho hrd hgr hL hsj hgood hlS hlN hgw hgd hLl HE hn3 hLt
        generalize L.length = nl at *
        go_wp2_with (first | (go_at_call 40; (with_reducible refine HI.out.mono ?_); rintro e2 w2 ⟨rfl, hb2⟩))
        go_ret
        exact HF.out _ hb2
      · have hgd' : goodR L = false := by cases h : goodR L with | true => exact absurd h hgd | false => rfl
        rw [hgd'] at HI
        have HSP : Hid (∀ w2, Below wr.heap.size wr w2 → Calls Try.prog 75 #[.pointer (some ⟨g, 0, none⟩)] w2 fun e w3 => e = .returned (.tuple #[]) ∧ RosIs w g B s (.returned (.slice none 0 0)) w3) := by
          refine Lib.hid (fun w2 hb2 => (spoil_any (hrd.below hb2)).mono ?_)
          rintro e w3 ⟨rfl, hr3, hg3⟩
          obtain ⟨q1, q2⟩ := hlN (hgood.trans hgd')
          exact ⟨rfl, none, 0, by rw [q1]; rfl, by rw [q1]; exact .inl rfl, .inl rfl, by rw [q2]; exact hr3, grownBy_trans (grownBy_trans hgw (grown_of_bel hb2 _)) hg3⟩
        clear hA hA2 hform ho hrd hgr hL hsj hgood hlS hlN hgw hgd hgd' hLl HE hn3 hLt
        generalize L.length = nl at *
        go_wp2_with (first
          | (go_at_call 40; (with_reducible refine HI.out.mono ?_); rintro e2 w2 ⟨rfl, hb2⟩)
          | (go_at_call 75; (with_reducible refine (HSP.out _ hb2).mono ?_); rintro e3 w3 ⟨rfl, hf3⟩))
        go_ret
        exact hf3
end Go.Proofs.Ytkceipkgebgigaa
end
