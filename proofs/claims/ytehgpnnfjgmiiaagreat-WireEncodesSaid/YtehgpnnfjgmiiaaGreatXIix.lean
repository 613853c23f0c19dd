/- Bytes of the reference of layer inst. Conditions: targets of at most 100,000 bytes. Walk of RosterMerges. Condition: lengths that an int holds. Rows that grow; with of the reference, plain. No condition. -/
import Derived.Test.YtehgpnnfjgmiiaaGreatProg
import Derived.Test.YtehgpnnfjgmiiaaGreatXIiv
import Derived.Test.YtehgpnnfjgmiiaaGreatXIif
import Derived.Test.YtehgpnnfjgmiiaaGreatXJPWords
import Derived.Test.YtehgpnnfjgmiiaaGreatXJLrc
import Derived.Test.YtehgpnnfjgmiiaaGreatXWab
import Derived.Test.YtehgpnnfjgmiiaaGreatXObc
section
namespace Go.Proofs.YtehgpnnfjgmiiaaGreat
open Go.Shelf Go.RowKit Go.Lib Go.Great
set_option maxRecDepth 100000
set_option maxHeartbeats 2000000
theorem wpList_noneB {ops : Array Oper} {rest : List Oper} {o : Oper} {a : Act} {w : World} {Q : Exit → Act → World → Prop} (hgd : o.guard = none) (d : Nat) (hd : o.dst = some d) (ho : o.op = .buildSlice 31 0 #[])
    (h : wpList Tryz.prog ops Q rest (a.put (some d) (.slice (some ⟨w.heap.size, 0, none⟩) 0 0)) (w.alloc (.cells #[] 5))) : wpList Tryz.prog ops Q (o :: rest) a w :=
  wpList_plain hgd fun _ hK => by
    unfold Oper.wp execOp
    simp only [ho, List.map_toArray, List.map_nil, Sem.run_bind, run_build_noneB, Result.andThen_ok, Sem.run_pure]
    rw [← hd] at h
    exact hK _ _ h
theorem wpList_appB {ops : Array Oper} {rest : List Oper} {o : Oper} {a : Act} {w : World} {Q : Exit → Act → World → Prop} (hgd : o.guard = none) (d : Nat) (hd : o.dst = some d) (s x : Operand)
    (ho : o.op = .call { callee := .builtin .append, args := #[s, x], argTypes := #[31, 31] })
    (base : Nat) (v : Value) (L : List UInt8) (hs : a.eval s = v) (hown : w.ownsRow base 5 1 v L.length (bcells L)) (y : Value) (M : List UInt8) (hx : a.eval x = y) (hr : Src Tryz.prog 1 31 y M.length (bcells M) w) (h63 : L.length + M.length ≤ 10000000) (hbase : base ≤ w.heap.size)
    (h : ∀ A' c' w', w'.ownsRow base 5 1 (.slice A' (L ++ M).length c') (L ++ M).length (bcells (L ++ M)) → w.grownBy w' v.ownBlock → wpList Tryz.prog ops Q rest (a.put (some d) (.slice A' (L ++ M).length c')) w') :
    wpList Tryz.prog ops Q (o :: rest) a w :=
  wpList_plain hgd fun K hK => by
    have := step_appB (K := fun a' w' => wpList Tryz.prog ops Q rest a' w') (Q := Q) (E := True) (ops := ops) hgd d hd s x ho base v L hs hown y M hx hr h63 hbase (fun v' w' h1 h2 => by
      obtain ⟨A', c', rfl, _, _⟩ := own_bat h1
      exact h A' c' w' h1 h2)
    have hw : Region.wanted o (yielded ops a.tmps) = true := by simp [Region.wanted, hgd]
    rw [if_pos hw] at this
    exact Oper.wp_mono (fun a' w' h => hK a' w' h) this
/-- While Bytes of the reference runs. -/
structure RBW (w : World) (i : Ins) (W : World) : Prop where
  h1 : W.heap[w.heap.size]? = some (.cells (encI i).toArray 79 (0, 0))
  be : Below w.heap.size w W
theorem RBW.bel {w W W' : World} {i : Ins} (r : RBW w i W) (hb : Below W.heap.size W W') : RBW w i W' :=
  ⟨(hb.block _ (Array.getElem?_eq_some_iff.1 r.h1).1).trans r.h1, r.be.trans (hb.mono r.be.size)⟩
theorem RBW.cell {w W : World} {i : Ins} (r : RBW w i W) {j : Nat} {v : Value} (hv : (tailI i)[j]? = some v) : W.cell? ⟨w.heap.size, 20 + j, none⟩ = some v := by
  rw [cell_of_row _ _ _ _ 79 (0, 0) r.h1, encI_get]
  exact hv
theorem RBW.grown {w W W' : World} {i : Ins} {ob : Option Nat} (r : RBW w i W) (hg : W.grownBy W' ob) (ho : ∀ k, ob = some k → w.heap.size + 1 ≤ k) : RBW w i W' := by
  have hl := (Array.getElem?_eq_some_iff.1 r.h1).1
  exact ⟨(hg.block _ hl (by intro e; have := ho w.heap.size (by first | exact e | exact e.symm); omega)).trans r.h1, below_ownB r.be r.be.size hg (fun k hk => by have := ho k hk; omega)⟩
theorem own_block {W : World} {base n : Nat} {v : Value} {xs : List UInt8} (h : W.ownsRow base 5 1 v n (bcells xs)) : ∀ k, v.ownBlock = some k → base ≤ k := fun k hk => (h.lt k hk).1
theorem rput_r {w W : World} {i : Ins} {b : List UInt8} {A : Option Addr} {c : Nat} (r : RBW w i W) (ho : W.ownsRow (w.heap.size + 1) 5 1 (.slice A b.length c) b.length (bcells b)) (hl : b.length ≤ 900000) (n k : Nat) (hn : n < 18446744073709551616) (h1 : 1 ≤ k) (h8 : k ≤ 8) {j : Nat} {v : Value} (hv : (tailI i)[j]? = some v) :
    Calls Tryz.prog 26 #[.slice A b.length c, .int .u64 (n : Int), .int .i64 (k : Int)] W fun e W' => ∃ A' c', e = .returned (.slice A' (b ++ putB n k).length c') ∧ RBW w i W' ∧ W'.ownsRow (w.heap.size + 1) 5 1 (.slice A' (b ++ putB n k).length c') (b ++ putB n k).length (bcells (b ++ putB n k)) ∧ W'.cell? ⟨w.heap.size, 20 + j, none⟩ = some v := by
  obtain ⟨A0, c0, e0, hA, _⟩ := own_bat ho
  injection e0 with e0 _ e1
  subst e0 e1
  refine (rput_yes A c n k b W hA (by omega) hn h1 h8).mono ?_
  rintro e w' ⟨v', rfl, ho', hb⟩
  have r2 := r.bel hb
  have hs := (Array.getElem?_eq_some_iff.1 r.h1).1
  obtain ⟨A', c', rfl, _, _⟩ := own_bat ho'
  exact ⟨A', c', rfl, r2, own_baseC ho' (by omega), r2.cell hv⟩
theorem ribytes_any (i : Ins) (hi : i.tgt.length ≤ 100000) (w : World) : Calls Tryz.prog 56 #[.agg (encI i).toArray] w fun e w' => ∃ v, e = .returned (.tuple #[v, .int .i64 (errI i)]) ∧ IsB v (byI i) w' ∧ Below w.heap.size w w' := by
  obtain ⟨W0, hW0⟩ : ∃ W0, W0 = w.alloc (.cells (encI i).toArray 79) := ⟨_, rfl⟩
  have hb0 : Below w.heap.size w W0 := by rw [hW0]; exact (Below.refl _ w).alloc (Nat.le_refl _) _
  have hn : W0.heap[w.heap.size]? = some (.cells (encI i).toArray 79 (0, 0)) := by rw [hW0]; exact heap_alloc_new w _
  have hl0 := (Array.getElem?_eq_some_iff.1 hn).1
  have HK : Hid ((loadVar 79 ⟨w.heap.size, 0, none⟩).run Tryz.prog W0 = .ok (.agg (encI i).toArray) W0) := Lib.hid (fldB hn).all
  have HG : Hid (Calls Tryz.prog 61 #[.agg (encI i).toArray] W0 fun e w' => e = .returned (.bool (goodI i)) ∧ Below W0.heap.size W0 w') := Lib.hid (rgoodI_any i hi W0)
  have HB := Lib.hid hb0
  have HW := Lib.hid hW0
  cases hg : goodI i
  · have HN : Hid (errI i = 2 ∧ byI i = []) := Lib.hid (by unfold errI byI; rw [if_neg (by rw [hg]; simp), if_neg (by rw [hg]; simp)]; exact ⟨rfl, rfl⟩)
    rw [HN.out.1, HN.out.2]
    rw [hg] at HG
    generalize (encI i).toArray = X at *
    clear hn hW0 hb0 hl0
    go_enter Tryz.func56, Tryz.ntmps56
    go_wp2_with (first
      | (rw [← HW.out]; (with_reducible refine wpList_loadV (op := ⟨some 5, _, _, _, _, _⟩) rfl 79 (.tmp 1) rfl _ ?_ _ HK.out ?_); rfl)
      | (go_at_call 61; (with_reducible refine HG.out.mono ?_); rintro e w1 ⟨rfl, hb1⟩))
    refine bodyPost_ret (results_2b rfl _ _ _ _ rfl rfl) rfl ?_
    exact ⟨_, rfl, IsB.nil _, HB.out.trans (hb1.mono HB.out.size)⟩
  · have hlen := goodI_len hg
    have HR1 : Hid (∀ w1, Below W0.heap.size W0 w1 → RBW w i (w1.alloc (.cells #[] 5)) ∧ w.heap.size + 1 ≤ (w1.alloc (.cells #[] 5)).heap.size ∧ (w1.alloc (.cells #[] 5)).ownsRow (w.heap.size + 1) 5 1 (.slice (some ⟨w1.heap.size, 0, none⟩) 0 0) ([] : List UInt8).length (bcells []) ∧ Src Tryz.prog 1 31 (.slice (some ⟨w.heap.size, 0, none⟩) 20 20) i.pub.length (bcells i.pub) (w1.alloc (.cells #[] 5))) := Lib.hid (fun w1 hb1 => by
      have hbb := hb0.trans (hb1.mono hb0.size)
      have r1 : RBW w i w1 := ⟨(hb1.block _ hl0).trans hn, hbb⟩
      have hba : Below w1.heap.size w1 (w1.alloc (.cells #[] 5)) := (Below.refl _ w1).alloc (Nat.le_refl _) _
      have r2 := r1.bel hba
      have hs2 := (Array.getElem?_eq_some_iff.1 r1.h1).1
      have hA : BAt (w1.alloc (.cells #[] 5)) (w1.alloc (.cells #[] 5)).heap.size (some ⟨w.heap.size, 0, none⟩) i.pub := .inr ⟨_, 0, rfl, (Array.getElem?_eq_some_iff.1 r2.h1).1, fun j hj => (range_frontI (show World.rangeAt _ w.heap.size 0 (encI i) from row_range r2.h1)) j _ (bcells_get i.pub j hj)⟩
      have hsrc := hA.src (P := Tryz.prog) (t := 31) Tryz.underlying31 20
      rw [i.hp] at hsrc
      exact ⟨r2, by have := hba.size; omega, ownNone 5 1 (by omega), by rw [i.hp]; exact hsrc⟩)
    obtain ⟨b0, e0⟩ : ∃ b, b = i.pub := ⟨_, rfl⟩
    obtain ⟨b1, e1⟩ : ∃ b, b = b0 ++ putB i.seq 8 := ⟨_, rfl⟩
    obtain ⟨b2, e2⟩ : ∃ b, b = b1 ++ putB i.born 8 := ⟨_, rfl⟩
    obtain ⟨b3, e3⟩ : ∃ b, b = b2 ++ putB i.life 4 := ⟨_, rfl⟩
    obtain ⟨b4, e4⟩ : ∃ b, b = b3 ++ putB (flagN i.gone) 1 := ⟨_, rfl⟩
    obtain ⟨b5, e5⟩ : ∃ b, b = b4 ++ putB i.pri 2 := ⟨_, rfl⟩
    obtain ⟨b6, e6⟩ : ∃ b, b = b5 ++ putB i.wei 2 := ⟨_, rfl⟩
    obtain ⟨b7, e7⟩ : ∃ b, b = b6 ++ putB i.port 2 := ⟨_, rfl⟩
    have l0 : b0.length = 20 := by rw [e0]; exact i.hp
    have l1 : b1.length = 28 := by rw [e1, List.length_append, l0, putB_length]
    have l2 : b2.length = 36 := by rw [e2, List.length_append, l1, putB_length]
    have l3 : b3.length = 40 := by rw [e3, List.length_append, l2, putB_length]
    have l4 : b4.length = 41 := by rw [e4, List.length_append, l3, putB_length]
    have l5 : b5.length = 43 := by rw [e5, List.length_append, l4, putB_length]
    have l6 : b6.length = 45 := by rw [e6, List.length_append, l5, putB_length]
    have l7 : b7.length = 47 := by rw [e7, List.length_append, l6, putB_length]
    rw [← e0] at HR1
    have L0 := Lib.hid l0
    have L3 := Lib.hid l3
    have HL4 : Hid (b3.length + 1 = b4.length) := Lib.hid (by rw [l3, l4])
    have HE4 : Hid (∀ bt : UInt8, bt.toNat = flagN i.gone → b3 ++ [bt] = b4) := Lib.hid (fun bt h => by
      rw [e4]
      congr 1
      have : putB (flagN i.gone) 1 = [UInt8.ofNat (flagN i.gone)] := by simp [putB]
      rw [this, ← h]
      simp)
    have HCL : Hid (∀ W, RBW w i W → W.cell? ⟨w.heap.size, 20, none⟩ = some (.int .u64 (i.seq : Int)) ∧ W.cell? ⟨w.heap.size, 24, none⟩ = some (.int .u16 (i.pri : Int))) := Lib.hid (fun W r => ⟨r.cell (j := 0) rfl, r.cell (j := 4) rfl⟩)
    have C1 : Hid (∀ W A c, RBW w i W → W.ownsRow (w.heap.size + 1) 5 1 (.slice A b0.length c) b0.length (bcells b0) → Calls Tryz.prog 26 #[.slice A b0.length c, .int .u64 (i.seq : Int), .int .i64 8] W fun e W' => ∃ A' c', e = .returned (.slice A' b1.length c') ∧ RBW w i W' ∧ W'.ownsRow (w.heap.size + 1) 5 1 (.slice A' b1.length c') b1.length (bcells b1) ∧ W'.cell? ⟨w.heap.size, 21, none⟩ = some (.int .u64 (i.born : Int))) := Lib.hid (fun W A c r ho => by
      have := rput_r (v := .int .u64 (i.born : Int)) r ho (by omega) i.seq 8 i.hs (by omega) (by omega) (j := 1) rfl
      rw [← e1] at this
      exact this)
    have C2 : Hid (∀ W A c, RBW w i W → W.ownsRow (w.heap.size + 1) 5 1 (.slice A b1.length c) b1.length (bcells b1) → Calls Tryz.prog 26 #[.slice A b1.length c, .int .u64 (i.born : Int), .int .i64 8] W fun e W' => ∃ A' c', e = .returned (.slice A' b2.length c') ∧ RBW w i W' ∧ W'.ownsRow (w.heap.size + 1) 5 1 (.slice A' b2.length c') b2.length (bcells b2) ∧ W'.cell? ⟨w.heap.size, 22, none⟩ = some (.int .u32 (i.life : Int))) := Lib.hid (fun W A c r ho => by
      have := rput_r (v := .int .u32 (i.life : Int)) r ho (by omega) i.born 8 i.hb (by omega) (by omega) (j := 2) rfl
      rw [← e2] at this
      exact this)
    have C3 : Hid (∀ W A c, RBW w i W → W.ownsRow (w.heap.size + 1) 5 1 (.slice A b2.length c) b2.length (bcells b2) → Calls Tryz.prog 26 #[.slice A b2.length c, .int .u64 (i.life : Int), .int .i64 4] W fun e W' => ∃ A' c', e = .returned (.slice A' b3.length c') ∧ RBW w i W' ∧ W'.ownsRow (w.heap.size + 1) 5 1 (.slice A' b3.length c') b3.length (bcells b3) ∧ W'.cell? ⟨w.heap.size, 23, none⟩ = some (.bool i.gone)) := Lib.hid (fun W A c r ho => by
      have := rput_r (v := .bool i.gone) r ho (by omega) i.life 4 (by have := i.hl; omega) (by omega) (by omega) (j := 3) rfl
      rw [← e3] at this
      exact this)
    have C5 : Hid (∀ W A c, RBW w i W → W.ownsRow (w.heap.size + 1) 5 1 (.slice A b4.length c) b4.length (bcells b4) → Calls Tryz.prog 26 #[.slice A b4.length c, .int .u64 (i.pri : Int), .int .i64 2] W fun e W' => ∃ A' c', e = .returned (.slice A' b5.length c') ∧ RBW w i W' ∧ W'.ownsRow (w.heap.size + 1) 5 1 (.slice A' b5.length c') b5.length (bcells b5) ∧ W'.cell? ⟨w.heap.size, 25, none⟩ = some (.int .u16 (i.wei : Int))) := Lib.hid (fun W A c r ho => by
      have := rput_r (v := .int .u16 (i.wei : Int)) r ho (by omega) i.pri 2 (by have := i.h1; omega) (by omega) (by omega) (j := 5) rfl
      rw [← e5] at this
      exact this)
    have C6 : Hid (∀ W A c, RBW w i W → W.ownsRow (w.heap.size + 1) 5 1 (.slice A b5.length c) b5.length (bcells b5) → Calls Tryz.prog 26 #[.slice A b5.length c, .int .u64 (i.wei : Int), .int .i64 2] W fun e W' => ∃ A' c', e = .returned (.slice A' b6.length c') ∧ RBW w i W' ∧ W'.ownsRow (w.heap.size + 1) 5 1 (.slice A' b6.length c') b6.length (bcells b6) ∧ W'.cell? ⟨w.heap.size, 26, none⟩ = some (.int .u16 (i.port : Int))) := Lib.hid (fun W A c r ho => by
      have := rput_r (v := .int .u16 (i.port : Int)) r ho (by omega) i.wei 2 (by have := i.h2; omega) (by omega) (by omega) (j := 6) rfl
      rw [← e6] at this
      exact this)
    have C7 : Hid (∀ W A c, RBW w i W → W.ownsRow (w.heap.size + 1) 5 1 (.slice A b6.length c) b6.length (bcells b6) → Calls Tryz.prog 26 #[.slice A b6.length c, .int .u64 (i.port : Int), .int .i64 2] W fun e W' => ∃ A' c', e = .returned (.slice A' b7.length c') ∧ RBW w i W' ∧ W'.ownsRow (w.heap.size + 1) 5 1 (.slice A' b7.length c') b7.length (bcells b7) ∧ W'.cell? ⟨w.heap.size, 27, none⟩ = some (.string (bstr i.tgt))) := Lib.hid (fun W A c r ho => by
      have := rput_r (v := .string (bstr i.tgt)) r ho (by omega) i.port 2 (by have := i.h3; omega) (by omega) (by omega) (j := 7) rfl
      rw [← e7] at this
      exact this)
    have C8 : Hid (∀ W A c, RBW w i W → W.ownsRow (w.heap.size + 1) 5 1 (.slice A b7.length c) b7.length (bcells b7) → Calls Tryz.prog 82 #[.slice A b7.length c, .string (bstr i.tgt)] W fun e w' => ∃ v, e = .returned (.tuple #[v, .int .i64 0]) ∧ IsB v (b7 ++ (putB i.tgt.length 2 ++ i.tgt)) w' ∧ Below w.heap.size w w') := Lib.hid (fun W A c r ho => by
      obtain ⟨A0, c0, e0, hA, _⟩ := own_bat ho
      injection e0 with e0 _ e1
      subst e0 e1
      refine (rtext_yes A c b7 (bstr i.tgt) W hA (by omega) (by rw [bstr_size]; omega)).mono ?_
      rintro e w' ⟨v, rfl, ho, hb⟩
      have e8 : (bstr i.tgt).data.toList = i.tgt := by simp [bstr]
      rw [bstr_size, e8] at ho
      exact ⟨v, rfl, IsB.of_own ho, r.be.trans (hb.mono r.be.size)⟩)
    have HEr : Hid (errI i = 0) := Lib.hid (by unfold errI; rw [if_pos hg])
    have HBy : Hid (byI i = if i.gone = true then b4 else b7 ++ (putB i.tgt.length 2 ++ i.tgt)) := Lib.hid (by unfold byI; rw [if_pos hg]; unfold bytesI headB; rw [e7, e6, e5, e4, e3, e2, e1, e0])
    have q2 : (i.life : Int) % 18446744073709551616 = i.life := by have := i.hl; omega
    have q2' : i.life % 18446744073709551616 = i.life := by have := i.hl; omega
    have q5 : i.pri % 18446744073709551616 = i.pri := by have := i.h1; omega
    have q6 : i.wei % 18446744073709551616 = i.wei := by have := i.h2; omega
    have q7 : i.port % 18446744073709551616 = i.port := by have := i.h3; omega
    rw [HEr.out]
    rw [hg] at HG
    -- the bytes so far, behind each append
    have HAP : Hid (∀ (W : World) (A : Option Addr) (c : Nat) (W' : World), RBW w i W → W.ownsRow (w.heap.size + 1) 5 1 (.slice A b3.length c) b3.length (bcells b3) → (W.alloc (.cells #[.int .u8 (flagN i.gone : Int)] 5)).grownBy W' (Value.slice A b3.length c).ownBlock → RBW w i W') := Lib.hid (fun W A c W' r ho hg => by
      have hba : Below W.heap.size W (W.alloc (.cells #[.int .u8 (flagN i.gone : Int)] 5)) := (Below.refl _ W).alloc (Nat.le_refl _) _
      exact (r.bel hba).grown hg (own_block ho))
    have HSB : Hid (∀ W : World, RBW w i W → w.heap.size + 1 ≤ (W.alloc (.cells #[.int .u8 (flagN i.gone : Int)] 5)).heap.size) := Lib.hid (fun W r => by
      have hs := (Array.getElem?_eq_some_iff.1 r.h1).1
      simp
      omega)
    generalize hXX : (encI i).toArray = X at *
    generalize byI i = R at *
    generalize bstr i.tgt = T at *
    generalize (putB i.tgt.length 2 ++ i.tgt) = TB at *
    generalize i.seq = f0 at *
    generalize i.born = f1 at *
    generalize i.life = f2 at *
    generalize i.pri = f4 at *
    generalize i.wei = f5 at *
    generalize i.port = f6 at *
    generalize i.gone = gn at *
    clear hn hW0 hb0 hl0 hlen e0 e1 e2 e3 e4 e5 e6 e7 hXX l0 l1 l2 l3 l4 l5 l6 l7
    cases gn
    · have hR := HBy.out
      simp only [Bool.false_eq_true, if_false] at hR
      subst hR
      clear HBy
      go_enter Tryz.func56, Tryz.ntmps56
      go_upto_region 3 with (first
        | (rw [← HW.out]; (with_reducible refine wpList_loadV (op := ⟨some 5, _, _, _, _, _⟩) rfl 79 (.tmp 1) rfl _ ?_ _ HK.out ?_); rfl)
        | (go_at_call 61; (with_reducible refine HG.out.mono ?_); rintro e w1 ⟨rfl, hb1⟩))
      obtain ⟨r0, hs0, ho0, hsrc0⟩ := HR1.out _ hb1
      clear HR1 HG HK HW
      go_upto_region 4 with (first
        | (with_reducible refine wpList_noneB (o := ⟨some 8, _, _, _, _, _⟩) rfl 8 rfl rfl ?_)
        | (at_builtin; (refine wpList_appB (o := ⟨some 11, _, _, _, _, _⟩) rfl 11 rfl (.tmp 8) (.tmp 10) rfl (w.heap.size + 1) (.slice (some ⟨w1.heap.size, 0, none⟩) 0 0) [] ?_ ho0 _ b0 ?_ hsrc0 ?_ hs0 ?_); rfl; rfl; (rw [L0.out]; simp); intro A1 c1 w2 ho1 hg1))
      have r1 := r0.grown hg1 (own_block (xs := []) ho0)
      have hc1 := (HCL.out _ r1).1
      rw [List.nil_append] at ho1
      (try rw [List.nil_append])
      clear hb1 r0 hs0 ho0 hsrc0 hg1
      go_upto_region 10 with (first
        | (go_at_call 26; (with_reducible refine (C1.out _ _ _ r1 ho1).mono ?_); rintro e w3 ⟨A3, k3, rfl, r3, ho3, hc3⟩)
        | (go_at_call 26; (with_reducible refine (C2.out _ _ _ r3 ho3).mono ?_); rintro e w4 ⟨A4, k4, rfl, r4, ho4, hc4⟩)
        | (go_at_call 26; (with_reducible refine (C3.out _ _ _ r4 ho4).mono ?_); rintro e w5 ⟨A5, k5, rfl, r5, ho5, hc5⟩)
        | (at_builtin; (refine wpList_appB (o := ⟨some 32, _, _, _, _, _⟩) rfl 32 rfl (.tmp 30) (.tmp 31) rfl (w.heap.size + 1) (.slice A5 b3.length k5) b3 ?_ (ho5.alloc _) _ [0] ?_ (src_one Tryz.underlying31 _ _ _ _ rfl) ?_ (HSB.out _ r5) ?_); rfl; rfl; (rw [L3.out]; simp); intro A6 c6 w6 ho6 hg6))
      have r6 := HAP.out _ _ _ _ r5 ho5 hg6
      have hc6 := (HCL.out _ r6).2
      have hb4 := HE4.out 0 rfl
      rw [hb4] at ho6
      rw [HL4.out]
      clear HE4 HAP hg6 HSB C1 C2 C3 hb4
      go_wp2_with (first
        | (go_at_call 26; (with_reducible refine (C5.out _ _ _ r6 ho6).mono ?_); rintro e w7 ⟨A7, k7, rfl, r7, ho7, hc7⟩)
        | (go_at_call 26; (with_reducible refine (C6.out _ _ _ r7 ho7).mono ?_); rintro e w8 ⟨A8, k8, rfl, r8, ho8, hc8⟩)
        | (go_at_call 26; (with_reducible refine (C7.out _ _ _ r8 ho8).mono ?_); rintro e w9 ⟨A9, k9, rfl, r9, ho9, hc9⟩)
        | (go_at_call 82; (with_reducible refine (C8.out _ _ _ r9 ho9).mono ?_); rintro e w11 ⟨v11, rfl, hv11, hb11⟩))
      refine bodyPost_ret (results_2b rfl _ _ _ _ rfl rfl) rfl ?_
      exact ⟨_, rfl, hv11, hb11⟩
    · have hR := HBy.out
      simp only [if_true] at hR
      subst hR
      clear HBy
      go_enter Tryz.func56, Tryz.ntmps56
      go_upto_region 3 with (first
        | (rw [← HW.out]; (with_reducible refine wpList_loadV (op := ⟨some 5, _, _, _, _, _⟩) rfl 79 (.tmp 1) rfl _ ?_ _ HK.out ?_); rfl)
        | (go_at_call 61; (with_reducible refine HG.out.mono ?_); rintro e w1 ⟨rfl, hb1⟩))
      obtain ⟨r0, hs0, ho0, hsrc0⟩ := HR1.out _ hb1
      clear HR1 HG HK HW
      go_upto_region 4 with (first
        | (with_reducible refine wpList_noneB (o := ⟨some 8, _, _, _, _, _⟩) rfl 8 rfl rfl ?_)
        | (at_builtin; (refine wpList_appB (o := ⟨some 11, _, _, _, _, _⟩) rfl 11 rfl (.tmp 8) (.tmp 10) rfl (w.heap.size + 1) (.slice (some ⟨w1.heap.size, 0, none⟩) 0 0) [] ?_ ho0 _ b0 ?_ hsrc0 ?_ hs0 ?_); rfl; rfl; (rw [L0.out]; simp); intro A1 c1 w2 ho1 hg1))
      have r1 := r0.grown hg1 (own_block (xs := []) ho0)
      have hc1 := (HCL.out _ r1).1
      rw [List.nil_append] at ho1
      (try rw [List.nil_append])
      clear hb1 r0 hs0 ho0 hsrc0 hg1
      go_wp2_with (first
        | (go_at_call 26; (with_reducible refine (C1.out _ _ _ r1 ho1).mono ?_); rintro e w3 ⟨A3, k3, rfl, r3, ho3, hc3⟩)
        | (go_at_call 26; (with_reducible refine (C2.out _ _ _ r3 ho3).mono ?_); rintro e w4 ⟨A4, k4, rfl, r4, ho4, hc4⟩)
        | (go_at_call 26; (with_reducible refine (C3.out _ _ _ r4 ho4).mono ?_); rintro e w5 ⟨A5, k5, rfl, r5, ho5, hc5⟩)
        | (at_builtin; (refine wpList_appB (o := ⟨some 29, _, _, _, _, _⟩) rfl 29 rfl (.tmp 27) (.tmp 28) rfl (w.heap.size + 1) (.slice A5 b3.length k5) b3 ?_ (ho5.alloc _) _ [1] ?_ (src_one Tryz.underlying31 _ _ _ _ rfl) ?_ (HSB.out _ r5) ?_); rfl; rfl; (rw [L3.out]; simp); intro A6 c6 w6 ho6 hg6))
      have r6 := HAP.out _ _ _ _ r5 ho5 hg6
      have hb4 := HE4.out 1 rfl
      rw [hb4] at ho6
      refine bodyPost_ret (results_2b rfl _ _ _ _ rfl rfl) rfl ?_
      rw [HL4.out]
      exact ⟨_, rfl, IsB.of_own ho6, r6.be⟩
end Go.Proofs.YtehgpnnfjgmiiaaGreat
end
section
namespace Go.Proofs.YtehgpnnfjgmiiaaGreat
open Go.Shelf Go.RowKit Go.Lib Go.Great
set_option maxRecDepth 100000
set_option maxHeartbeats 400000
theorem IAt.src {w : World} {B : Nat} {A : Option Addr} {L : List Ins} {t e : TypeId} (hT : InsT t e) (h : IAt w B A L) (c : Nat) : Src Tryz.prog 28 t (.slice A L.length c) L.length (flatE encI L) w := by
  cases A with
  | none =>
    rcases h with rfl | ⟨g, off, e, _⟩
    · exact Src.ofNil w hT.und c
    · cases e
  | some x =>
    refine Src.ofSlice w hT.und x L.length c (flatE encI L) (by rw [flatE_length encI_length]) (fun j u hu => ?_) (flatE_one _)
    rcases h with rfl | ⟨g, off, e, _, hr⟩
    · simp [flatE] at hu
    · injection e with e
      subst e
      rw [Addr.add_mid]
      exact hr j u hu
theorem wpList_build_noneI {t e : TypeId} (hT : InsT t e) {w : World} {ops : Array Oper} {rest : List Oper} {o : Oper} {a : Act} {Q : Exit → Act → World → Prop} (hgd : o.guard = none) (ho : o.op = .buildSlice t 0 #[])
    (h : wpList Tryz.prog ops Q rest (a.put o.dst (.slice (some ⟨w.heap.size, 0, none⟩) 0 0)) (w.alloc (.cells #[] e))) : wpList Tryz.prog ops Q (o :: rest) a w :=
  wpList_plain hgd fun _ hK => by
    unfold Oper.wp execOp
    simp only [ho, List.map_toArray, List.map_nil, Sem.run_bind, run_build_noneI hT, Result.andThen_ok, Sem.run_pure]
    exact hK _ _ h
theorem OwnR.be {w W : World} {M : List Ins} {v : Value} (h : OwnR w M W v) : Below w.heap.size w W := h.2
end Go.Proofs.YtehgpnnfjgmiiaaGreat
end
section
namespace Go.Proofs.YtehgpnnfjgmiiaaGreat
open Go.Shelf Go.RowKit Go.Lib Go.Great
set_option maxRecDepth 100000
set_option maxHeartbeats 400000
theorem src_newI {t e : TypeId} (hT : InsT t e) (x : Ins) (w : World) : Src Tryz.prog 28 t (.slice (some ⟨w.heap.size, 0, none⟩) 1 1) 1 (flatE encI [x]) (w.alloc (.cells (encI x).toArray e)) := by
  refine Src.ofSlice _ hT.und _ 1 1 (flatE encI [x]) (by rw [flatE_length encI_length]; rfl) (fun j u hu => ?_) (flatE_one _)
  rw [Addr.add_mid]
  have e1 : flatE encI [x] = encI x := by unfold flatE; simp
  rw [e1] at hu
  exact row_range (heap_alloc_new w (.cells (encI x).toArray e)) j u hu
/-- A row of its own beyond what was there. -/
structure GroR (w1 : World) (W : World) (v : Value) (o : List Ins) : Prop where
  be : Below w1.heap.size w1 W
  own : W.ownsRow w1.heap.size 79 28 v o.length (flatE encI o)
section
variable {w1 W W' : World} {v v' : Value} {o : List Ins}
theorem GroR.start (w1 : World) : GroR w1 w1 (.slice none 0 0) [] := ⟨Below.refl _ _, World.ownsRow_nil w1 _ 79 28⟩
theorem GroR.bel (h : GroR w1 W v o) (hb : Below W.heap.size W W') : GroR w1 W' v o := ⟨h.be.trans (hb.mono h.be.size), own_bel h.own hb⟩
theorem GroR.lay (h : GroR w1 W v o) (x : Ins) : GroR w1 (W.alloc (.cells (encI x).toArray 79)) v o ∧ w1.heap.size ≤ (W.alloc (.cells (encI x).toArray 79)).heap.size := by
  have h2 := h.bel ((Below.refl _ W).alloc (Nat.le_refl _) (.cells (encI x).toArray 79))
  exact ⟨h2, h2.be.size⟩
theorem GroR.push (h : GroR w1 W v o) (M : List Ins) (hg : W.grownBy W' v.ownBlock) (ho : W'.ownsRow w1.heap.size 79 28 v' (o ++ M).length (flatE encI (o ++ M))) : GroR w1 W' v' (o ++ M) :=
  ⟨below_ownB h.be h.be.size hg (fun k hk => (h.own.lt k hk).1), ho⟩
theorem GroR.out {w : World} (h : GroR w1 W v o) (hb : Below w.heap.size w w1) : OwnR w o W v := ⟨own_baseC h.own hb.size, hb.trans (h.be.mono hb.size)⟩
end
end Go.Proofs.YtehgpnnfjgmiiaaGreat
end
