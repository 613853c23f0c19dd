/- Contract of the reference's laid of layer span. Conditions: an id has 20 bytes. Contracts of the reference's Good and Decimal of layer addr. No condition. Contract of the reference's Bytes of layer addr. Conditions: a host fits 32 bits, a port 16. Contract of the reference's Read of layer addr. Conditions: fewer than 1000000 bytes. Contracts of Good, Bytes and Cmp of package addr. Conditions: hosts fit 32 bits, ports 16. Contract of Read of package addr. Conditions: fewer than 900,000 bytes. -/
import Derived.Test.YtehgpnnfjgmiiaaGreatYOja
import Derived.Test.YtehgpnnfjgmiiaaGreatYOcb
import Derived.Test.YtehgpnnfjgmiiaaGreatYOga
import Derived.Test.YtehgpnnfjgmiiaaGreatYRIis
import Derived.Test.YtehgpnnfjgmiiaaGreatYRERefc
import Derived.Test.YtehgpnnfjgmiiaaGreatYRIip
import Derived.Test.YtehgpnnfjgmiiaaGreatYREOcta
import Derived.Test.YtehgpnnfjgmiiaaGreatYNCcc
import Derived.Deep.RegionHeld3
import Derived.Test.YtehgpnnfjgmiiaaGreatYNCsa
import Derived.WalkKit
import Derived.Deep.AppendSrc
import Derived.Laws.BytesString
import Derived.Laws.CopyOwn
import Derived.Deep.AppendLies
import Derived.Deep.Draws
import Derived.WalkSpells
import Derived.Test.YtehgpnnfjgmiiaaGreatRows
import Derived.WalkLawsBesides
import Derived.Lib.Hide
import Derived.Outline
import Derived.Laws.BitsAllLaws
import Derived.Laws.BitsLemmas
import Derived.Laws.Bits64
import Derived.LoopTactic
import Derived.Deep.MidRow
import Derived.BigQuiet
import Derived.RegionTactic
import Derived.RegionCalls
import Derived.Deep.QuietTactic
import Derived.Deep.DeepCutAuto
import Derived.Great.BuildSlice
import Derived.Lib.SlBytesConst
import Derived.Stop.BytesEq
import Derived.Lib.ConvBytes
import Derived.StillTailTactics
import Derived.Sort.Grow
import Derived.Shelf.SlicesE.Clone
import Derived.Lib.OwnBridge
import Derived.Lib.SliceRun
import Derived.Below
import Derived.ProofKit
import Derived.OpenShut
import Derived.Laws.Tables
import Derived.Shelf.LaysM
import Derived.Test.YtehgpnnfjgmiiaaGreatProg
section
namespace Go.Proofs.YtehgpnnfjgmiiaaGreat
set_option maxRecDepth 100000
set_option maxHeartbeats 1000000
open Go.RowKit Go.Lib Go.Great

theorem results_cell_tmpS {fn : Func} {p q : Tmp} {ty : TypeId} (h : fn.results = #[.cell p ty, .tmp q]) {P : Program} (tmps : Array Value) (w : World) (b o : Nat) (cs : List Value) (d : TypeDesc) (v : Value) (hp : tmps.getD p undef = .pointer (some ⟨b, o, none⟩)) (hq : tmps.getD q undef = v)
    (hc : w.rangeAt b o cs) (hu : P.underlying ty = some d) (hd : d.isRow = true) (hi : (P.info? ty).map (·.size) = some cs.length) : (results fn tmps).run P w = .ok (.tuple #[.agg cs.toArray, v]) w := by
  have h1 := run_loadVar_mid (P := P) w b o ty cs d hc hu hd hi
  have hp' : tmps[p]?.getD undef = .pointer (some ⟨b, o, none⟩) := by simpa using hp
  have hq' : tmps[q]?.getD undef = v := by simpa using hq
  simp [results, h, hp', hq', h1, asAddr]
end Go.Proofs.YtehgpnnfjgmiiaaGreat
end
section
namespace Go.Proofs.YtehgpnnfjgmiiaaGreat
set_option maxRecDepth 100000
set_option maxHeartbeats 1000000
open Go.RowKit Go.Lib Go.Great

/-- An address as a value. -/
def adr (h p : Nat) : Array Value := #[.int .u32 (h : Int), .int .u16 (p : Int)]
def goodB (h p : Nat) : Bool := decide (h ≠ 0 ∧ p ≠ 0)
end Go.Proofs.YtehgpnnfjgmiiaaGreat
end
section
namespace Go.Proofs.YtehgpnnfjgmiiaaGreat
set_option maxRecDepth 100000
set_option maxHeartbeats 1000000
open Go.RowKit Go.Lib Go.Great

/-- v is a slice of these bytes. -/
def BsIs (xs : List UInt8) (v : Value) (W : World) : Prop := ∃ A c, v = .slice A xs.length c ∧ xs.length ≤ c ∧ BAt W W.heap.size A xs
theorem BsIs.keep {xs : List UInt8} (v : Value) (w w' : World) (hb : Below w.heap.size w w') (h : BsIs xs v w) : BsIs xs v w' := by
  obtain ⟨A, c, h1, h2, h3⟩ := h
  refine ⟨A, c, h1, h2, ?_⟩
  rcases h3 with rfl | ⟨g, off, rfl, hg, hc⟩
  · exact .inl rfl
  · exact .inr ⟨g, off, rfl, Nat.lt_of_lt_of_le hg hb.size, fun j hj => by rw [World.cell?_of_block (w := w) (w' := w') (a := ⟨g, off + j, none⟩) (hb.block g hg)]; exact hc j hj⟩
theorem BsIs.of_own {base n : Nat} {v : Value} {xs : List UInt8} {W : World} (h : W.ownsRow base 5 1 v n (bcells xs)) : BsIs xs v W := by
  have hl := h.1
  rw [bcells_length, Nat.mul_one] at hl
  rcases h.2 with ⟨rfl, h0⟩ | ⟨g, cap, cur, rfl, hb, hg, hc, _⟩
  · have hL : xs = [] := List.eq_nil_of_length_eq_zero (by omega)
    subst hL
    exact ⟨none, 0, rfl, Nat.le_refl _, .inl rfl⟩
  · refine ⟨_, cap, by rw [hl], by omega, .inr ⟨g, 0, rfl, (Array.getElem?_eq_some_iff.1 hg).1, fun j hj => ?_⟩⟩
    have := h.cells (g := g) rfl j (.int .u8 (xs[j].toNat : Int)) (by rw [bcells_get xs j hj])
    rwa [Addr.add_mid] at this
/-- The bytes of an address. -/
def adB (h p : Nat) : List UInt8 := putB h 4 ++ putB p 2
end Go.Proofs.YtehgpnnfjgmiiaaGreat
end
section
namespace Go.Proofs.YtehgpnnfjgmiiaaGreat
set_option maxRecDepth 100000
set_option maxHeartbeats 1000000
open Go.RowKit Go.Lib Go.Great

/-- What Read tells. -/
def readV (xs : List UInt8) : Value :=
  if xs.length = 6 ∧ getN (xs.take 4) ≠ 0 ∧ getN ((xs.drop 4).take 2) ≠ 0 then .tuple #[.agg (adr (getN (xs.take 4)) (getN ((xs.drop 4).take 2))), .int .i64 0] else .tuple #[.agg (adr 0 0), .int .i64 10]
end Go.Proofs.YtehgpnnfjgmiiaaGreat
end
section
namespace Go.Proofs.YtehgpnnfjgmiiaaGreat
set_option maxRecDepth 100000
set_option maxHeartbeats 1000000
open Go.RowKit Go.Lib Go.Great

theorem good_any (h p : Nat) (w : World) : Calls Tryz.prog 124 #[.agg (adr h p)] w fun e w' => e = .returned (.bool (goodB h p)) ∧ Below w.heap.size w w' := by
  unfold adr goodB
  have hb : Hid (Below w.heap.size w (w.alloc (.cells #[.int .u32 (h : Int), .int .u16 (p : Int)] 61))) := Lib.hid ((Below.refl _ w).alloc (Nat.le_refl _) _)
  by_cases h0 : h = 0
  · subst h0
    go_enter Tryz.func124, Tryz.ntmps124
    go_wp2
    go_ret
    exact ⟨by simp, hb.out⟩
  · have h0' : ¬ (h : Int) = 0 := by omega
    by_cases p0 : p = 0
    · subst p0
      go_enter Tryz.func124, Tryz.ntmps124
      go_wp2
      go_ret
      exact ⟨by simp, hb.out⟩
    · have p0' : ¬ (p : Int) = 0 := by omega
      go_enter Tryz.func124, Tryz.ntmps124
      go_wp2
      go_ret
      exact ⟨by simp [h0, p0], hb.out⟩
theorem bytes_any (h p : Nat) (hh : h < 4294967296) (hp : p < 65536) (w : World) : Calls Tryz.prog 99 #[.agg (adr h p)] w fun e w' => ∃ v, e = .returned v ∧ BsIs (adB h p) v w' ∧ Below w.heap.size w w' := by
  unfold adr
  have hb0 : Below w.heap.size w (w.alloc (.cells #[.int .u32 (h : Int), .int .u16 (p : Int)] 61)) := (Below.refl _ w).alloc (Nat.le_refl _) _
  obtain ⟨W0, hW0⟩ : ∃ W0, W0 = w.alloc (.cells #[.int .u32 (h : Int), .int .u16 (p : Int)] 61) := ⟨_, rfl⟩
  have h0 := heap_alloc_new w (.cells #[.int .u32 (h : Int), .int .u16 (p : Int)] 61)
  rw [← hW0] at hb0 h0
  have g0 := (Array.getElem?_eq_some_iff.1 h0).1
  have C0 : Hid (∀ W, Below W0.heap.size W0 W → W.cell? ⟨w.heap.size, 0, none⟩ = some (.int .u32 (h : Int))) := Lib.hid (fun W hW => by
    rw [cell_of_row W _ 0 _ 61 (0, 0) ((hW.block _ g0).trans h0)]; rfl)
  have C1 : Hid (∀ W, Below W0.heap.size W0 W → W.cell? ⟨w.heap.size, 1, none⟩ = some (.int .u16 (p : Int))) := Lib.hid (fun W hW => by
    rw [cell_of_row W _ 1 _ 61 (0, 0) ((hW.block _ g0).trans h0)]; rfl)
  have P1 : Hid (∀ W, Below W0.heap.size W0 W → Calls Tryz.prog 22 #[.slice none 0 0, .int .u64 (h : Int), .int .i64 4] W fun e w' => ∃ v, e = .returned v ∧ Below W0.heap.size W0 w' ∧ Below W.heap.size W w' ∧ BsIs (putB h 4) v w') := Lib.hid (fun W hW => by
    refine (put_yes none 0 h 4 [] W (.inl rfl) (by simp) (by omega) (by omega) (by omega)).mono ?_
    rintro e w' ⟨v, rfl, k1, k2⟩
    exact ⟨v, rfl, hW.trans (k2.mono hW.size), k2, BsIs.of_own k1⟩)
  have P2 : Hid (∀ u W, BsIs (putB h 4) u W → Below W0.heap.size W0 W → Calls Tryz.prog 22 #[u, .int .u64 (p : Int), .int .i64 2] W fun e w' => ∃ v, e = .returned v ∧ Below W0.heap.size W0 w' ∧ Below W.heap.size W w' ∧ BsIs (adB h p) v w') := Lib.hid (fun u W hu hW => by
    obtain ⟨A, c, rfl, _, hA⟩ := hu
    refine (put_yes A c p 2 (putB h 4) W hA (by rw [putB_length]; omega) (by omega) (by omega) (by omega)).mono ?_
    rintro e w' ⟨v, rfl, k1, k2⟩
    exact ⟨v, rfl, hW.trans (k2.mono hW.size), k2, BsIs.of_own k1⟩)
  have HSa : Hid (Below W0.heap.size W0 W0.drew) := Lib.hid (Below.refl _ _).drew
  have HW1 : Hid (IntKind.u64.wrap (h : Int) = (h : Int)) := Lib.hid (by simp only [IntKind.wrap, IntKind.bits, IntKind.signed]; simp; omega)
  have HW2 : Hid (IntKind.u64.wrap (p : Int) = (p : Int)) := Lib.hid (by simp only [IntKind.wrap, IntKind.bits, IntKind.signed]; simp; omega)
  have HW := Lib.hid hW0
  have HB0 := Lib.hid hb0
  clear hb0 hW0 h0 g0
  go_enter Tryz.func99, Tryz.ntmps99
  go_upto_region 1 with fail
  rw [← HW.out]
  refine wp_region_noPanic ?_
  refine wp_region_held_drew (S := fun w' => Below W0.heap.size W0 w') (by kernel_rfl) HSa.out (fun hHeld => ?_)
  refine takeH_at 0 3 (v := ?_) rfl rfl (by kernel_rfl) (by kernel_rfl) (by kernel_rfl) (fun _ _ _ h => h) (Or.inl ⟨by rfl, ?_⟩) (by assumption) ?_
  rotate_left
  · (intro wx hSw; clear hSw; go_simp) <;> with_reducible rfl
  simp only [Act.put, List.setIfInBounds_toArray, List.set_cons_zero, List.set_cons_succ]
  refine takeH_at 1 4 (v := ?_) rfl rfl (by kernel_rfl) (by kernel_rfl) (by kernel_rfl) (fun _ _ _ h => h) (Or.inl ⟨by rfl, ?_⟩) (by assumption) ?_
  rotate_left
  · (intro wx hSw; have c0 := C0.out wx hSw; clear hSw; go_simp) <;> with_reducible rfl
  simp only [Act.put, List.setIfInBounds_toArray, List.set_cons_zero, List.set_cons_succ]
  refine takeH_at 2 5 (v := ?_) rfl rfl (by kernel_rfl) (by kernel_rfl) (by kernel_rfl) (fun _ _ _ h => h) (Or.inl ⟨by rfl, ?_⟩) (by assumption) ?_
  rotate_left
  · (intro wx hSw; clear hSw; go_simp) <;> with_reducible rfl
  simp only [Act.put, List.setIfInBounds_toArray, List.set_cons_zero, List.set_cons_succ]
  rw [HW1.out]
  refine takeH_at 4 7 (v := ?_) rfl rfl (by kernel_rfl) (by kernel_rfl) (by kernel_rfl) (fun _ _ _ h => h) (Or.inl ⟨by rfl, ?_⟩) (by assumption) ?_
  rotate_left
  · (intro wx hSw; clear hSw; go_simp) <;> with_reducible rfl
  simp only [Act.put, List.setIfInBounds_toArray, List.set_cons_zero, List.set_cons_succ]
  refine takeH_at 5 8 (v := ?_) rfl rfl (by kernel_rfl) (by kernel_rfl) (by kernel_rfl) (fun _ _ _ h => h) (Or.inl ⟨by rfl, ?_⟩) (by assumption) ?_
  rotate_left
  · (intro wx hSw; have c0 := C1.out wx hSw; clear hSw; go_simp) <;> with_reducible rfl
  simp only [Act.put, List.setIfInBounds_toArray, List.set_cons_zero, List.set_cons_succ]
  refine takeH_at 6 9 (v := ?_) rfl rfl (by kernel_rfl) (by kernel_rfl) (by kernel_rfl) (fun _ _ _ h => h) (Or.inl ⟨by rfl, ?_⟩) (by assumption) ?_
  rotate_left
  · (intro wx hSw; clear hSw; go_simp) <;> with_reducible rfl
  simp only [Act.put, List.setIfInBounds_toArray, List.set_cons_zero, List.set_cons_succ]
  rw [HW2.out]
  refine single 3 6 rfl rfl (by kernel_rfl) (by rfl) (BsIs (putB h 4)) (looseR_call 22 rfl (enters_of Tryz.func22 (by kernel_rfl) rfl) _ (by simp only [List.map_toArray, List.map_cons, List.map_nil]; rfl) (P1.out _ hHeld)) ?_
  intro u wa hSa hba hu
  simp only [Act.put, List.setIfInBounds_toArray, List.set_cons_zero, List.set_cons_succ]
  refine single 7 10 rfl rfl (by kernel_rfl) (by rfl) (BsIs (adB h p)) (looseR_call 22 rfl (enters_of Tryz.func22 (by kernel_rfl) rfl) _ (by simp only [List.map_toArray, List.map_cons, List.map_nil]; rfl) (P2.out u wa hu hSa)) ?_
  intro v wb hSb hbb hv
  simp only [Act.put, List.setIfInBounds_toArray, List.set_cons_zero, List.set_cons_succ]
  refine takeH_at 8 2 (v := ?_) rfl rfl (by kernel_rfl) (by kernel_rfl) (by kernel_rfl) (fun _ _ _ h => h) (Or.inl ⟨by rfl, ?_⟩) (by assumption) ?_
  rotate_left
  · (intro wx hSw; clear hSw; go_simp) <;> with_reducible rfl
  simp only [Act.put, List.setIfInBounds_toArray, List.set_cons_zero, List.set_cons_succ]
  refine wpAnyH_done (by kernel_rfl) ?_ _
  refine NoPanic.normal ?_
  have HF := Lib.hid (HB0.out.trans (hSb.mono HB0.out.size))
  have HV := Lib.hid hv
  clear hSb hbb hv hu hSa hba P1 P2 C0 C1
  go_wp2
  go_ret
  exact ⟨_, rfl, HV.out, HF.out⟩

end Go.Proofs.YtehgpnnfjgmiiaaGreat
end
section
namespace Go.Proofs.YtehgpnnfjgmiiaaGreat
set_option maxRecDepth 100000
set_option maxHeartbeats 1000000
open Go.RowKit Go.Lib Go.Great

theorem size25 : (Tryz.prog.info? 61).map (·.size) = some 2 := by kernel_rfl
/-- What is read of bytes, number by number. -/
theorem read_facts (xs : List UInt8) : ∃ a b : Nat, a < 4294967296 ∧ b < 65536 ∧ numV ⟨xs, false⟩ 4 = a ∧ numV (numS ⟨xs, false⟩ 4) 2 = b ∧
    ((doneE (numS (numS ⟨xs, false⟩ 4) 2) = 10 ∧ readV xs = .tuple #[.agg (adr 0 0), .int .i64 10]) ∨ (doneE (numS (numS ⟨xs, false⟩ 4) 2) = 0 ∧ readV xs = if a ≠ 0 ∧ b ≠ 0 then .tuple #[.agg (adr a b), .int .i64 0] else .tuple #[.agg (adr 0 0), .int .i64 10])) := by
  have hlt4 : ∀ ys : List UInt8, getN (ys.take 4) < 4294967296 := fun ys => by
    have := getN_lt (ys.take 4)
    have hl : (ys.take 4).length ≤ 4 := by rw [List.length_take]; omega
    exact Nat.lt_of_lt_of_le this (Nat.pow_le_pow_right (by omega) hl)
  have hlt2 : ∀ ys : List UInt8, getN (ys.take 2) < 65536 := fun ys => by
    have := getN_lt (ys.take 2)
    have hl : (ys.take 2).length ≤ 2 := by rw [List.length_take]; omega
    exact Nat.lt_of_lt_of_le this (Nat.pow_le_pow_right (by omega) hl)
  have l4 : ((4 : Int)).toNat = 4 := rfl
  have l2 : ((2 : Int)).toNat = 2 := rfl
  refine ⟨_, _, ?_, ?_, rfl, rfl, ?_⟩
  · unfold numV
    split
    · rw [l4]; exact hlt4 _
    · omega
  · unfold numV
    split
    · rw [l2]; exact hlt2 _
    · omega
  · by_cases h4 : 4 ≤ xs.length
    · have o1 : numOk ⟨xs, false⟩ 4 := ⟨rfl, by omega, by omega, by simp; omega⟩
      have s1 : numS ⟨xs, false⟩ 4 = ⟨xs.drop 4, false⟩ := by simp only [numS, if_pos o1, l4]
      have v1 : numV ⟨xs, false⟩ 4 = getN (xs.take 4) := by simp only [numV, if_pos o1, l4]
      rw [s1, v1]
      by_cases h6 : 6 ≤ xs.length
      · have o2 : numOk ⟨xs.drop 4, false⟩ 2 := ⟨rfl, by omega, by omega, by simp; omega⟩
        have s2 : numS ⟨xs.drop 4, false⟩ 2 = ⟨(xs.drop 4).drop 2, false⟩ := by simp only [numS, if_pos o2, l2]
        have v2 : numV ⟨xs.drop 4, false⟩ 2 = getN ((xs.drop 4).take 2) := by simp only [numV, if_pos o2, l2]
        rw [s2, v2]
        by_cases he : xs.length = 6
        · right
          refine ⟨?_, ?_⟩
          · unfold doneE
            rw [if_neg]
            simp
            omega
          · unfold readV
            by_cases hg : getN (xs.take 4) ≠ 0 ∧ getN ((xs.drop 4).take 2) ≠ 0
            · rw [if_pos ⟨he, hg⟩, if_pos hg]
            · rw [if_neg (fun h => hg h.2), if_neg hg]
        · left
          refine ⟨?_, ?_⟩
          · unfold doneE
            rw [if_pos]
            right
            simp
            omega
          · unfold readV
            rw [if_neg (fun h => he h.1)]
      · left
        have o2 : ¬ numOk ⟨xs.drop 4, false⟩ 2 := fun h => by have := h.2.2.2; simp at this; omega
        have s2 : numS ⟨xs.drop 4, false⟩ 2 = ⟨[], true⟩ := by simp only [numS, if_neg o2]
        rw [s2]
        refine ⟨by simp [doneE], ?_⟩
        unfold readV
        rw [if_neg (fun h => by omega)]
    · left
      have o1 : ¬ numOk ⟨xs, false⟩ 4 := fun h => by have := h.2.2.2; simp at this; omega
      have s1 : numS ⟨xs, false⟩ 4 = ⟨[], true⟩ := by simp only [numS, if_neg o1]
      have o2 : ¬ numOk ⟨[], true⟩ 2 := fun h => by have := h.1; cases this
      have s2 : numS ⟨[], true⟩ 2 = ⟨[], true⟩ := by simp only [numS, if_neg o2]
      rw [s1, s2]
      refine ⟨by simp [doneE], ?_⟩
      unfold readV
      rw [if_neg (fun h => by omega)]

theorem read_any (A : Option Addr) (c : Nat) (xs : List UInt8) (hl : xs.length ≤ 900000) (w : World) (hA : BAt w w.heap.size A xs) : Calls Tryz.prog 108 #[.slice A xs.length c] w fun e w' => e = .returned (readV xs) ∧ Below w.heap.size w w' := by
  obtain ⟨a, b, ha, hb, e1, e2, hc⟩ := read_facts xs
  have h0 := heap_alloc_new w (.cells #[.int .u32 0, .int .u16 0] 61)
  have hb0 : Below w.heap.size w (w.alloc (.cells #[.int .u32 0, .int .u16 0] 61)) := (Below.refl _ w).alloc (Nat.le_refl _) _
  have hA0 : BAt (w.alloc (.cells #[.int .u32 0, .int .u16 0] 61)) (w.alloc (.cells #[.int .u32 0, .int .u16 0] 61)).heap.size A xs := (hA.below hb0).more hb0.size
  obtain ⟨W0, hW0⟩ : ∃ W0, W0 = w.alloc (.cells #[.int .u32 0, .int .u16 0] 61) := ⟨_, rfl⟩
  rw [← hW0] at h0 hb0 hA0
  have hs0 : W0.heap.size = w.heap.size + 1 := by rw [hW0]; simp
  have O1 := Lib.hid (open_any A c xs W0 hA0 hl)
  have HW := Lib.hid hW0
  have HG : Hid (∀ W, Calls Tryz.prog 124 #[.agg (adr a b)] W fun e w' => e = .returned (.bool (goodB a b)) ∧ Below W.heap.size W w') := Lib.hid (fun W => good_any a b W)
  have hwa : IntKind.u32.wrap (a : Int) = (a : Int) := by rw [IntKind.wrap_u32]; omega
  have hwb : IntKind.u16.wrap (b : Int) = (b : Int) := by rw [IntKind.wrap_u16]; omega
  have HA1 := Lib.hid ha
  have HC := Lib.hid hc
  have HE1 := Lib.hid e1
  have HE2 := Lib.hid e2
  have HB0 := Lib.hid hb0
  have HH0 := Lib.hid h0
  have hgd : goodB a b = decide (a ≠ 0 ∧ b ≠ 0) := rfl
  generalize xs.length = n at O1 ⊢
  clear hA hA0 hb0 hW0 h0 hc e1 e2 ha hb hl
  unfold adr at *
  go_enter Tryz.func108, Tryz.ntmps108
  go_upto_region 1 with fail
  rw [← HW.out]
  go_upto_region 2 with (go_at_call 39; (with_reducible refine O1.out.mono ?_); rintro e w1 ⟨g, rfl, hg, hr, hb1⟩)
  have hne : g ≠ w.heap.size := by omega
  have r1 := (hb1.block w.heap.size (by omega)).trans HH0.out
  have HN1 := Lib.hid (num_any hr 4 (by omega))
  rw [show NumP w1 g ⟨xs, false⟩ 4 = fun e w' => e = .returned (.int .u64 (a : Int)) ∧ RdrS w' g (numS ⟨xs, false⟩ 4) ∧ w1.grownBy w' (some g) by unfold NumP; rw [HE1.out]] at HN1
  have HN2 : Hid (∀ W, RdrS W g (numS ⟨xs, false⟩ 4) → Calls Tryz.prog 40 #[.pointer (some ⟨g, 0, none⟩), .int .i64 2] W fun e w' => e = .returned (.int .u64 (b : Int)) ∧ RdrS w' g (numS (numS ⟨xs, false⟩ 4) 2) ∧ W.grownBy w' (some g)) := Lib.hid (fun W h => by
    have := num_any h 2 (by omega)
    rwa [show NumP W g (numS ⟨xs, false⟩ 4) 2 = fun e w' => e = .returned (.int .u64 (b : Int)) ∧ RdrS w' g (numS (numS ⟨xs, false⟩ 4) 2) ∧ W.grownBy w' (some g) by unfold NumP; rw [HE2.out]] at this)
  generalize hS2 : numS (numS ⟨xs, false⟩ 4) 2 = S2 at HN2 HC
  generalize numS ⟨xs, false⟩ 4 = S1 at HN1 HN2
  have HB1 := Lib.hid (HB0.out.trans (hb1.mono HB0.out.size))
  have HR1 := Lib.hid r1
  clear hS2 hr hb1 r1
  go_upto_region 3 with (first
    | (go_at_call 40; (with_reducible refine HN1.out.mono ?_); rintro e w2 ⟨rfl, hr2, hg2⟩)
    | (go_at_call 40; (with_reducible refine (HN2.out _ hr2).mono ?_); rintro e w3 ⟨rfl, hr3, hg3⟩))
  have q2 := (hg2.block w.heap.size (Array.getElem?_eq_some_iff.1 HR1.out).1 (by simpa using fun e => hne e.symm)).trans HR1.out
  have q3 := (hg3.block w.heap.size (Array.getElem?_eq_some_iff.1 q2).1 (by simpa using fun e => hne e.symm)).trans q2
  have b2 : Below w.heap.size w w2 := HB1.out.grown hg2 HB1.out.size (fun k hk => by simp at hk; omega)
  have b3 : Below w.heap.size w w3 := b2.grown hg3 b2.size (fun k hk => by simp at hk; omega)
  have n4 := heap_alloc_new w3 (.cells #[.int .u32 (a : Int), .int .u16 (b : Int)] 61)
  have c4 : Below w3.heap.size w3 (w3.alloc (.cells #[.int .u32 (a : Int), .int .u16 (b : Int)] 61)) := (Below.refl _ w3).alloc (Nat.le_refl _) _
  have z4 := (c4.block w.heap.size (Array.getElem?_eq_some_iff.1 q3).1).trans q3
  have b4 := b3.trans (c4.mono b3.size)
  have r4 := hr3.below c4 (Nat.le_refl _)
  generalize w3.alloc (.cells #[.int .u32 (a : Int), .int .u16 (b : Int)] 61) = W4 at n4 z4 b4 r4 ⊢
  generalize w3.heap.size = g5 at n4 ⊢
  have HD := Lib.hid (done_any r4)
  have HL : Hid (∀ W, Below W4.heap.size W4 W → (loadVar 61 ⟨g5, 0, none⟩).run Tryz.prog W = .ok (.agg #[.int .u32 (a : Int), .int .u16 (b : Int)]) W) := Lib.hid (fun W hW => run_loadVar_mid W g5 0 61 [.int .u32 (a : Int), .int .u16 (b : Int)] _ (row_range (cs := [.int .u32 (a : Int), .int .u16 (b : Int)]) ((hW.block _ (Array.getElem?_eq_some_iff.1 n4).1).trans n4)) Tryz.underlying61 rfl size25)
  have HL4 := Lib.hid (HL.out W4 (Below.refl _ _))
  have HZ : Hid (∀ W, Below W4.heap.size W4 W → W.heap[w.heap.size]? = some (.cells #[.int .u32 0, .int .u16 0] 61 (0, 0))) := Lib.hid (fun W hW => (hW.block _ (Array.getElem?_eq_some_iff.1 z4).1).trans z4)
  have HB4 := Lib.hid b4
  clear q2 q3 b2 b3 n4 c4 z4 b4 r4 hr2 hg2 hr3 hg3 hne hg HN1 HN2 HR1 HB1 O1
  have hdone : (doneE S2 = 10 ∧ readV xs = .tuple #[.agg #[.int .u32 0, .int .u16 0], .int .i64 10]) ∨ (doneE S2 = 0 ∧ goodB a b = true ∧ readV xs = .tuple #[.agg #[.int .u32 (a : Int), .int .u16 (b : Int)], .int .i64 0]) ∨ (doneE S2 = 0 ∧ goodB a b = false ∧ readV xs = .tuple #[.agg #[.int .u32 0, .int .u16 0], .int .i64 10]) := by
    rcases HC.out with h | ⟨h1, h2⟩
    · exact .inl h
    · right
      by_cases hq : a ≠ 0 ∧ b ≠ 0
      · left
        rw [if_pos hq] at h2
        exact ⟨h1, by rw [hgd, decide_eq_true hq], h2⟩
      · right
        rw [if_neg hq] at h2
        exact ⟨h1, by rw [hgd, decide_eq_false hq], h2⟩
  clear hgd HC
  rcases hdone with ⟨hd, hr⟩ | ⟨hd, hgo, hr⟩ | ⟨hd, hgo, hr⟩
  all_goals
    have HRV := Lib.hid hr
    rw [hd] at HD
    try rw [hgo] at HG
    clear hr hd
  · have r3 := HZ.out W4 (Below.refl _ _)
    have fr0 := frozen_of_row W4 w.heap.size 0 _ 61 r3
    have fr1 := frozen_of_row W4 w.heap.size 1 _ 61 r3
    have z0 : W4.cell? ⟨w.heap.size, 0, none⟩ = some (.int .u32 0) := by rw [cell_of_row _ _ 0 _ 61 (0, 0) r3]; rfl
    have z1 : W4.cell? ⟨w.heap.size, 1, none⟩ = some (.int .u16 0) := by rw [cell_of_row _ _ 1 _ 61 (0, 0) r3]; rfl
    have s1 := heap_setCell_same W4 w.heap.size 0 _ 61 (.int .u32 0) r3
    have s2 := heap_setCell_same _ w.heap.size 1 _ 61 (.int .u16 0) s1
    have HQ := Lib.hid (row_range (cs := [.int .u32 0, .int .u16 0]) s2)
    have HF := Lib.hid ((HB4.out.setCell (p := ⟨w.heap.size, 0, none⟩) (by simp) (.int .u32 0)).setCell (p := ⟨w.heap.size, 1, none⟩) (by simp) (.int .u16 0))
    clear r3 s1 s2
    go_wp2_with (go_at_call 42; (with_reducible refine HD.out.mono ?_); rintro e w5 ⟨rfl, rfl⟩)
    refine bodyPost_ret (v := .tuple #[.agg #[.int .u32 0, .int .u16 0], .int .i64 10]) ?_ rfl ?_
    · exact results_cell_tmpS (p := 2) (ty := 61) (q := 3) rfl _ _ w.heap.size 0 [.int .u32 0, .int .u16 0] _ (.int .i64 10) rfl rfl HQ.out Tryz.underlying61 rfl size25
    · exact ⟨by rw [HRV.out], HF.out⟩
  · go_upto_region 5 with (first
      | ((with_reducible refine wpList_loadGN (op := ⟨some 19, _, _, _, _, _⟩) rfl 61 (.tmp 5) rfl _ ?_ _ HL4.out ?_); rfl)
      | (go_at_call 42; (with_reducible refine HD.out.mono ?_); rintro e w5 ⟨rfl, rfl⟩)
      | (go_at_call 124; (with_reducible refine (HG.out _).mono ?_); rintro e w6 ⟨rfl, hb6⟩))
    have HL6 := Lib.hid (HL.out w6 hb6)
    have r3 := HZ.out w6 hb6
    have fr0 := frozen_of_row w6 w.heap.size 0 _ 61 r3
    have fr1 := frozen_of_row w6 w.heap.size 1 _ 61 r3
    have z0 : w6.cell? ⟨w.heap.size, 0, none⟩ = some (.int .u32 0) := by rw [cell_of_row _ _ 0 _ 61 (0, 0) r3]; rfl
    have z1 : w6.cell? ⟨w.heap.size, 1, none⟩ = some (.int .u16 0) := by rw [cell_of_row _ _ 1 _ 61 (0, 0) r3]; rfl
    have s1 := heap_setCell_same w6 w.heap.size 0 _ 61 (.int .u32 (a : Int)) r3
    have s2 := heap_setCell_same _ w.heap.size 1 _ 61 (.int .u16 (b : Int)) s1
    have HQ := Lib.hid (row_range (cs := [.int .u32 (a : Int), .int .u16 (b : Int)]) s2)
    have HF := Lib.hid (((HB4.out.trans (hb6.mono HB4.out.size)).setCell (p := ⟨w.heap.size, 0, none⟩) (by simp) (.int .u32 (a : Int))).setCell (p := ⟨w.heap.size, 1, none⟩) (by simp) (.int .u16 (b : Int)))
    clear hb6 r3 s1 s2
    go_wp2_with ((with_reducible refine wpList_loadV (op := ⟨some 24, _, _, _, _, _⟩) rfl 61 (.tmp 5) rfl _ ?_ _ HL6.out ?_); rfl)
    refine bodyPost_ret (v := .tuple #[.agg #[.int .u32 (a : Int), .int .u16 (b : Int)], .int .i64 0]) ?_ rfl ?_
    · exact results_cell_tmpS (p := 2) (ty := 61) (q := 3) rfl _ _ w.heap.size 0 [.int .u32 (a : Int), .int .u16 (b : Int)] _ (.int .i64 0) rfl rfl HQ.out Tryz.underlying61 rfl size25
    · exact ⟨by rw [HRV.out], HF.out⟩
  · go_upto_region 4 with (first
      | ((with_reducible refine wpList_loadGN (op := ⟨some 19, _, _, _, _, _⟩) rfl 61 (.tmp 5) rfl _ ?_ _ HL4.out ?_); rfl)
      | (go_at_call 42; (with_reducible refine HD.out.mono ?_); rintro e w5 ⟨rfl, rfl⟩)
      | (go_at_call 124; (with_reducible refine (HG.out _).mono ?_); rintro e w6 ⟨rfl, hb6⟩))
    have r3 := HZ.out w6 hb6
    have fr0 := frozen_of_row w6 w.heap.size 0 _ 61 r3
    have fr1 := frozen_of_row w6 w.heap.size 1 _ 61 r3
    have z0 : w6.cell? ⟨w.heap.size, 0, none⟩ = some (.int .u32 0) := by rw [cell_of_row _ _ 0 _ 61 (0, 0) r3]; rfl
    have z1 : w6.cell? ⟨w.heap.size, 1, none⟩ = some (.int .u16 0) := by rw [cell_of_row _ _ 1 _ 61 (0, 0) r3]; rfl
    have s1 := heap_setCell_same w6 w.heap.size 0 _ 61 (.int .u32 0) r3
    have s2 := heap_setCell_same _ w.heap.size 1 _ 61 (.int .u16 0) s1
    have HQ := Lib.hid (row_range (cs := [.int .u32 0, .int .u16 0]) s2)
    have HF := Lib.hid (((HB4.out.trans (hb6.mono HB4.out.size)).setCell (p := ⟨w.heap.size, 0, none⟩) (by simp) (.int .u32 0)).setCell (p := ⟨w.heap.size, 1, none⟩) (by simp) (.int .u16 0))
    clear hb6 r3 s1 s2
    go_wp2_with fail
    refine bodyPost_ret (v := .tuple #[.agg #[.int .u32 0, .int .u16 0], .int .i64 10]) ?_ rfl ?_
    · exact results_cell_tmpS (p := 2) (ty := 61) (q := 3) rfl _ _ w.heap.size 0 [.int .u32 0, .int .u16 0] _ (.int .i64 10) rfl rfl HQ.out Tryz.underlying61 rfl size25
    · exact ⟨by rw [HRV.out], HF.out⟩
end Go.Proofs.YtehgpnnfjgmiiaaGreat
end
