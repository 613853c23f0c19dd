/- Contracts of the reader of the reference: Left, fail, Done, Num. Conditions: the bytes are fewer than 900,000; a number that comes in is an int. Contracts of the reader of the reference: Take and Text. Conditions: the bytes are fewer than 900,000; a number that comes in is an int. -/
import Derived.Test.YtehgpnnfjgmiiaaGreatYOja
import Derived.Test.YtehgpnnfjgmiiaaGreatYOcb
import Derived.Test.YtehgpnnfjgmiiaaGreatYOga
import Derived.Test.YtehgpnnfjgmiiaaGreatProg
import Derived.RegionTactic
import Derived.RegionCalls
import Derived.WalkKit
import Derived.Deep.RegionHeld3
import Derived.Deep.QuietTactic
import Derived.BigQuiet
import Derived.Test.YtehgpnnfjgmiiaaGreatYRERdrb
section
namespace Go.Proofs.YtehgpnnfjgmiiaaGreat
set_option maxRecDepth 100000
open Go.RowKit
set_option linter.unusedVariables false

/-- The reference's reader in block h: where one is, and whether it is bad. -/
def RRd (w : World) (h : Nat) (A : Option Addr) (c : Nat) (xs : List UInt8) (k : Nat) (bad : Bool) : Prop :=
  w.heap[h]? = some (.cells #[.slice A xs.length c, .int .i64 (k : Int), .bool bad] 72 (0, 0)) ∧ BAt w w.heap.size A xs ∧ k ≤ xs.length ∧ xs.length ≤ c ∧ xs.length ≤ 900000 ∧ (bad = true → k = xs.length)

section
variable {w w' : World} {h : Nat} {A : Option Addr} {c : Nat} {xs : List UInt8} {k : Nat} {bad : Bool}
theorem RRd.cells (r : RRd w h A c xs k bad) : w.cell? ⟨h, 0, none⟩ = some (.slice A xs.length c) ∧ w.cell? ⟨h, 1, none⟩ = some (.int .i64 (k : Int)) ∧ w.cell? ⟨h, 2, none⟩ = some (.bool bad) ∧ (∀ i, w.frozen? ⟨h, i, none⟩ = false) := by
  have c0 := cell_of_row w h 0 _ 72 (0, 0) r.1
  have c1 := cell_of_row w h 1 _ 72 (0, 0) r.1
  have c2 := cell_of_row w h 2 _ 72 (0, 0) r.1
  simp at c0 c1 c2
  exact ⟨c0, c1, c2, fun i => frozen_of_row w h i _ 72 r.1⟩
theorem RRd.drewN (r : RRd w h A c xs k bad) (n : Nat) : RRd (w.drewN n) h A c xs k bad := r
theorem RRd.lt (r : RRd w h A c xs k bad) : h < w.heap.size := (Array.getElem?_eq_some_iff.1 r.1).1
theorem RRd.below {B : Nat} (r : RRd w h A c xs k bad) (hb : Below B w w') (hB : w.heap.size ≤ B) : RRd w' h A c xs k bad :=
  ⟨(hb.block h (Nat.lt_of_lt_of_le r.lt hB)).trans r.1, (r.2.1.below (hb.mono hB)).more hb.size, r.2.2⟩
theorem grownBy_drewN (n : Nat) (row : Option Nat) : w.grownBy (w.drewN n) row := ⟨rfl, rfl, rfl, Nat.le_refl _, fun _ _ _ => rfl⟩

theorem rfail_any (r : RRd w h A c xs k bad) : Calls Tryz.prog 74 #[.pointer (some ⟨h, 0, none⟩)] w fun e w' => e = .returned (.tuple #[]) ∧ RRd w' h A c xs xs.length true ∧ w.grownBy w' (some h) := by
  obtain ⟨c0, c1, c2, f⟩ := r.cells
  have R : RRd ((w.setCell ⟨h, 2, none⟩ (.bool true)).setCell ⟨h, 1, none⟩ (.int .i64 (xs.length : Int))) h A c xs xs.length true := by
    obtain ⟨hh, hx, hk, hc, hl, _⟩ := r
    have s0 := heap_setCell_same w h 2 _ 72 (.bool true) hh
    have s1 := heap_setCell_same _ h 1 _ 72 (.int .i64 (xs.length : Int)) s0
    refine ⟨by simpa using s1, ?_, Nat.le_refl _, hc, hl, fun _ => rfl⟩
    have hne := hx.ne hh (by simp) (by simp) (by simp)
    have := (hx.set (j := 2) (.bool true) hne).set (j := 1) (.int .i64 (xs.length : Int)) hne
    simpa [World.setCell] using this
  have HR := Lib.hid R
  have hl : xs.length ≤ 900000 := r.2.2.2.2.1
  clear r R
  go_enter Tryz.func74, Tryz.ntmps74
  go_wp2
  go_end0
  exact ⟨rfl, HR.out, grownBy_setCell (grownBy_setCell (World.grownBy.refl w _) _ _) _ _⟩

/-- The reference's reader as s says, over the bytes xs. -/
def RRS (w : World) (h : Nat) (A : Option Addr) (c : Nat) (xs : List UInt8) (s : St) : Prop := ∃ k, RRd w h A c xs k s.bad ∧ s.ys = xs.drop k
def RNumP (w : World) (h : Nat) (A : Option Addr) (c : Nat) (xs : List UInt8) (s : St) (wd : Int) (e : Ending) (w' : World) : Prop := e = .returned (.int .u64 (numV s wd : Int)) ∧ RRS w' h A c xs (numS s wd) ∧ w.grownBy w' (some h)

theorem RRS.failed (r : RRd w h A c xs xs.length true) : RRS w h A c xs ⟨[], true⟩ := ⟨xs.length, r, by simp⟩

theorem rrnum_any (r : RRd w h A c xs k bad) (wd : Int) (hw : wd ≤ 9223372036854775807) : Calls Tryz.prog 43 #[.pointer (some ⟨h, 0, none⟩), .int .i64 wd] w (RNumP w h A c xs ⟨xs.drop k, bad⟩ wd) := by
  obtain ⟨c0, c1, c2, f⟩ := r.cells
  have hx := r.2.1
  have hl : xs.length ≤ 900000 := r.2.2.2.2.1
  have hk : k ≤ xs.length := r.2.2.1
  have HF := Lib.hid (fun n => rfail_any (r.drewN n))
  have HG := Lib.hid (fun n => (rget_any A c xs (k : Int) wd (w.drewN n) hx hl (by omega) hw).mono (fun _ _ hh => And.intro hh.1 hh.2.symm))
  by_cases hok : numOk ⟨xs.drop k, bad⟩ wd
  · obtain ⟨hb, h1, h8, hle⟩ := id hok
    simp only [List.length_drop] at hb hle
    subst hb
    obtain ⟨d, rfl⟩ : ∃ d : Nat, wd = d := ⟨wd.toNat, by omega⟩
    have e1 : getI xs (k : Int) (d : Int) = (getN ((xs.drop k).take d), true) := by
      unfold getI
      rw [if_pos (by omega)]
      simp
    rw [e1] at HG
    have R : ∀ n w', (w.drewN n).setCell ⟨h, 1, none⟩ (.int .i64 ((k : Int) + (d : Int))) = w' → RNumP w h A c xs ⟨xs.drop k, false⟩ d (.returned (.int .u64 (getN ((xs.drop k).take d) : Int))) w' := by
      rintro n w' rfl
      refine ⟨by simp [numV, hok], ?_, grownBy_setCell (grownBy_drewN n _) _ _⟩
      simp only [numS, if_pos hok, Int.toNat_natCast]
      obtain ⟨hh, hx, hk, hc, hl, hbk⟩ := r
      refine ⟨k + d, ⟨?_, ?_, by omega, hc, hl, by simp⟩, by rw [List.drop_drop]⟩
      · have s1 := heap_setCell_same (w.drewN n) h 1 _ 72 (.int .i64 ((k : Int) + (d : Int))) hh
        have e2 : ((k + d : Nat) : Int) = (k : Int) + (d : Int) := by omega
        rw [e2]
        simpa using s1
      · have hne := hx.ne hh (by simp) (by simp) (by simp)
        have := (hx.drewN n).set (j := 1) (.int .i64 ((k : Int) + (d : Int))) hne
        simpa [World.setCell] using this
    have HR := Lib.hid R
    have dle : (k : Int) + (d : Int) ≤ (xs.length : Int) := by omega
    clear r hx HF hok h1 h8 e1 R hle
    go_enter Tryz.func43, Tryz.ntmps43
    go_wp2
    go_quiet ((go_at_call 73; exact Calls.quiet_of_same (HG.out _)))
    go_wp2
    go_ret
    exact HR.out _ _ rfl
  · have e1 : getI xs (k : Int) wd = (0, false) := by
      unfold getI
      rw [if_neg]
      rintro ⟨q1, q2, q3, q4⟩
      by_cases hb : bad = true
      · have := r.2.2.2.2.2 hb
        omega
      · exact hok ⟨by simpa using hb, q1, q2, by simp only [List.length_drop]; omega⟩
    rw [e1] at HG
    have R : ∀ n w', RRd w' h A c xs xs.length true → (w.drewN n).grownBy w' (some h) → RNumP w h A c xs ⟨xs.drop k, bad⟩ wd (.returned (.int .u64 0)) w' := fun n w' q1 q2 =>
      ⟨by simp [numV, hok], by simp only [numS, if_neg hok]; exact RRS.failed q1, grownBy_trans (grownBy_drewN n _) q2⟩
    have HR := Lib.hid R
    clear r hx e1 R hok
    cases bad
    · go_enter Tryz.func43, Tryz.ntmps43
      go_wp2
      go_quiet ((go_at_call 73; exact Calls.quiet_of_same (HG.out _)))
      go_wp2_with (go_at_call 74; refine (HF.out _).mono ?_; rintro e w1 ⟨rfl, hr1, hg1⟩)
      go_ret
      exact HR.out _ _ hr1 hg1
    · go_enter Tryz.func43, Tryz.ntmps43
      go_wp2
      go_quiet ((go_at_call 73; exact Calls.quiet_of_same (HG.out _)))
      go_wp2_with (go_at_call 74; refine (HF.out _).mono ?_; rintro e w1 ⟨rfl, hr1, hg1⟩)
      go_ret
      exact HR.out _ _ hr1 hg1
end
end Go.Proofs.YtehgpnnfjgmiiaaGreat
end
section
namespace Go.Proofs.YtehgpnnfjgmiiaaGreat
set_option maxRecDepth 100000
open Go.RowKit
set_option linter.unusedVariables false
set_option linter.unusedSimpArgs false

theorem step_append_src {P : Program} (w : World) {ops : Array Oper} {o : Oper} {a : Act} {K : Act → World → Prop} {Q : Exit → Act → World → Prop} {E : Prop} (hgd : o.guard = none) (dd : Nat) (hd : o.dst = some dd) (s x : Operand) (t tx : TypeId)
    (ho : o.op = .call { callee := .builtin .append, args := #[s, x], argTypes := #[t, tx] })
    (base : Nat) (e : TypeId) (i : TypeInfo) (z : Value) (bytes : Nat) (ht : P.underlying t = some (.slice e)) (hi : P.info? e = some i) (hz : i.zero = some z)
    (hsize : i.size = 1) (hby : i.bytes = bytes) (hzs : z.cells.size = 1)
    (v : Value) (n : Nat) (xs : List Value) (hs : a.eval s = v) (hown : w.ownsRow base e 1 v n xs)
    (y : Value) (m : Nat) (news : List Value) (hx : a.eval x = y) (hr : Src P 1 tx y m news w)
    (h63 : n + m ≤ maxLen) (hbytes : (n + m) * bytes ≤ 140737488355328) (hbase : base ≤ w.heap.size)
    (h : ∀ v' w', w'.ownsRow base e 1 v' (n + m) (xs ++ news) → w.grownBy w' v.ownBlock → (v'.ownBlock = v.ownBlock ∨ v'.ownBlock = some w.heap.size) → K (a.put (some dd) v') w') :
    if Region.wanted o (yielded ops a.tmps) = true then Oper.wp P o a w K Q else E := by
  have hw : Region.wanted o (yielded ops a.tmps) = true := by simp [Region.wanted, hgd]
  rw [if_pos hw]
  exact wp_append_src w s x t tx ho base e i z bytes ht hi hz hsize hby hzs v n xs hs hown y m news hx hr h63 hbytes hbase (by rw [hd]; exact h)

theorem run_mid (A : Option Addr) (n c k d : Nat) (hk : k + d ≤ c) (W : World) :
    (Instr.slice 31 (.slice A n c) (some (.int .i64 (k : Int))) (some (.int .i64 ((k : Int) + (d : Int)))) none).run Tryz.prog W = .ok (.slice (cutA A c k) d (c - k)) W := by
  rw [run_slice_lh W 31 A n c under22Q .i64 .i64 (k : Int) ((k : Int) + (d : Int)) (by omega) (by omega) (by omega), size5]
  have e1 : ((k : Int) + (d : Int)).toNat = k + d := by omega
  simp [Result.andThen, sliced, cutA, e1]

section
variable {w w' : World} {h : Nat} {A : Option Addr} {c : Nat} {xs : List UInt8} {k : Nat} {bad : Bool}

def RTakeP (w : World) (h : Nat) (A : Option Addr) (c : Nat) (xs : List UInt8) (s : St) (n : Int) (e : Ending) (w' : World) : Prop :=
  ∃ v, e = .returned v ∧ w'.ownsRow w.heap.size 5 1 v (takeV s n).length (bcells (takeV s n)) ∧ RRS w' h A c xs (takeS s n) ∧ w.grownBy w' (some h)

set_option maxRecDepth 100000 in
theorem rrtake_yes (r : RRd w h A c xs k false) (d : Nat) (hle : k + d ≤ xs.length) : Calls Tryz.prog 44 #[.pointer (some ⟨h, 0, none⟩), .int .i64 (d : Int)] w (RTakeP w h A c xs ⟨xs.drop k, false⟩ (d : Int)) := by
  obtain ⟨i0, hi, hz0, hz1, hz2⟩ := info_parts info5
  obtain ⟨c0, c1, c2, f⟩ := r.cells
  have hl : xs.length ≤ 900000 := r.2.2.2.2.1
  have hc : xs.length ≤ c := r.2.2.2.1
  have hmid := fun W => run_mid A xs.length c k d (by omega) W
  have hmid2 : ∀ W, (Instr.slice 31 (.slice A xs.length c) (some (.int .i64 ((k : Int) + (d : Int) - (d : Int)))) (some (.int .i64 ((k : Int) + (d : Int)))) none).run Tryz.prog W = .ok (.slice (cutA A c k) d (c - k)) W := fun W => by
    rw [show (k : Int) + (d : Int) - (d : Int) = (k : Int) from by omega]
    exact hmid W
  have q1 : decide ((d : Int) < 0) = false := by simp
  have q2 : decide ((xs.length : Int) - (k : Int) < (d : Int)) = false := by simp; omega
  have q3 : (k : Int) + (d : Int) ≤ (xs.length : Int) := by omega
  go_enter Tryz.func44, Tryz.ntmps44
  go_wp2
  go_quiet (fail)
  go_wp2
  have R1 : RRd ((w.drewN nq).setCell ⟨h, 1, none⟩ (.int .i64 ((k : Int) + (d : Int)))) h A c xs (k + d) false := by
    obtain ⟨hh, hx, hk, hc, hl, hbk⟩ := r
    refine ⟨?_, ?_, by omega, hc, hl, by simp⟩
    · have s1 := heap_setCell_same (w.drewN nq) h 1 _ 72 (.int .i64 ((k : Int) + (d : Int))) hh
      have e2 : ((k + d : Nat) : Int) = (k : Int) + (d : Int) := by omega
      rw [e2]
      simpa using s1
    · have hne := hx.ne hh (by simp) (by simp) (by simp)
      have := (hx.drewN nq).set (j := 1) (.int .i64 ((k : Int) + (d : Int))) hne
      simpa [World.setCell] using this
  have g1 : w.grownBy ((w.drewN nq).setCell ⟨h, 1, none⟩ (.int .i64 ((k : Int) + (d : Int)))) (some h) := grownBy_setCell (grownBy_drewN nq _) _ _
  clear c0 c1 c2 f r
  generalize (w.drewN nq).setCell ⟨h, 1, none⟩ (.int .i64 ((k : Int) + (d : Int))) = W1 at R1 g1 ⊢
  obtain ⟨c0, c1, c2, f⟩ := R1.cells
  have e2 : ((k + d : Nat) : Int) = (k : Int) + (d : Int) := by omega
  rw [e2] at c1
  have hlt := R1.lt
  have hx1 : BAt W1 W1.heap.size (cutA A c k) ((xs.drop k).take d) := by
    have := (R1.2.1.cut (k := k) (by omega) hc)
    rcases this with h0 | ⟨g', off, ha, hg, hcl⟩
    · left
      rw [h0]
      simp
    · right
      refine ⟨g', off, ha, hg, fun j hj => ?_⟩
      rw [List.length_take] at hj
      rw [hcl j (by omega), List.getElem_take]
  have hlen : ((xs.drop k).take d).length = d := by rw [List.length_take, List.length_drop]; omega
  have HX := Lib.hid hx1
  have HL := Lib.hid hlen
  have HR := Lib.hid R1
  have HG := Lib.hid g1
  have w1 : IntKind.i64.wrap (k : Int) = (k : Int) := by rw [IntKind.wrap_i64]; omega
  clear e2 c2 f hx1 hlen R1 g1 q1 q2
  have hS0 : W1.drew.cell? ⟨h, 0, none⟩ = some (.slice A xs.length c) ∧ W1.drew.cell? ⟨h, 1, none⟩ = some (.int .i64 ((k : Int) + (d : Int))) := ⟨c0, c1⟩
  refine wp_region_noPanic ?_
  refine wp_region_held_drew (S := fun w' => w'.cell? ⟨h, 0, none⟩ = some (.slice A xs.length c) ∧ w'.cell? ⟨h, 1, none⟩ = some (.int .i64 ((k : Int) + (d : Int)))) (by kernel_rfl) hS0 (fun hHeld => ?_)
  refine takeH_at 1 39 (v := ?_) rfl rfl (by kernel_rfl) (by kernel_rfl) (by kernel_rfl) (fun _ _ _ h => h) (Or.inl ⟨by rfl, ?_⟩) (by assumption) ?_
  rotate_left
  · (intro wx hSw; (try dsimp only at hSw); go_simp) <;> with_reducible rfl
  simp only [Act.put, List.setIfInBounds_toArray, List.set_cons_zero, List.set_cons_succ]
  refine takeH_at 2 40 (v := ?_) rfl rfl (by kernel_rfl) (by kernel_rfl) (by kernel_rfl) (fun _ _ _ h => h) (Or.inl ⟨by rfl, ?_⟩) (by assumption) ?_
  rotate_left
  · (intro wx hSw; (try dsimp only at hSw); go_simp) <;> with_reducible rfl
  simp only [Act.put, List.setIfInBounds_toArray, List.set_cons_zero, List.set_cons_succ]
  refine takeH_at 3 41 (v := ?_) rfl rfl (by kernel_rfl) (by kernel_rfl) (by kernel_rfl) (fun _ _ _ h => h) (Or.inl ⟨by rfl, ?_⟩) (by assumption) ?_
  rotate_left
  · (intro wx hSw; (try dsimp only at hSw); go_simp) <;> with_reducible rfl
  simp only [Act.put, List.setIfInBounds_toArray, List.set_cons_zero, List.set_cons_succ]
  refine takeH_at 4 42 (v := ?_) rfl rfl (by kernel_rfl) (by kernel_rfl) (by kernel_rfl) (fun _ _ _ h => h) (Or.inl ⟨by rfl, ?_⟩) (by assumption) ?_
  rotate_left
  · (intro wx hSw; (try dsimp only at hSw); go_simp) <;> with_reducible rfl
  simp only [Act.put, List.setIfInBounds_toArray, List.set_cons_zero, List.set_cons_succ]
  refine takeH_at 5 43 (v := ?_) rfl rfl (by kernel_rfl) (by kernel_rfl) (by kernel_rfl) (fun _ _ _ h => h) (Or.inl ⟨by rfl, ?_⟩) (by assumption) ?_
  rotate_left
  · (intro wx hSw; (try dsimp only at hSw); go_simp) <;> with_reducible rfl
  simp only [Act.put, List.setIfInBounds_toArray, List.set_cons_zero, List.set_cons_succ]
  refine takeH_at 6 44 (v := ?_) rfl rfl (by kernel_rfl) (by kernel_rfl) (by kernel_rfl) (fun _ _ _ h => h) (Or.inl ⟨by rfl, ?_⟩) (by assumption) ?_
  rotate_left
  · (intro wx hSw; (try dsimp only at hSw); go_simp) <;> with_reducible rfl
  simp only [Act.put, List.setIfInBounds_toArray, List.set_cons_zero, List.set_cons_succ]
  refine takeH_at 7 45 (v := ?_) rfl rfl (by kernel_rfl) (by kernel_rfl) (by kernel_rfl) (fun _ _ _ h => h) (Or.inl ⟨by rfl, ?_⟩) (by assumption) ?_
  rotate_left
  · (intro wx hSw; (try dsimp only at hSw); go_simp) <;> with_reducible rfl
  simp only [Act.put, List.setIfInBounds_toArray, List.set_cons_zero, List.set_cons_succ]
  refine takeH_at 8 46 (v := ?_) rfl rfl (by kernel_rfl) (by kernel_rfl) (by kernel_rfl) (fun _ _ _ h => h) (Or.inl ⟨by rfl, ?_⟩) (by assumption) ?_
  rotate_left
  · (intro wx hSw; (try dsimp only at hSw); go_simp) <;> with_reducible rfl
  simp only [Act.put, List.setIfInBounds_toArray, List.set_cons_zero, List.set_cons_succ]
  refine takeH_at 9 47 (v := ?_) rfl rfl (by kernel_rfl) (by kernel_rfl) (by kernel_rfl) (fun _ _ _ h => h) (Or.inl ⟨by rfl, ?_⟩) (by assumption) ?_
  rotate_left
  · (intro wx hSw; (try dsimp only at hSw); go_simp) <;> with_reducible rfl
  simp only [Act.put, List.setIfInBounds_toArray, List.set_cons_zero, List.set_cons_succ]
  refine takeH_at 10 48 (v := ?_) rfl rfl (by kernel_rfl) (by kernel_rfl) (by kernel_rfl) (fun _ _ _ h => h) (Or.inl ⟨by rfl, ?_⟩) (by assumption) ?_
  rotate_left
  · (intro wx hSw; (try dsimp only at hSw); go_simp) <;> with_reducible rfl
  simp only [Act.put, List.setIfInBounds_toArray, List.set_cons_zero, List.set_cons_succ]
  refine takeH_at 11 49 (v := ?_) rfl rfl (by kernel_rfl) (by kernel_rfl) (by kernel_rfl) (fun _ _ _ h => h) (Or.inl ⟨by rfl, ?_⟩) (by assumption) ?_
  rotate_left
  · (intro wx hSw; (try dsimp only at hSw); go_simp) <;> with_reducible rfl
  simp only [Act.put, List.setIfInBounds_toArray, List.set_cons_zero, List.set_cons_succ]
  refine takeH_at 12 50 (v := ?_) rfl rfl (by kernel_rfl) (by kernel_rfl) (by kernel_rfl) (fun _ _ _ h => h) (Or.inl ⟨by rfl, ?_⟩) (by assumption) ?_
  rotate_left
  · (intro wx hSw; (try dsimp only at hSw); go_simp) <;> with_reducible rfl
  simp only [Act.put, List.setIfInBounds_toArray, List.set_cons_zero, List.set_cons_succ]
  refine takeH_at 13 51 (v := ?_) rfl rfl (by kernel_rfl) (by kernel_rfl) (by kernel_rfl) (fun _ _ _ h => h) (Or.inl ⟨by rfl, ?_⟩) (by assumption) ?_
  rotate_left
  · (intro wx hSw; (try dsimp only at hSw); go_simp) <;> with_reducible rfl
  simp only [Act.put, List.setIfInBounds_toArray, List.set_cons_zero, List.set_cons_succ]
  refine takeH_at 14 52 (v := ?_) rfl rfl (by kernel_rfl) (by kernel_rfl) (by kernel_rfl) (fun _ _ _ h => h) (Or.inl ⟨by rfl, ?_⟩) (by assumption) ?_
  rotate_left
  · (intro wx hSw; (try dsimp only at hSw); go_simp) <;> with_reducible rfl
  simp only [Act.put, List.setIfInBounds_toArray, List.set_cons_zero, List.set_cons_succ]
  refine takeH_at 15 53 (v := ?_) rfl rfl (by kernel_rfl) (by kernel_rfl) (by kernel_rfl) (fun _ _ _ h => h) (Or.inl ⟨by rfl, ?_⟩) (by assumption) ?_
  rotate_left
  · (intro wx hSw; (try dsimp only at hSw); go_simp) <;> with_reducible rfl
  simp only [Act.put, List.setIfInBounds_toArray, List.set_cons_zero, List.set_cons_succ]
  refine wpAnyH_ready (rs := [0]) (by kernel_rfl) (by simp) ?_
  refine AllReadyH.cons rfl (fun K hK => ?_) ?_
  · go_simp
    refine hK.out _ _ ?_ (fun hHeld1 => ?_)
    · exact ⟨(World.cell?_alloc_lt W1 _ _ hlt).trans c0, (World.cell?_alloc_lt W1 _ _ hlt).trans c1⟩
    clear hK K
    refine wpAnyH_ready (rs := [16]) (by kernel_rfl) (by simp) ?_
    refine AllReadyH.cons rfl (fun K hK => ?_) ?_
    · refine step_append_src _ rfl 54 rfl (.tmp 38) (.tmp 53) _ _ rfl W1.heap.size 5 i0 _ 1 Tryz.underlying31 hi hz0 hz1 hz2 rfl (.slice (some ⟨W1.heap.size, 0, none⟩) 0 0) 0 [] rfl (World.ownsRow_made (e := 5) (size := 1) W1.drew #[] 0 (Nat.le_refl _) (Nat.zero_le _) rfl) (.slice (cutA A c k) d (c - k)) d (bcells ((xs.drop k).take d)) rfl ?_ (by simp only [maxLen]; omega) (by omega) (by simp) ?_
      · have hb1 : BAt (W1.alloc (.cells #[] 5)) W1.heap.size (cutA A c k) ((xs.drop k).take d) := HX.out.below ((Below.refl _ W1).alloc (Nat.le_refl _) _)
        have := BAt.src (P := Tryz.prog) (w := W1.drew.alloc (.cells #[] 5)) (B := W1.heap.size) Tryz.underlying31 hb1 (c - k)
        rw [HL.out] at this
        exact this
      · intro v2 w2 ho2 hg2 hat2
        have hB : Below W1.heap.size W1 w2 := Below.grown (w := (W1.alloc (.cells #[] 5)).drew) ((Below.refl _ W1).alloc (Nat.le_refl _) _).drew hg2 (by simp) (by simp [Value.ownBlock])
        refine hK.out _ _ ⟨(hB.cell (p := ⟨h, 0, none⟩) hlt).trans c0, (hB.cell (p := ⟨h, 1, none⟩) hlt).trans c1⟩ (fun hHeld2 => ?_)
        have HB := Lib.hid hB
        have HO := Lib.hid ho2
        clear hK K hB ho2 hg2 hat2 hHeld1 hHeld
        simp only [Act.put, List.setIfInBounds_toArray, List.set_cons_zero, List.set_cons_succ]
        refine takeH_at 17 4 (v := ?_) rfl rfl (by kernel_rfl) (by kernel_rfl) (by kernel_rfl) (fun _ _ _ h => h) (Or.inl ⟨by rfl, ?_⟩) (by assumption) ?_
        rotate_left
        · (intro wx hSw; (try dsimp only at hSw); go_simp) <;> with_reducible rfl
        simp only [Act.put, List.setIfInBounds_toArray, List.set_cons_zero, List.set_cons_succ]
        refine wpAnyH_done (by kernel_rfl) ?_ _
        refine NoPanic.normal ?_
        go_wp2
        go_ret
        have hok : takeOk ⟨xs.drop k, false⟩ (d : Int) := ⟨rfl, by omega, by simp only [List.length_drop]; omega⟩
        refine ⟨v2, rfl, ?_, ?_, grownBy_trans HG.out (grownBy_of_below HB.out (Nat.le_refl _) _)⟩
        · simp only [takeV, if_pos hok, Int.toNat_natCast]
          rw [HL.out]
          have := own_base HO.out HG.out.size
          simpa using this
        · simp only [takeS, if_pos hok, Int.toNat_natCast]
          exact ⟨k + d, HR.out.below HB.out (Nat.le_refl _), by rw [List.drop_drop]⟩
    exact AllReadyH.nil
  exact AllReadyH.nil
end
end Go.Proofs.YtehgpnnfjgmiiaaGreat
end
