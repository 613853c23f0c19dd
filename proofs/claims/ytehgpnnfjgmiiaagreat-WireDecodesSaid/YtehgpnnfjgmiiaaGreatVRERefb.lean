/- Contracts of the reader of the reference: Take and Text. Conditions: the bytes are fewer than 900,000; a number that comes in is an int. Contracts of the reader of the reference, for whatever comes in: Take and Text. Conditions: the bytes are fewer than 900,000; a number that comes in is an int. A reader of the program and one of the reference side by side in memory. Conditions: the bytes are fewer than 900,000; a number that comes in is an int. -/
import Derived.Test.YtehgpnnfjgmiiaaGreatVOja
import Derived.Test.YtehgpnnfjgmiiaaGreatVObd
import Derived.Test.YtehgpnnfjgmiiaaGreatVIiv
import Derived.Test.YtehgpnnfjgmiiaaGreatVObc
import Derived.Test.YtehgpnnfjgmiiaaGreatProg
import Derived.RegionTactic
import Derived.RegionCalls
import Derived.WalkKit
import Derived.Deep.RegionHeld3
import Derived.Deep.QuietTactic
import Derived.BigQuiet
import Derived.Test.YtehgpnnfjgmiiaaGreatVRERdrd
section
namespace Go.Proofs.YtehgpnnfjgmiiaaGreat
set_option maxRecDepth 100000
open Go.RowKit
set_option linter.unusedVariables false
set_option linter.unusedSimpArgs false

theorem step_append_src {P : Program} (w : World) {ops : Array Oper} {o : Oper} {a : Act} {K : Act → World → Prop} {Q : Exit → Act → World → Prop} {E : Prop} (hgd : o.guard = none) (dd : Nat) (hd : o.dst = some dd) (s x : Operand) (t tx : TypeId)
    (ho : o.op = .call { callee := .builtin .append, args := #[s, x], argTypes := #[t, tx] })
    (base : Nat) (e : TypeId) (i : TypeInfo) (z : Value) (bytes : Nat) (ht : P.underlying t = some (.slice e)) (hi : P.info? e = some i) (hz : i.zero = some z)
    (hsize : i.size = 1) (hby : i.bytes = bytes) (hzs : z.cells.size = 1)
    (v : Value) (n : Nat) (xs : List Value) (hs : a.eval s = v) (hown : w.ownsRow base e 1 v n xs)
    (y : Value) (m : Nat) (news : List Value) (hx : a.eval x = y) (hr : Src P 1 tx y m news w)
    (h63 : n + m ≤ maxLen) (hbytes : (n + m) * bytes ≤ 140737488355328) (hbase : base ≤ w.heap.size)
    (h : ∀ v' w', w'.ownsRow base e 1 v' (n + m) (xs ++ news) → w.grownBy w' v.ownBlock → (v'.ownBlock = v.ownBlock ∨ v'.ownBlock = some w.heap.size) → K (a.put (some dd) v') w') :
    if Region.wanted o (yielded ops a.tmps) = true then Oper.wp P o a w K Q else E := by
  have hw : Region.wanted o (yielded ops a.tmps) = true := by simp [Region.wanted, hgd]
  rw [if_pos hw]
  exact wp_append_src w s x t tx ho base e i z bytes ht hi hz hsize hby hzs v n xs hs hown y m news hx hr h63 hbytes hbase (by rw [hd]; exact h)

theorem run_mid (A : Option Addr) (n c k d : Nat) (hk : k + d ≤ c) (W : World) :
    (Instr.slice 31 (.slice A n c) (some (.int .i64 (k : Int))) (some (.int .i64 ((k : Int) + (d : Int)))) none).run Tryz.prog W = .ok (.slice (cutA A c k) d (c - k)) W := by
  rw [run_slice_lh W 31 A n c under22Q .i64 .i64 (k : Int) ((k : Int) + (d : Int)) (by omega) (by omega) (by omega), size5]
  have e1 : ((k : Int) + (d : Int)).toNat = k + d := by omega
  simp [Result.andThen, sliced, cutA, e1]

section
variable {w w' : World} {h : Nat} {A : Option Addr} {c : Nat} {xs : List UInt8} {k : Nat} {bad : Bool}

def RTakeP (w : World) (h : Nat) (A : Option Addr) (c : Nat) (xs : List UInt8) (s : St) (n : Int) (e : Ending) (w' : World) : Prop :=
  ∃ v, e = .returned v ∧ w'.ownsRow w.heap.size 5 1 v (takeV s n).length (bcells (takeV s n)) ∧ RRS w' h A c xs (takeS s n) ∧ w.grownBy w' (some h)

set_option maxRecDepth 100000 in
theorem rrtake_yes (r : RRd w h A c xs k false) (d : Nat) (hle : k + d ≤ xs.length) : Calls Tryz.prog 44 #[.pointer (some ⟨h, 0, none⟩), .int .i64 (d : Int)] w (RTakeP w h A c xs ⟨xs.drop k, false⟩ (d : Int)) := by
  obtain ⟨i0, hi, hz0, hz1, hz2⟩ := info_parts info5
  obtain ⟨c0, c1, c2, f⟩ := r.cells
  have hl : xs.length ≤ 900000 := r.2.2.2.2.1
  have hc : xs.length ≤ c := r.2.2.2.1
  have hmid := fun W => run_mid A xs.length c k d (by omega) W
  have hmid2 : ∀ W, (Instr.slice 31 (.slice A xs.length c) (some (.int .i64 ((k : Int) + (d : Int) - (d : Int)))) (some (.int .i64 ((k : Int) + (d : Int)))) none).run Tryz.prog W = .ok (.slice (cutA A c k) d (c - k)) W := fun W => by
    rw [show (k : Int) + (d : Int) - (d : Int) = (k : Int) from by omega]
    exact hmid W
  have q1 : decide ((d : Int) < 0) = false := by simp
  have q2 : decide ((xs.length : Int) - (k : Int) < (d : Int)) = false := by simp; omega
  have q3 : (k : Int) + (d : Int) ≤ (xs.length : Int) := by omega
  go_enter Tryz.func44, Tryz.ntmps44
  go_wp2
  go_quiet (fail)
  go_wp2
  have R1 : RRd ((w.drewN nq).setCell ⟨h, 1, none⟩ (.int .i64 ((k : Int) + (d : Int)))) h A c xs (k + d) false := by
    obtain ⟨hh, hx, hk, hc, hl, hbk⟩ := r
    refine ⟨?_, ?_, by omega, hc, hl, by simp⟩
    · have s1 := heap_setCell_same (w.drewN nq) h 1 _ 72 (.int .i64 ((k : Int) + (d : Int))) hh
      have e2 : ((k + d : Nat) : Int) = (k : Int) + (d : Int) := by omega
      rw [e2]
      simpa using s1
    · have hne := hx.ne hh (by simp) (by simp) (by simp)
      have := (hx.drewN nq).set (j := 1) (.int .i64 ((k : Int) + (d : Int))) hne
      simpa [World.setCell] using this
  have g1 : w.grownBy ((w.drewN nq).setCell ⟨h, 1, none⟩ (.int .i64 ((k : Int) + (d : Int)))) (some h) := grownBy_setCell (grownBy_drewN nq _) _ _
  clear c0 c1 c2 f r
  generalize (w.drewN nq).setCell ⟨h, 1, none⟩ (.int .i64 ((k : Int) + (d : Int))) = W1 at R1 g1 ⊢
  obtain ⟨c0, c1, c2, f⟩ := R1.cells
  have e2 : ((k + d : Nat) : Int) = (k : Int) + (d : Int) := by omega
  rw [e2] at c1
  have hlt := R1.lt
  have hx1 : BAt W1 W1.heap.size (cutA A c k) ((xs.drop k).take d) := by
    have := (R1.2.1.cut (k := k) (by omega) hc)
    rcases this with h0 | ⟨g', off, ha, hg, hcl⟩
    · left
      rw [h0]
      simp
    · right
      refine ⟨g', off, ha, hg, fun j hj => ?_⟩
      rw [List.length_take] at hj
      rw [hcl j (by omega), List.getElem_take]
  have hlen : ((xs.drop k).take d).length = d := by rw [List.length_take, List.length_drop]; omega
  have HX := Lib.hid hx1
  have HL := Lib.hid hlen
  have HR := Lib.hid R1
  have HG := Lib.hid g1
  have w1 : IntKind.i64.wrap (k : Int) = (k : Int) := by rw [IntKind.wrap_i64]; omega
  clear e2 c2 f hx1 hlen R1 g1 q1 q2
  have hS0 : W1.drew.cell? ⟨h, 0, none⟩ = some (.slice A xs.length c) ∧ W1.drew.cell? ⟨h, 1, none⟩ = some (.int .i64 ((k : Int) + (d : Int))) := ⟨c0, c1⟩
  refine wp_region_noPanic ?_
  refine wp_region_held_drew (S := fun w' => w'.cell? ⟨h, 0, none⟩ = some (.slice A xs.length c) ∧ w'.cell? ⟨h, 1, none⟩ = some (.int .i64 ((k : Int) + (d : Int)))) (by kernel_rfl) hS0 (fun hHeld => ?_)
  refine takeH_at 1 39 (v := ?_) rfl rfl (by kernel_rfl) (by kernel_rfl) (by kernel_rfl) (fun _ _ _ h => h) (Or.inl ⟨by rfl, ?_⟩) (by assumption) ?_
  rotate_left
  · (intro wx hSw; (try dsimp only at hSw); go_simp) <;> with_reducible rfl
  simp only [Act.put, List.setIfInBounds_toArray, List.set_cons_zero, List.set_cons_succ]
  refine takeH_at 2 40 (v := ?_) rfl rfl (by kernel_rfl) (by kernel_rfl) (by kernel_rfl) (fun _ _ _ h => h) (Or.inl ⟨by rfl, ?_⟩) (by assumption) ?_
  rotate_left
  · (intro wx hSw; (try dsimp only at hSw); go_simp) <;> with_reducible rfl
  simp only [Act.put, List.setIfInBounds_toArray, List.set_cons_zero, List.set_cons_succ]
  refine takeH_at 3 41 (v := ?_) rfl rfl (by kernel_rfl) (by kernel_rfl) (by kernel_rfl) (fun _ _ _ h => h) (Or.inl ⟨by rfl, ?_⟩) (by assumption) ?_
  rotate_left
  · (intro wx hSw; (try dsimp only at hSw); go_simp) <;> with_reducible rfl
  simp only [Act.put, List.setIfInBounds_toArray, List.set_cons_zero, List.set_cons_succ]
  refine takeH_at 4 42 (v := ?_) rfl rfl (by kernel_rfl) (by kernel_rfl) (by kernel_rfl) (fun _ _ _ h => h) (Or.inl ⟨by rfl, ?_⟩) (by assumption) ?_
  rotate_left
  · (intro wx hSw; (try dsimp only at hSw); go_simp) <;> with_reducible rfl
  simp only [Act.put, List.setIfInBounds_toArray, List.set_cons_zero, List.set_cons_succ]
  refine takeH_at 5 43 (v := ?_) rfl rfl (by kernel_rfl) (by kernel_rfl) (by kernel_rfl) (fun _ _ _ h => h) (Or.inl ⟨by rfl, ?_⟩) (by assumption) ?_
  rotate_left
  · (intro wx hSw; (try dsimp only at hSw); go_simp) <;> with_reducible rfl
  simp only [Act.put, List.setIfInBounds_toArray, List.set_cons_zero, List.set_cons_succ]
  refine takeH_at 6 44 (v := ?_) rfl rfl (by kernel_rfl) (by kernel_rfl) (by kernel_rfl) (fun _ _ _ h => h) (Or.inl ⟨by rfl, ?_⟩) (by assumption) ?_
  rotate_left
  · (intro wx hSw; (try dsimp only at hSw); go_simp) <;> with_reducible rfl
  simp only [Act.put, List.setIfInBounds_toArray, List.set_cons_zero, List.set_cons_succ]
  refine takeH_at 7 45 (v := ?_) rfl rfl (by kernel_rfl) (by kernel_rfl) (by kernel_rfl) (fun _ _ _ h => h) (Or.inl ⟨by rfl, ?_⟩) (by assumption) ?_
  rotate_left
  · (intro wx hSw; (try dsimp only at hSw); go_simp) <;> with_reducible rfl
  simp only [Act.put, List.setIfInBounds_toArray, List.set_cons_zero, List.set_cons_succ]
  refine takeH_at 8 46 (v := ?_) rfl rfl (by kernel_rfl) (by kernel_rfl) (by kernel_rfl) (fun _ _ _ h => h) (Or.inl ⟨by rfl, ?_⟩) (by assumption) ?_
  rotate_left
  · (intro wx hSw; (try dsimp only at hSw); go_simp) <;> with_reducible rfl
  simp only [Act.put, List.setIfInBounds_toArray, List.set_cons_zero, List.set_cons_succ]
  refine takeH_at 9 47 (v := ?_) rfl rfl (by kernel_rfl) (by kernel_rfl) (by kernel_rfl) (fun _ _ _ h => h) (Or.inl ⟨by rfl, ?_⟩) (by assumption) ?_
  rotate_left
  · (intro wx hSw; (try dsimp only at hSw); go_simp) <;> with_reducible rfl
  simp only [Act.put, List.setIfInBounds_toArray, List.set_cons_zero, List.set_cons_succ]
  refine takeH_at 10 48 (v := ?_) rfl rfl (by kernel_rfl) (by kernel_rfl) (by kernel_rfl) (fun _ _ _ h => h) (Or.inl ⟨by rfl, ?_⟩) (by assumption) ?_
  rotate_left
  · (intro wx hSw; (try dsimp only at hSw); go_simp) <;> with_reducible rfl
  simp only [Act.put, List.setIfInBounds_toArray, List.set_cons_zero, List.set_cons_succ]
  refine takeH_at 11 49 (v := ?_) rfl rfl (by kernel_rfl) (by kernel_rfl) (by kernel_rfl) (fun _ _ _ h => h) (Or.inl ⟨by rfl, ?_⟩) (by assumption) ?_
  rotate_left
  · (intro wx hSw; (try dsimp only at hSw); go_simp) <;> with_reducible rfl
  simp only [Act.put, List.setIfInBounds_toArray, List.set_cons_zero, List.set_cons_succ]
  refine takeH_at 12 50 (v := ?_) rfl rfl (by kernel_rfl) (by kernel_rfl) (by kernel_rfl) (fun _ _ _ h => h) (Or.inl ⟨by rfl, ?_⟩) (by assumption) ?_
  rotate_left
  · (intro wx hSw; (try dsimp only at hSw); go_simp) <;> with_reducible rfl
  simp only [Act.put, List.setIfInBounds_toArray, List.set_cons_zero, List.set_cons_succ]
  refine takeH_at 13 51 (v := ?_) rfl rfl (by kernel_rfl) (by kernel_rfl) (by kernel_rfl) (fun _ _ _ h => h) (Or.inl ⟨by rfl, ?_⟩) (by assumption) ?_
  rotate_left
  · (intro wx hSw; (try dsimp only at hSw); go_simp) <;> with_reducible rfl
  simp only [Act.put, List.setIfInBounds_toArray, List.set_cons_zero, List.set_cons_succ]
  refine takeH_at 14 52 (v := ?_) rfl rfl (by kernel_rfl) (by kernel_rfl) (by kernel_rfl) (fun _ _ _ h => h) (Or.inl ⟨by rfl, ?_⟩) (by assumption) ?_
  rotate_left
  · (intro wx hSw; (try dsimp only at hSw); go_simp) <;> with_reducible rfl
  simp only [Act.put, List.setIfInBounds_toArray, List.set_cons_zero, List.set_cons_succ]
  refine takeH_at 15 53 (v := ?_) rfl rfl (by kernel_rfl) (by kernel_rfl) (by kernel_rfl) (fun _ _ _ h => h) (Or.inl ⟨by rfl, ?_⟩) (by assumption) ?_
  rotate_left
  · (intro wx hSw; (try dsimp only at hSw); go_simp) <;> with_reducible rfl
  simp only [Act.put, List.setIfInBounds_toArray, List.set_cons_zero, List.set_cons_succ]
  refine wpAnyH_ready (rs := [0]) (by kernel_rfl) (by simp) ?_
  refine AllReadyH.cons rfl (fun K hK => ?_) ?_
  · go_simp
    refine hK.out _ _ ?_ (fun hHeld1 => ?_)
    · exact ⟨(World.cell?_alloc_lt W1 _ _ hlt).trans c0, (World.cell?_alloc_lt W1 _ _ hlt).trans c1⟩
    clear hK K
    refine wpAnyH_ready (rs := [16]) (by kernel_rfl) (by simp) ?_
    refine AllReadyH.cons rfl (fun K hK => ?_) ?_
    · refine step_append_src _ rfl 54 rfl (.tmp 38) (.tmp 53) _ _ rfl W1.heap.size 5 i0 _ 1 Tryz.underlying31 hi hz0 hz1 hz2 rfl (.slice (some ⟨W1.heap.size, 0, none⟩) 0 0) 0 [] rfl (World.ownsRow_made (e := 5) (size := 1) W1.drew #[] 0 (Nat.le_refl _) (Nat.zero_le _) rfl) (.slice (cutA A c k) d (c - k)) d (bcells ((xs.drop k).take d)) rfl ?_ (by simp only [maxLen]; omega) (by omega) (by simp) ?_
      · have hb1 : BAt (W1.alloc (.cells #[] 5)) W1.heap.size (cutA A c k) ((xs.drop k).take d) := HX.out.below ((Below.refl _ W1).alloc (Nat.le_refl _) _)
        have := BAt.src (P := Tryz.prog) (w := W1.drew.alloc (.cells #[] 5)) (B := W1.heap.size) Tryz.underlying31 hb1 (c - k)
        rw [HL.out] at this
        exact this
      · intro v2 w2 ho2 hg2 hat2
        have hB : Below W1.heap.size W1 w2 := Below.grown (w := (W1.alloc (.cells #[] 5)).drew) ((Below.refl _ W1).alloc (Nat.le_refl _) _).drew hg2 (by simp) (by simp [Value.ownBlock])
        refine hK.out _ _ ⟨(hB.cell (p := ⟨h, 0, none⟩) hlt).trans c0, (hB.cell (p := ⟨h, 1, none⟩) hlt).trans c1⟩ (fun hHeld2 => ?_)
        have HB := Lib.hid hB
        have HO := Lib.hid ho2
        clear hK K hB ho2 hg2 hat2 hHeld1 hHeld
        simp only [Act.put, List.setIfInBounds_toArray, List.set_cons_zero, List.set_cons_succ]
        refine takeH_at 17 4 (v := ?_) rfl rfl (by kernel_rfl) (by kernel_rfl) (by kernel_rfl) (fun _ _ _ h => h) (Or.inl ⟨by rfl, ?_⟩) (by assumption) ?_
        rotate_left
        · (intro wx hSw; (try dsimp only at hSw); go_simp) <;> with_reducible rfl
        simp only [Act.put, List.setIfInBounds_toArray, List.set_cons_zero, List.set_cons_succ]
        refine wpAnyH_done (by kernel_rfl) ?_ _
        refine NoPanic.normal ?_
        go_wp2
        go_ret
        have hok : takeOk ⟨xs.drop k, false⟩ (d : Int) := ⟨rfl, by omega, by simp only [List.length_drop]; omega⟩
        refine ⟨v2, rfl, ?_, ?_, grownBy_trans HG.out (grownBy_of_below HB.out (Nat.le_refl _) _)⟩
        · simp only [takeV, if_pos hok, Int.toNat_natCast]
          rw [HL.out]
          have := own_base HO.out HG.out.size
          simpa using this
        · simp only [takeS, if_pos hok, Int.toNat_natCast]
          exact ⟨k + d, HR.out.below HB.out (Nat.le_refl _), by rw [List.drop_drop]⟩
    exact AllReadyH.nil
  exact AllReadyH.nil
end
end Go.Proofs.YtehgpnnfjgmiiaaGreat
end
section
namespace Go.Proofs.YtehgpnnfjgmiiaaGreat
set_option maxRecDepth 100000
open Go.RowKit
set_option linter.unusedVariables false

section
variable {w w' : World} {h : Nat} {A : Option Addr} {c : Nat} {xs : List UInt8} {k : Nat} {bad : Bool}

set_option maxRecDepth 100000 in
theorem rrtake_no (r : RRd w h A c xs k bad) (n : Int) (hn : n ≤ 9223372036854775807) (hno : ¬ takeOk ⟨xs.drop k, bad⟩ n) : Calls Tryz.prog 44 #[.pointer (some ⟨h, 0, none⟩), .int .i64 n] w (RTakeP w h A c xs ⟨xs.drop k, bad⟩ n) := by
  obtain ⟨c0, c1, c2, f⟩ := r.cells
  have hl : xs.length ≤ 900000 := r.2.2.2.2.1
  have hk : k ≤ xs.length := r.2.2.1
  have HF := Lib.hid (fun n => rfail_any (r.drewN n))
  have R : ∀ m w', RRd w' h A c xs xs.length true → (w.drewN m).grownBy w' (some h) → RTakeP w h A c xs ⟨xs.drop k, bad⟩ n (.returned (.slice none 0 0)) w' := fun m w' q1 q2 =>
    ⟨_, rfl, by simp only [takeV, if_neg hno]; exact World.ownsRow_nil _ _ _ _, by simp only [takeS, if_neg hno]; exact RRS.failed q1, grownBy_trans (grownBy_drewN m _) q2⟩
  have HR := Lib.hid R
  have hno' : bad = true ∨ n < 0 ∨ (xs.length : Int) - (k : Int) < n := by
    by_cases hb : bad = true
    · exact .inl hb
    · right
      by_cases h0 : n < 0
      · exact .inl h0
      · right
        refine Int.not_le.1 fun hle => hno ⟨by simpa using hb, by omega, by simp only [List.length_drop]; omega⟩
  clear r R hno
  by_cases hb : bad = true
  · subst hb
    clear hno'
    go_enter Tryz.func44, Tryz.ntmps44
    go_wp2
    go_quiet (fail)
    go_wp2_with (go_at_call 74; refine (HF.out _).mono ?_; rintro e w1 ⟨rfl, hr1, hg1⟩)
    go_ret
    exact HR.out _ _ hr1 hg1
  · have hb' : bad = false := by simpa using hb
    subst hb'
    by_cases h0 : n < 0
    · clear hno' hb
      have q1 : decide (n < 0) = true := by simpa using h0
      go_enter Tryz.func44, Tryz.ntmps44
      go_wp2
      go_quiet (fail)
      go_wp2_with (go_at_call 74; refine (HF.out _).mono ?_; rintro e w1 ⟨rfl, hr1, hg1⟩)
      go_ret
      exact HR.out _ _ hr1 hg1
    · have h1 : (xs.length : Int) - (k : Int) < n := by
        rcases hno' with h | h | h
        · exact absurd h hb
        · exact absurd h h0
        · exact h
      clear hno' hb
      have q1 : decide (n < 0) = false := by simpa using h0
      have q2 : decide ((xs.length : Int) - (k : Int) < n) = true := by simpa using h1
      have q3 : (k : Int) ≤ (xs.length : Int) := by omega
      go_enter Tryz.func44, Tryz.ntmps44
      go_wp2
      go_quiet (fail)
      go_wp2_with (go_at_call 74; refine (HF.out _).mono ?_; rintro e w1 ⟨rfl, hr1, hg1⟩)
      go_ret
      exact HR.out _ _ hr1 hg1

theorem rrtake_any (r : RRd w h A c xs k bad) (n : Int) (hn : n ≤ 9223372036854775807) : Calls Tryz.prog 44 #[.pointer (some ⟨h, 0, none⟩), .int .i64 n] w (RTakeP w h A c xs ⟨xs.drop k, bad⟩ n) := by
  by_cases hok : takeOk ⟨xs.drop k, bad⟩ n
  · obtain ⟨hb, h0, hle⟩ := hok
    simp only [List.length_drop] at hb hle
    subst hb
    have hk : k ≤ xs.length := r.2.2.1
    obtain ⟨d, rfl⟩ : ∃ d : Nat, n = d := ⟨n.toNat, by omega⟩
    exact rrtake_yes r d (by omega)
  · exact rrtake_no r n hn hok

def RTxtP (w : World) (h : Nat) (A : Option Addr) (c : Nat) (xs : List UInt8) (s : St) (most : Int) (e : Ending) (w' : World) : Prop :=
  e = .returned (.string (bstr (txtV s most))) ∧ RRS w' h A c xs (txtS s most) ∧ w.grownBy w' (some h)

set_option maxRecDepth 100000 in
theorem rrtext_any (r : RRd w h A c xs k bad) (most : Int) (hm : most ≤ 9223372036854775807) : Calls Tryz.prog 96 #[.pointer (some ⟨h, 0, none⟩), .int .i64 most] w (RTxtP w h A c xs ⟨xs.drop k, bad⟩ most) := by
  have HN := Lib.hid (rrnum_any r 2 (by omega))
  by_cases hok2 : numOk ⟨xs.drop k, bad⟩ 2
  · -- the length is read
    obtain ⟨hb, _, _, hle⟩ := id hok2
    simp only [List.length_drop] at hb hle
    subst hb
    have hk : k ≤ xs.length := r.2.2.1
    have hl : xs.length ≤ 900000 := r.2.2.2.2.1
    obtain ⟨m, hm2⟩ : ∃ m, getN ((xs.drop k).take 2) = m := ⟨_, rfl⟩
    have hm16 := getN2_lt (xs.drop k)
    rw [hm2] at hm16
    have hN : Calls Tryz.prog 43 #[.pointer (some ⟨h, 0, none⟩), .int .i64 2] w fun e w' => e = .returned (.int .u64 (m : Int)) ∧ RRd w' h A c xs (k + 2) false ∧ w.grownBy w' (some h) :=
      HN.out.mono fun e w' ⟨he, ⟨k', hr, hy⟩, hg⟩ => by
        have e1 : numV ⟨xs.drop k, false⟩ 2 = m := by simp only [numV, if_pos hok2]; exact hm2
        have e2 : numS ⟨xs.drop k, false⟩ 2 = ⟨(xs.drop k).drop 2, false⟩ := by simp only [numS, if_pos hok2]; rfl
        rw [e1] at he
        rw [e2] at hr hy
        simp only [List.drop_drop] at hy
        have hk' : k' = k + 2 := by
          have h1 := congrArg List.length hy
          simp only [List.length_drop] at h1
          have := hr.2.2.1
          omega
        subst hk'
        exact ⟨he, hr, hg⟩
    have HN2 := Lib.hid hN
    by_cases h3 : (m : Int) ≤ most ∧ m ≤ 1024
    · obtain ⟨h3a, h3b⟩ := h3
      have e1 : txtV ⟨xs.drop k, false⟩ most = takeV ⟨xs.drop (k + 2), false⟩ (m : Int) ∧ txtS ⟨xs.drop k, false⟩ most = takeS ⟨xs.drop (k + 2), false⟩ (m : Int) := by
        by_cases h5 : m + 2 ≤ xs.length - k
        · have o1 : txtOk ⟨xs.drop k, false⟩ most := ⟨rfl, by simp only [List.length_drop]; omega, by rw [hm2]; exact h3a, by rw [hm2]; exact h3b, by rw [hm2]; simp only [List.length_drop]; omega⟩
          have o2 : takeOk ⟨xs.drop (k + 2), false⟩ (m : Int) := ⟨rfl, by omega, by simp only [List.length_drop]; omega⟩
          simp only [txtV, takeV, txtS, takeS, if_pos o1, if_pos o2, hm2, List.drop_drop, Int.toNat_natCast, and_self]
        · have o1 : ¬ txtOk ⟨xs.drop k, false⟩ most := by
            rintro ⟨_, _, _, _, q⟩
            rw [hm2] at q
            simp only [List.length_drop] at q
            omega
          have o2 : ¬ takeOk ⟨xs.drop (k + 2), false⟩ (m : Int) := by
            rintro ⟨_, _, q⟩
            simp only [List.length_drop] at q
            omega
          simp only [txtV, takeV, txtS, takeS, if_neg o1, if_neg o2, and_self]
      unfold RTxtP
      rw [e1.1, e1.2]
      have HT := Lib.hid (fun W (hr : RRd W h A c xs (k + 2) false) => rrtake_any hr (m : Int) (by omega))
      clear r HN hok2 e1 hm2 hN hle
      generalize hv : takeV ⟨xs.drop (k + 2), false⟩ (m : Int) = V at HT ⊢
      generalize hs : takeS ⟨xs.drop (k + 2), false⟩ (m : Int) = S' at HT ⊢
      have HT2 : ∀ W, RRd W h A c xs (k + 2) false → Calls Tryz.prog 44 #[.pointer (some ⟨h, 0, none⟩), .int .i64 (m : Int)] W fun e w' => ∃ v, e = .returned v ∧ (convert 31 9 v).run Tryz.prog w' = .ok (.string (bstr V)) w' ∧ RRS w' h A c xs S' ∧ W.grownBy w' (some h) := fun W hr =>
        (HT.out W hr).mono fun e w' ⟨v, he, ho, q1, q2⟩ => ⟨v, he, conv_own (by rw [hv] at ho; exact ho), by rw [hs] at q1; exact q1, q2⟩
      have HT3 := Lib.hid HT2
      clear HT HT2 hv hs
      go_enter Tryz.func96, Tryz.ntmps96
      go_wp2_with (first
        | (go_at_call 43; refine (HN2.out).mono ?_; rintro e w1 ⟨rfl, hr1, hg1⟩; obtain ⟨_, _, c2, _⟩ := hr1.cells; have HR1 := Lib.hid hr1; have HG1 := Lib.hid hg1; clear hr1 hg1)
        | (go_at_call 44; refine (HT3.out _ HR1.out).mono ?_; rintro e w2 ⟨v2, rfl, hc2, hr2, hg2⟩))
      go_ret
      exact ⟨rfl, hr2, grownBy_trans HG1.out hg2⟩
    · have h3' : most < (m : Int) ∨ 1024 < (m : Int) := by omega
      have o1 : ¬ txtOk ⟨xs.drop k, false⟩ most := by
        rintro ⟨_, _, q1, q2, _⟩
        rw [hm2] at q1 q2
        omega
      unfold RTxtP
      simp only [txtV, txtS, if_neg o1]
      have e0 : bstr [] = ⟨#[]⟩ := rfl
      rw [e0]
      have HF := Lib.hid (fun W (hr : RRd W h A c xs (k + 2) false) => rfail_any hr)
      clear r HN hok2 hm2 hN hle o1 h3 e0
      by_cases h4 : most < (m : Int)
      · clear h3'
        have q1 : decide (most < (m : Int)) = true := by simpa using h4
        go_enter Tryz.func96, Tryz.ntmps96
        go_wp2_with (first
          | (go_at_call 43; refine (HN2.out).mono ?_; rintro e w1 ⟨rfl, hr1, hg1⟩; obtain ⟨_, _, c2, _⟩ := hr1.cells; have HR1 := Lib.hid hr1; have HG1 := Lib.hid hg1; clear hr1 hg1)
          | (go_at_call 74; refine (HF.out _ HR1.out).mono ?_; rintro e w2 ⟨rfl, hr2, hg2⟩))
        go_ret
        exact ⟨rfl, RRS.failed hr2, grownBy_trans HG1.out hg2⟩
      · have h5 : 1024 < (m : Int) := by omega
        clear h3'
        have q1 : decide (most < (m : Int)) = false := by simpa using h4
        have q2 : decide (1024 < (m : Int)) = true := by simpa using h5
        go_enter Tryz.func96, Tryz.ntmps96
        go_wp2_with (first
          | (go_at_call 43; refine (HN2.out).mono ?_; rintro e w1 ⟨rfl, hr1, hg1⟩; obtain ⟨_, _, c2, _⟩ := hr1.cells; have HR1 := Lib.hid hr1; have HG1 := Lib.hid hg1; clear hr1 hg1)
          | (go_at_call 74; refine (HF.out _ HR1.out).mono ?_; rintro e w2 ⟨rfl, hr2, hg2⟩))
        go_ret
        exact ⟨rfl, RRS.failed hr2, grownBy_trans HG1.out hg2⟩
  · have o1 : ¬ txtOk ⟨xs.drop k, bad⟩ most := by
      rintro ⟨q0, q1, _⟩
      exact hok2 ⟨q0, by omega, by omega, by simp only at q1 ⊢; omega⟩
    have hN : Calls Tryz.prog 43 #[.pointer (some ⟨h, 0, none⟩), .int .i64 2] w fun e w' => e = .returned (.int .u64 0) ∧ (∃ k', RRd w' h A c xs k' true) ∧ w.grownBy w' (some h) :=
      HN.out.mono fun e w' ⟨he, ⟨k', hr, hy⟩, hg⟩ => by
        have e1 : numV ⟨xs.drop k, bad⟩ 2 = 0 := by simp only [numV, if_neg hok2]
        have e2 : numS ⟨xs.drop k, bad⟩ 2 = ⟨[], true⟩ := by simp only [numS, if_neg hok2]
        rw [e1] at he
        rw [e2] at hr
        exact ⟨he, ⟨k', hr⟩, hg⟩
    unfold RTxtP
    simp only [txtV, txtS, if_neg o1]
    have e0 : bstr [] = ⟨#[]⟩ := rfl
    rw [e0]
    have HN2 := Lib.hid hN
    have HF := Lib.hid (fun W k' (hr : RRd W h A c xs k' true) => rfail_any hr)
    clear r HN hok2 hN o1 e0
    go_enter Tryz.func96, Tryz.ntmps96
    go_wp2_with (first
      | (go_at_call 43; refine (HN2.out).mono ?_; rintro e w1 ⟨rfl, ⟨k', hr1⟩, hg1⟩; obtain ⟨_, _, c2, _⟩ := hr1.cells; have HR1 := Lib.hid hr1; have HG1 := Lib.hid hg1; clear hr1 hg1)
      | (go_at_call 74; refine (HF.out _ _ HR1.out).mono ?_; rintro e w2 ⟨rfl, hr2, hg2⟩))
    go_ret
    exact ⟨rfl, RRS.failed hr2, grownBy_trans HG1.out hg2⟩
end
end Go.Proofs.YtehgpnnfjgmiiaaGreat
end
section
namespace Go.Proofs.YtehgpnnfjgmiiaaGreat
set_option maxRecDepth 100000
open Go.RowKit
set_option linter.unusedVariables false

section
variable {w w' : World} {g h : Nat} {A : Option Addr} {c : Nat} {xs : List UInt8} {s s1 s2 : St}

theorem RRS.cells (r : RRS w h A c xs s) : ∃ k : Nat, w.heap[h]? = some (.cells #[.slice A xs.length c, .int .i64 (k : Int), .bool s.bad] 72 (0, 0)) := by
  obtain ⟨k, hr, _⟩ := r
  exact ⟨k, hr.1⟩
theorem RRS.below {B : Nat} (r : RRS w h A c xs s) (hb : Below B w w') (hB : w.heap.size ≤ B) : RRS w' h A c xs s := by
  obtain ⟨k, hr, hy⟩ := r
  exact ⟨k, hr.below hb hB, hy⟩

/-- Both readers, and what was there first. -/
def Pair (w0 : World) (g h : Nat) (A : Option Addr) (c : Nat) (xs : List UInt8) (w : World) (s1 s2 : St) : Prop :=
  RdrS w g s1 ∧ RRS w h A c xs s2 ∧ Below w0.heap.size w0 w ∧ w0.heap.size ≤ g ∧ w0.heap.size ≤ h ∧ g ≠ h

variable {w0 : World}
theorem Pair.below {B : Nat} (p : Pair w0 g h A c xs w s1 s2) (hb : Below B w w') (hB : w.heap.size ≤ B) : Pair w0 g h A c xs w' s1 s2 := by
  obtain ⟨p1, p2, p3, p4, p5, p6⟩ := p
  exact ⟨p1.below hb hB, p2.below hb hB, p3.trans (hb.mono (by have := p3.size; omega)), p4, p5, p6⟩
theorem Pair.drewN (p : Pair w0 g h A c xs w s1 s2) (n : Nat) : Pair w0 g h A c xs (w.drewN n) s1 s2 :=
  p.below (B := w.heap.size) ⟨rfl, rfl, rfl, Nat.le_refl _, fun _ _ => rfl⟩ (Nat.le_refl _)

theorem St.eta (s : St) {k : Nat} {bad : Bool} (h1 : s.ys = xs.drop k) (h2 : s.bad = bad) : s = ⟨xs.drop k, bad⟩ := by
  cases s
  simp only at h1 h2
  rw [h1, h2]

/-- What Take leaves, of whichever reader: an answer that reads as the string S here and later as long as only block x, older than it, is written. -/
def TakeQ (w w' : World) (x : Nat) (X : List UInt8) (e : Ending) : Prop := ∃ v, e = .returned v ∧ w'.ownsRow w.heap.size 5 1 v X.length (bcells X) ∧ w.grownBy w' (some x)
end
end Go.Proofs.YtehgpnnfjgmiiaaGreat
end
