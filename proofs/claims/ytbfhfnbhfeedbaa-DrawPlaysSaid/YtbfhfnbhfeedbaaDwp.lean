/- The walk of DrawPlays. Conditions: the arguments are values of their types. -/
import Derived.Test.YtbfhfnbhfeedbaaDpa
import Derived.Test.YtbfhfnbhfeedbaaDcv
namespace Go.Proofs.Ytbfhfnbhfeedbaa
set_option maxRecDepth 100000
set_option maxHeartbeats 4000000
open Go.RowKit Go.Lib Go.Great
/-- A call of a source: its kind, its number, its bytes and where they lie. -/
structure OpD where
  k : Int
  n : Int
  bs : List UInt8
  A : Option Addr
  c : Nat
deriving Inhabited
/-- The address leads to the calls l. -/
def OpdAt (w : World) (L : Option Addr) (l : List OpD) : Prop :=
  l = [] ∨ ∃ b off, L = some ⟨b, off, none⟩ ∧ b < w.heap.size ∧ ∀ j (hj : j < l.length), w.cell? ⟨b, off + j * 3, none⟩ = some (.int .i64 l[j].k) ∧ w.cell? ⟨b, off + j * 3 + 1, none⟩ = some (.int .i64 l[j].n) ∧ w.cell? ⟨b, off + j * 3 + 2, none⟩ = some (.slice l[j].A l[j].bs.length l[j].c) ∧ BAt w w.heap.size l[j].A l[j].bs ∧ -9223372036854775808 ≤ l[j].n ∧ l[j].n ≤ 9223372036854775807
def DpRel (w : World) (e m : Nat) (s i : Value) (wr : World) : Prop :=
  ∃ (j h : Nat) (go : Option Nat) (A : Option Addr) (c : Nat) (ys x : List UInt8), j ≤ m ∧ i = .int .i64 (j : Int) ∧ s = .pointer (some ⟨h, 0, none⟩) ∧ PQ w h e go A c ys x x wr ∧ ys.length ≤ 4000 + 4000 * j
theorem drawplays_big (A L : Option Addr) (c d l m : Nat) (w : World) (h : 4000 < l ∨ 100 < m) :
    Calls Try.prog 3 #[.slice A l c, .slice L m d] w fun e w' => e = .returned (.bool true) ∧ Below w.heap.size w w' := by
  have HL := Lib.hid (lives_any w)
  have hq : (4000 : Int) < (l : Int) ∨ (¬ (4000 : Int) < (l : Int) ∧ (100 : Int) < (m : Int)) := by omega
  clear h
  rcases hq with q | ⟨q, q2⟩
  all_goals
    go_enter Try.func3, Try.ntmps3
    go_wp2_with (go_at_call 10; (with_reducible refine HL.out.mono ?_); rintro e w1 ⟨rfl, hb1⟩)
    go_ret
    exact ⟨rfl, hb1⟩
theorem drawplays_in (A L : Option Addr) (c d : Nat) (bs : List UInt8) (l : List OpD) (w : World) (hA : BAt w w.heap.size A bs) (hb : bs.length ≤ 4000) (hL : OpdAt w L l) (hm : l.length ≤ 100) :
    Calls Try.prog 3 #[.slice A bs.length c, .slice L l.length d] w fun e w' => e = .returned (.bool true) ∧ Below w.heap.size w w' := by
  have HN := Lib.hid (new_any c hA (by omega))
  have q1 : ¬ (4000 : Int) < (bs.length : Int) := by omega
  have q2 : ¬ (100 : Int) < (l.length : Int) := by omega
  have HP0 : Hid (∀ w1 h go, DMade w1 h go bs → w.heap.size ≤ h → (∀ g, go = some g → w.heap.size ≤ g) → Below w.heap.size w w1 → DpRel w w1.heap.size l.length (.pointer (some ⟨h, 0, none⟩)) (.int .i64 0) (w1.alloc (.cells #[.slice A bs.length c, .int .i64 0] 29))) := by
    refine Lib.hid (fun w1 h go m hh hg b => ⟨0, h, go, A, c, bs, bs, Nat.zero_le _, rfl, rfl, ⟨?_, ?_, b.alloc b.size _, hh, hg, b.size, ?_⟩, by omega⟩)
    · have hba : Below w1.heap.size w1 (w1.alloc (.cells #[.slice A bs.length c, .int .i64 0] 29)) := (Below.refl _ w1).alloc (Nat.le_refl _) _
      exact m.keep (hba.block h m.lt) (fun g e => hba.block g ((DMade.st m).lt.2 g e))
    · have hba : Below w1.heap.size w1 (w1.alloc (.cells #[.slice A bs.length c, .int .i64 0] 29)) := (Below.refl _ w1).alloc (Nat.le_refl _) _
      refine ⟨0, ⟨heap_alloc_new w1 _, ?_, by omega, by omega⟩, rfl⟩
      have h1 := (hA.below b).more b.size
      exact (h1.below hba).more hba.size
    · intro g off e hy e2
      have := hg g e2
      rcases hA with h0 | ⟨g', off', e', hlt, _⟩
      · exact hy h0
      · rw [e] at e'; injection e' with q; injection q with q1 q2; omega
  have HLV : Hid (∀ w3, Below w.heap.size w w3 → Calls Try.prog 10 #[] w3 fun e w4 => e = .returned (.bool true) ∧ Below w.heap.size w w4) := Lib.hid (fun w3 hb3 => (lives_any w3).mono (by rintro e w4 ⟨rfl, hb4⟩; exact ⟨rfl, hb3.trans (hb4.mono hb3.size)⟩))
  have HOP := Lib.hid hL
  have HMM := Lib.hid hm
  clear hA hb hL hm
  generalize bs.length = lb at *
  go_enter Try.func3, Try.ntmps3
  go_upto_region 8 with (go_at_call 11; (with_reducible refine HN.out.mono ?_); rintro d1 w1 ⟨h, go, rfl, hm1, hh1, hgo1, hb1⟩)
  have R0 := Lib.hid (HP0.out w1 h go hm1 hh1 hgo1 hb1)
  clear HP0 HN hm1 hh1 hgo1 hb1 q1 q2
  generalize hE : w1.heap.size = E at *
  generalize w1.alloc (.cells #[.slice A lb c, .int .i64 0] 29) = w1a at *
  clear hE
  go_loopw [5, 29] (DpRel w E l.length) (fun _ i _ => l.length - (RowKit.intOf i).toNat)
  case atStart => exact R0.out
  case round =>
    clear R0
    obtain ⟨j, h, go, A, c, ys, x, hj, rfl, rfl, hp, hys⟩ := hrel
    by_cases hlt : j < l.length
    · have hlt' : (j : Int) < (l.length : Int) := by omega
      obtain ⟨b, off, rfl, hbB, hcell⟩ : ∃ b off, L = some ⟨b, off, none⟩ ∧ b < w.heap.size ∧ ∀ j (hj : j < l.length), w.cell? ⟨b, off + j * 3, none⟩ = some (.int .i64 l[j].k) ∧ w.cell? ⟨b, off + j * 3 + 1, none⟩ = some (.int .i64 l[j].n) ∧ w.cell? ⟨b, off + j * 3 + 2, none⟩ = some (.slice l[j].A l[j].bs.length l[j].c) ∧ BAt w w.heap.size l[j].A l[j].bs ∧ -9223372036854775808 ≤ l[j].n ∧ l[j].n ≤ 9223372036854775807 := by
        rcases HOP.out with h0 | h0
        · rw [h0] at hlt
          simp at hlt
        · exact h0
      obtain ⟨hcK, hcN, hcB, hBs, hn0, hn⟩ := hcell j hlt
      have hcK' := (hp.b.cell (p := ⟨b, off + j * 3, none⟩) hbB).trans hcK
      have hcN' := (hp.b.cell (p := ⟨b, off + j * 3 + 1, none⟩) hbB).trans hcN
      have hcB' := (hp.b.cell (p := ⟨b, off + j * 3 + 2, none⟩) hbB).trans hcB
      have hj100 : j < 100 := by have := HMM.out; omega
      generalize l[j].k = kd at hcK'
      generalize l[j].n = n at hcN' hn hn0
      generalize l[j].bs = us at hcB' hBs
      generalize l[j].A = A2 at hcB' hBs
      generalize l[j].c = c2 at hcB'
      clear hcK hcN hcB hcell HOP HMM
      have HBS := Lib.hid hBs
      have HREL : Hid (∀ h go A c ys' x wr', PQ w h E go A c ys' x x wr' → ys'.length ≤ ys.length + 4000 → DpRel w E l.length (.pointer (some ⟨h, 0, none⟩)) (.int .i64 ((j : Int) + 1)) wr') := Lib.hid (fun h go A c ys' x wr' p hy => ⟨j + 1, h, go, A, c, ys', x, by omega, by go_num, rfl, p, by omega⟩)
      have hys2 : ys.length + 4000 ≤ 900000 := by omega
      have HYS := Lib.hid hys2
      have hpl := hp.lt
      have HP := Lib.hid hp
      clear hp hBs hys hys2
      obtain ⟨ul, hul⟩ : ∃ ul, ul = us.length := ⟨_, rfl⟩
      have HUL := Lib.hid hul
      rw [← hul] at hcB'
      clear hul
      by_cases hbig : 4000 < ul
      · have hbig' : (4000 : Int) < (ul : Int) := by omega
        have HLV2 : Hid (∀ u, Calls Try.prog 10 #[] (wr.alloc u) fun e w4 => e = .returned (.bool true) ∧ Below w.heap.size w w4) := Lib.hid (fun u => HLV.out _ (HP.out.b.alloc HP.out.b.size u))
        clear HLV HP HREL
        go_wp2_with (go_at_call 10; (with_reducible refine (HLV2.out _).mono ?_); rintro d5 w5 ⟨rfl, hb5⟩)
        go_ret
        exact ⟨rfl, hb5⟩
      have hbig' : ¬ (4000 : Int) < (ul : Int) := by omega
      have hq0 : Hid (∀ i v, (wr.alloc (.cells #[.int .i64 kd, .int .i64 n, .slice A2 ul c2] 31)).cell? ⟨wr.heap.size, i, none⟩ = some v → QC (wr.alloc (.cells #[.int .i64 kd, .int .i64 n, .slice A2 ul c2] 31)) h E go wr.heap.size i v) := Lib.hid (fun i v hv => ⟨hv, by omega, by omega, fun e => by have := hpl.2.2 _ e; omega⟩)
      have HPW : Hid (PQ w h E go A c ys x x (wr.alloc (.cells #[.int .i64 kd, .int .i64 n, .slice A2 ul c2] 31))) := Lib.hid (HP.out.below ((Below.refl _ wr).alloc (Nat.le_refl _) _) (Nat.le_refl _))
      clear HLV HP hpl
      by_cases h0 : kd = 0
      · subst h0
        obtain ⟨x', hx'⟩ : ∃ x', x' = x.tail := ⟨_, rfl⟩
        obtain ⟨v, hv⟩ : ∃ v : Nat, v = (x.headD 0).toNat := ⟨_, rfl⟩
        have H1 : Hid (∀ W, PQ w h E go A c ys x x W → Calls Try.prog 12 #[.pointer (some ⟨h, 0, none⟩)] W fun d w2 => d = .returned (.int .u8 (v : Int)) ∧ PQ w h E go A c ys x' x w2) := by rw [hx', hv]; exact Lib.hid (fun W p => pbyte p)
        have H2 : Hid (∀ W, PQ w h E go A c ys x' x W → Calls Try.prog 13 #[.pointer (some ⟨E, 0, none⟩)] W fun d w2 => d = .returned (.int .u8 (v : Int)) ∧ PQ w h E go A c ys x' x' w2) := by rw [hx', hv]; exact Lib.hid (fun W p => rbyte p)
        clear hx' hv HBS HYS HUL hq0
        go_wp2_with (first
          | (go_at_call 12; (with_reducible refine (H1.out _ HPW.out).mono ?_); rintro d2 w2 ⟨rfl, p2⟩)
          | (go_at_call 13; (with_reducible refine (H2.out _ p2).mono ?_); rintro d3 w3 ⟨rfl, P3⟩)
          | (go_at_call 23; (with_reducible refine (pleft P3).mono ?_); rintro d4 w4 ⟨rfl, p4⟩)
          | (go_at_call 24; (with_reducible refine (rleft p4).mono ?_); rintro d5 w5 ⟨rfl, p5⟩))
        go_roundw
        case rel => exact HREL.out _ _ _ _ _ _ _ p5 (by omega)
        case measure => simp [RowKit.intOf]; omega
      by_cases h1 : kd = 1
      · subst h1
        clear h0
        obtain ⟨x', hx'⟩ : ∃ x', x' = (numL n x).2 := ⟨_, rfl⟩
        obtain ⟨v, hv⟩ : ∃ v : Nat, v = (numL n x).1 := ⟨_, rfl⟩
        have H1 : Hid (∀ q W, PQ w h E go A c ys x x W → QC W h E go q 1 (.int .i64 n) → Calls Try.prog 14 #[.pointer (some ⟨h, 0, none⟩), .int .i64 n] W fun d w2 => d = .returned (.int .i64 (v : Int)) ∧ PQ w h E go A c ys x' x w2 ∧ QC w2 h E go q 1 (.int .i64 n)) := by rw [hx', hv]; exact Lib.hid (fun q W p k => pnum p n hn k)
        have H2 : Hid (∀ q W, PQ w h E go A c ys x' x W → QC W h E go q 1 (.int .i64 n) → Calls Try.prog 15 #[.pointer (some ⟨E, 0, none⟩), .int .i64 n] W fun d w2 => d = .returned (.int .i64 (v : Int)) ∧ PQ w h E go A c ys x' x' w2 ∧ QC w2 h E go q 1 (.int .i64 n)) := by rw [hx', hv]; exact Lib.hid (fun q W p k => rnum p n hn k)
        clear hx' hv HBS HYS HUL
        go_wp2
        have hk := hq0.out 1 (.int .i64 n) (by go_simp)
        generalize wr.heap.size = q at *
        generalize wr.alloc (.cells #[.int .i64 1, .int .i64 n, .slice A2 ul c2] 31) = W at *
        have hqd : W.drew.cell? ⟨q, 1, none⟩ = some (.int .i64 n) := hk.1
        have HK : Hid (QC W.drew h E go q 1 (.int .i64 n)) := Lib.hid hk
        have HPD : Hid (PQ w h E go A c ys x x W.drew) := Lib.hid (HPW.out.drewN 1)
        clear hk hq0 HPW hcK' hcN' hcB'
        go_region_held3 (fun w' => w'.cell? ⟨q, 1, none⟩ = some (.int .i64 n)) (assumption) (first
          | (go_at_call 14; (with_reducible refine (H1.out _ _ HPD.out HK.out).mono ?_); rintro d2 w2 ⟨rfl, p2, k2⟩; have hq2 : w2.cell? ⟨q, 1, none⟩ = some (.int .i64 n) := k2.1; have HP2 := Lib.hid p2; have HK2 := Lib.hid k2; clear p2 k2)
          | (go_at_call 15; (with_reducible refine (H2.out _ _ HP2.out HK2.out).mono ?_); rintro d3 w3 ⟨rfl, P3, k3⟩; have hq3 : w3.cell? ⟨q, 1, none⟩ = some (.int .i64 n) := k3.1; clear k3))
        clear hqd hq2 hq3 HPD HP2 HK HK2 H1 H2
        go_wp2_with (first
          | (go_at_call 23; (with_reducible refine (pleft P3).mono ?_); rintro d4 w4 ⟨rfl, p4⟩)
          | (go_at_call 24; (with_reducible refine (rleft p4).mono ?_); rintro d5 w5 ⟨rfl, p5⟩))
        go_roundw
        case rel => exact HREL.out _ _ _ _ _ _ _ p5 (by omega)
        case measure => simp [RowKit.intOf]; omega
      by_cases h2 : kd = 2
      · subst h2
        clear h0 h1
        obtain ⟨x', hx'⟩ : ∃ x', x' = (eat 4 x).2 := ⟨_, rfl⟩
        obtain ⟨v, hv⟩ : ∃ v : Nat, v = (eat 4 x).1 := ⟨_, rfl⟩
        have H1 : Hid (∀ W, PQ w h E go A c ys x x W → Calls Try.prog 16 #[.pointer (some ⟨h, 0, none⟩)] W fun d w2 => d = .returned (.int .u32 (v : Int)) ∧ PQ w h E go A c ys x' x w2) := by rw [hx', hv]; exact Lib.hid (fun W p => pword p)
        have H2 : Hid (∀ W, PQ w h E go A c ys x' x W → Calls Try.prog 17 #[.pointer (some ⟨E, 0, none⟩)] W fun d w2 => d = .returned (.int .u32 (v : Int)) ∧ PQ w h E go A c ys x' x' w2) := by rw [hx', hv]; exact Lib.hid (fun W p => rword p)
        clear hx' hv HBS HYS HUL hq0
        go_wp2_with (first
          | (go_at_call 16; (with_reducible refine (H1.out _ HPW.out).mono ?_); rintro d2 w2 ⟨rfl, p2⟩)
          | (go_at_call 17; (with_reducible refine (H2.out _ p2).mono ?_); rintro d3 w3 ⟨rfl, P3⟩)
          | (go_at_call 23; (with_reducible refine (pleft P3).mono ?_); rintro d4 w4 ⟨rfl, p4⟩)
          | (go_at_call 24; (with_reducible refine (rleft p4).mono ?_); rintro d5 w5 ⟨rfl, p5⟩))
        go_roundw
        case rel => exact HREL.out _ _ _ _ _ _ _ p5 (by omega)
        case measure => simp [RowKit.intOf]; omega
      by_cases h3 : kd = 3
      · subst h3
        clear h0 h1 h2
        obtain ⟨x', hx'⟩ : ∃ x', x' = x.drop (min n 1024).toNat := ⟨_, rfl⟩
        obtain ⟨sL, hsL⟩ : ∃ sL, sL = bstr (padT (min n 1024).toNat x) := ⟨_, rfl⟩
        have H1 : Hid (∀ q W, PQ w h E go A c ys x x W → QC W h E go q 1 (.int .i64 n) → Calls Try.prog 18 #[.pointer (some ⟨h, 0, none⟩), .int .i64 n] W fun d w2 => ∃ v2, d = .returned v2 ∧ OwnE w2 v2 E (padT (min n 1024).toNat x) ∧ (convert 22 9 v2).run Try.prog w2 = .ok (.string sL) w2 ∧ PQ w h E go A c ys x' x w2 ∧ QC w2 h E go q 1 (.int .i64 n)) := by
          refine Lib.hid (fun q W p k => (ptake p n hn hn0 k).mono ?_)
          rintro d w2 ⟨⟨v2, rfl, o⟩, p2, k2⟩
          rw [hx', hsL]
          exact ⟨v2, rfl, ⟨_, _, o, p.lt.2.1⟩, conv_own o, p2, k2⟩
        have H2 : Hid (∀ q W v2, PQ w h E go A c ys x' x W → QC W h E go q 1 (.int .i64 n) → OwnE W v2 E (padT (min n 1024).toNat x) → Calls Try.prog 19 #[.pointer (some ⟨E, 0, none⟩), .int .i64 n] W fun d w3 => ∃ v3, d = .returned v3 ∧ (convert 22 9 v3).run Try.prog w3 = .ok (.string sL) w3 ∧ (convert 22 9 v2).run Try.prog w3 = .ok (.string sL) w3 ∧ PQ w h E go A c ys x' x' w3 ∧ QC w3 h E go q 1 (.int .i64 n)) := by
          refine Lib.hid (fun q W v2 p k o2 => (rtake p n hn hn0 k).mono ?_)
          rintro d w3 ⟨⟨v3, rfl, o, g⟩, p2, k2⟩
          rw [← hx'] at p2
          rw [hsL]
          exact ⟨v3, rfl, conv_own o, (o2.grown g).conv, p2, k2⟩
        clear hx' hsL HBS HYS HUL
        go_wp2
        have hk := hq0.out 1 (.int .i64 n) (by go_simp)
        generalize wr.heap.size = q at *
        generalize wr.alloc (.cells #[.int .i64 3, .int .i64 n, .slice A2 ul c2] 31) = W at *
        have hqd : W.drew.cell? ⟨q, 1, none⟩ = some (.int .i64 n) := hk.1
        have HK : Hid (QC W.drew h E go q 1 (.int .i64 n)) := Lib.hid hk
        have HPD : Hid (PQ w h E go A c ys x x W.drew) := Lib.hid (HPW.out.drewN 1)
        clear hk hq0 HPW hcK' hcN' hcB'
        refine wp_region_noPanic ?_
        refine wp_region_held_drew (S := fun w' => w'.cell? ⟨q, 1, none⟩ = some (.int .i64 n)) (by kernel_rfl) hqd (fun hHeld => ?_)
        refine takeH_at 0 74 (v := ?_) rfl rfl (by kernel_rfl) (by kernel_rfl) (by kernel_rfl) (fun _ _ _ h => h) (Or.inl ⟨by rfl, ?_⟩) (by assumption) ?_
        rotate_left
        · (intro wx hSw; (try dsimp only at hSw); go_simp) <;> with_reducible rfl
        simp only [Act.put, List.setIfInBounds_toArray, List.set_cons_zero, List.set_cons_succ]
        refine takeH_at 1 75 (v := ?_) rfl rfl (by kernel_rfl) (by kernel_rfl) (by kernel_rfl) (fun _ _ _ h => h) (Or.inl ⟨by rfl, ?_⟩) (by assumption) ?_
        rotate_left
        · (intro wx hSw; (try dsimp only at hSw); go_simp) <;> with_reducible rfl
        simp only [Act.put, List.setIfInBounds_toArray, List.set_cons_zero, List.set_cons_succ]
        refine takeH_at 2 76 (v := ?_) rfl rfl (by kernel_rfl) (by kernel_rfl) (by kernel_rfl) (fun _ _ _ h => h) (Or.inl ⟨by rfl, ?_⟩) (by assumption) ?_
        rotate_left
        · (intro wx hSw; (try dsimp only at hSw); go_simp) <;> with_reducible rfl
        simp only [Act.put, List.setIfInBounds_toArray, List.set_cons_zero, List.set_cons_succ]
        refine takeH_at 5 79 (v := ?_) rfl rfl (by kernel_rfl) (by kernel_rfl) (by kernel_rfl) (fun _ _ _ h => h) (Or.inl ⟨by rfl, ?_⟩) (by assumption) ?_
        rotate_left
        · (intro wx hSw; (try dsimp only at hSw); go_simp) <;> with_reducible rfl
        simp only [Act.put, List.setIfInBounds_toArray, List.set_cons_zero, List.set_cons_succ]
        refine takeH_at 6 80 (v := ?_) rfl rfl (by kernel_rfl) (by kernel_rfl) (by kernel_rfl) (fun _ _ _ h => h) (Or.inl ⟨by rfl, ?_⟩) (by assumption) ?_
        rotate_left
        · (intro wx hSw; (try dsimp only at hSw); go_simp) <;> with_reducible rfl
        simp only [Act.put, List.setIfInBounds_toArray, List.set_cons_zero, List.set_cons_succ]
        refine takeH_at 7 81 (v := ?_) rfl rfl (by kernel_rfl) (by kernel_rfl) (by kernel_rfl) (fun _ _ _ h => h) (Or.inl ⟨by rfl, ?_⟩) (by assumption) ?_
        rotate_left
        · (intro wx hSw; (try dsimp only at hSw); go_simp) <;> with_reducible rfl
        simp only [Act.put, List.setIfInBounds_toArray, List.set_cons_zero, List.set_cons_succ]
        refine wpAnyH_ready (rs := [3]) (by kernel_rfl) (by simp) ?_
        refine AllReadyH.cons rfl (fun K hK => ?_) ?_
        · go_simp
          go_wp2_with (go_at_call 18; (with_reducible refine (H1.out _ _ HPD.out HK.out).mono ?_); rintro d2 w2 ⟨v2, rfl, ho2, hc2, p2, k2⟩; have hq2 : w2.cell? ⟨q, 1, none⟩ = some (.int .i64 n) := k2.1; have HP2 := Lib.hid p2; have HK2 := Lib.hid k2; have HO2 := Lib.hid ho2; clear p2 k2 ho2)
          refine hK.out _ _ (by assumption) (fun hHeld => ?_)
          clear hK K
          refine wpAnyH_ready (rs := [4, 8]) (by kernel_rfl) (by simp) ?_
          refine AllReadyH.cons rfl (fun K hK => ?_) ?_
          · go_simp
            refine hK.out _ _ (by assumption) (fun hHeld => ?_)
            clear hK K
            refine wpAnyH_ready (rs := [8]) (by kernel_rfl) (by simp) ?_
            refine AllReadyH.cons rfl (fun K hK => ?_) ?_
            · go_simp
              go_wp2_with (go_at_call 19; (with_reducible refine (H2.out _ _ _ HP2.out HK2.out HO2.out).mono ?_); rintro d3 w3 ⟨v3, rfl, hc3, hc4, P3, k3⟩; have hq3 : w3.cell? ⟨q, 1, none⟩ = some (.int .i64 n) := k3.1; clear k3)
              refine hK.out _ _ (by assumption) (fun hHeld => ?_)
              clear hK K
              refine wpAnyH_ready (rs := [9]) (by kernel_rfl) (by simp) ?_
              refine AllReadyH.cons rfl (fun K hK => ?_) ?_
              · go_simp
                refine hK.out _ _ (by assumption) (fun hHeld => ?_)
                clear hK K
                refine takeH_at 10 84 (v := ?_) rfl rfl (by kernel_rfl) (by kernel_rfl) (by kernel_rfl) (fun _ _ _ h => h) (Or.inl ⟨by rfl, ?_⟩) (by assumption) ?_
                rotate_left
                · (intro wx hSw; (try dsimp only at hSw); go_simp) <;> with_reducible rfl
                simp only [Act.put, List.setIfInBounds_toArray, List.set_cons_zero, List.set_cons_succ]
                refine takeH_at 11 9 (v := ?_) rfl rfl (by kernel_rfl) (by kernel_rfl) (by kernel_rfl) (fun _ _ _ h => h) (Or.inl ⟨by rfl, ?_⟩) (by assumption) ?_
                rotate_left
                · (intro wx hSw; (try dsimp only at hSw); go_simp) <;> with_reducible rfl
                simp only [Act.put, List.setIfInBounds_toArray, List.set_cons_zero, List.set_cons_succ]
                refine wpAnyH_done (by kernel_rfl) ?_ _
                refine NoPanic.normal ?_
                clear hqd hq2 hq3 HPD HP2 HK HK2 H1 H2 hHeld
                go_wp2_with (first
                  | (go_at_call 23; (with_reducible refine (pleft P3).mono ?_); rintro d4 w4 ⟨rfl, p4⟩)
                  | (go_at_call 24; (with_reducible refine (rleft p4).mono ?_); rintro d5 w5 ⟨rfl, p5⟩))
                go_roundw
                case rel => exact HREL.out _ _ _ _ _ _ _ p5 (by omega)
                case measure => simp [RowKit.intOf]; omega
              exact AllReadyH.nil
            exact AllReadyH.nil
          refine AllReadyH.cons rfl (fun K hK => ?_) ?_
          · go_simp
            go_wp2_with (go_at_call 19; (with_reducible refine (H2.out _ _ _ HP2.out HK2.out HO2.out).mono ?_); rintro d3 w3 ⟨v3, rfl, hc3, hc4, P3, k3⟩; have hq3 : w3.cell? ⟨q, 1, none⟩ = some (.int .i64 n) := k3.1; clear k3)
            refine hK.out _ _ (by assumption) (fun hHeld => ?_)
            clear hK K
            refine wpAnyH_ready (rs := [4, 9]) (by kernel_rfl) (by simp) ?_
            refine AllReadyH.cons rfl (fun K hK => ?_) ?_
            · go_simp
              refine hK.out _ _ (by assumption) (fun hHeld => ?_)
              clear hK K
              refine wpAnyH_ready (rs := [9]) (by kernel_rfl) (by simp) ?_
              refine AllReadyH.cons rfl (fun K hK => ?_) ?_
              · go_simp
                refine hK.out _ _ (by assumption) (fun hHeld => ?_)
                clear hK K
                refine takeH_at 10 84 (v := ?_) rfl rfl (by kernel_rfl) (by kernel_rfl) (by kernel_rfl) (fun _ _ _ h => h) (Or.inl ⟨by rfl, ?_⟩) (by assumption) ?_
                rotate_left
                · (intro wx hSw; (try dsimp only at hSw); go_simp) <;> with_reducible rfl
                simp only [Act.put, List.setIfInBounds_toArray, List.set_cons_zero, List.set_cons_succ]
                refine takeH_at 11 9 (v := ?_) rfl rfl (by kernel_rfl) (by kernel_rfl) (by kernel_rfl) (fun _ _ _ h => h) (Or.inl ⟨by rfl, ?_⟩) (by assumption) ?_
                rotate_left
                · (intro wx hSw; (try dsimp only at hSw); go_simp) <;> with_reducible rfl
                simp only [Act.put, List.setIfInBounds_toArray, List.set_cons_zero, List.set_cons_succ]
                refine wpAnyH_done (by kernel_rfl) ?_ _
                refine NoPanic.normal ?_
                clear hqd hq2 hq3 HPD HP2 HK HK2 H1 H2 hHeld
                go_wp2_with (first
                  | (go_at_call 23; (with_reducible refine (pleft P3).mono ?_); rintro d4 w4 ⟨rfl, p4⟩)
                  | (go_at_call 24; (with_reducible refine (rleft p4).mono ?_); rintro d5 w5 ⟨rfl, p5⟩))
                go_roundw
                case rel => exact HREL.out _ _ _ _ _ _ _ p5 (by omega)
                case measure => simp [RowKit.intOf]; omega
              exact AllReadyH.nil
            refine AllReadyH.cons rfl (fun K hK => ?_) ?_
            · go_simp
              refine hK.out _ _ (by assumption) (fun hHeld => ?_)
              clear hK K
              refine wpAnyH_ready (rs := [4]) (by kernel_rfl) (by simp) ?_
              refine AllReadyH.cons rfl (fun K hK => ?_) ?_
              · go_simp
                refine hK.out _ _ (by assumption) (fun hHeld => ?_)
                clear hK K
                refine takeH_at 10 84 (v := ?_) rfl rfl (by kernel_rfl) (by kernel_rfl) (by kernel_rfl) (fun _ _ _ h => h) (Or.inl ⟨by rfl, ?_⟩) (by assumption) ?_
                rotate_left
                · (intro wx hSw; (try dsimp only at hSw); go_simp) <;> with_reducible rfl
                simp only [Act.put, List.setIfInBounds_toArray, List.set_cons_zero, List.set_cons_succ]
                refine takeH_at 11 9 (v := ?_) rfl rfl (by kernel_rfl) (by kernel_rfl) (by kernel_rfl) (fun _ _ _ h => h) (Or.inl ⟨by rfl, ?_⟩) (by assumption) ?_
                rotate_left
                · (intro wx hSw; (try dsimp only at hSw); go_simp) <;> with_reducible rfl
                simp only [Act.put, List.setIfInBounds_toArray, List.set_cons_zero, List.set_cons_succ]
                refine wpAnyH_done (by kernel_rfl) ?_ _
                refine NoPanic.normal ?_
                clear hqd hq2 hq3 HPD HP2 HK HK2 H1 H2 hHeld
                go_wp2_with (first
                  | (go_at_call 23; (with_reducible refine (pleft P3).mono ?_); rintro d4 w4 ⟨rfl, p4⟩)
                  | (go_at_call 24; (with_reducible refine (rleft p4).mono ?_); rintro d5 w5 ⟨rfl, p5⟩))
                go_roundw
                case rel => exact HREL.out _ _ _ _ _ _ _ p5 (by omega)
                case measure => simp [RowKit.intOf]; omega
              exact AllReadyH.nil
            exact AllReadyH.nil
          exact AllReadyH.nil
        exact AllReadyH.nil
      by_cases h4 : kd = 4
      · subst h4
        clear h0 h1 h2 h3
        have hus : us.length ≤ 4000 := by have := HUL.out; omega
        obtain ⟨x', hx'⟩ : ∃ x', x' = (if x.length + us.length ≤ 65536 then x ++ us else x) := ⟨_, rfl⟩
        obtain ⟨v, hv⟩ : ∃ v : Int, v = (if x.length + us.length ≤ 65536 then 0 else 31) := ⟨_, rfl⟩
        have H1 : Hid (∀ q W, PQ w h E go A c ys x x W → QC W h E go q 2 (.slice A2 ul c2) → Calls Try.prog 20 #[.pointer (some ⟨h, 0, none⟩), .slice A2 ul c2] W fun d w2 => ∃ go', d = .returned (.int .i64 v) ∧ PQ w h E go' A c ys x' x w2 ∧ QC w2 h E go' q 2 (.slice A2 ul c2)) := by rw [hx', hv, HUL.out]; exact Lib.hid (fun q W p k => padd p hus HBS.out k)
        have H2 : Hid (∀ q go W, PQ w h E go A c ys x' x W → QC W h E go q 2 (.slice A2 ul c2) → Calls Try.prog 21 #[.pointer (some ⟨E, 0, none⟩), .slice A2 ul c2] W fun d w2 => ∃ A' c' ys', d = .returned (.int .i64 v) ∧ PQ w h E go A' c' ys' x' x' w2 ∧ ys'.length ≤ ys.length + 4000 ∧ QC w2 h E go q 2 (.slice A2 ul c2)) := by
          refine Lib.hid (fun q go W p k => ?_)
          have := HYS.out
          rw [HUL.out] at k ⊢
          refine (radd p hus (by omega) HBS.out k).mono ?_
          rintro d w2 ⟨A', c', ys', rfl, p2, hl, k2⟩
          rw [← hx'] at p2
          rw [← hv]
          exact ⟨A', c', ys', rfl, p2, by omega, k2⟩
        clear hx' hv HBS HYS HUL hus
        go_wp2
        have hk := hq0.out 2 (.slice A2 ul c2) (by go_simp)
        generalize wr.heap.size = q at *
        generalize wr.alloc (.cells #[.int .i64 4, .int .i64 n, .slice A2 ul c2] 31) = W at *
        have hqd : W.drew.cell? ⟨q, 2, none⟩ = some (.slice A2 ul c2) := hk.1
        have HK : Hid (QC W.drew h E go q 2 (.slice A2 ul c2)) := Lib.hid hk
        have HPD : Hid (PQ w h E go A c ys x x W.drew) := Lib.hid (HPW.out.drewN 1)
        clear hk hq0 HPW hcK' hcN' hcB'
        go_region_held3 (fun w' => w'.cell? ⟨q, 2, none⟩ = some (.slice A2 ul c2)) (assumption) (first
          | (go_at_call 20; (with_reducible refine (H1.out _ _ HPD.out HK.out).mono ?_); rintro d2 w2 ⟨go2, rfl, p2, k2⟩; have hq2 : w2.cell? ⟨q, 2, none⟩ = some (.slice A2 ul c2) := k2.1; have HP2 := Lib.hid p2; have HK2 := Lib.hid k2; clear p2 k2)
          | (go_at_call 21; (with_reducible refine (H2.out _ _ _ HP2.out HK2.out).mono ?_); rintro d3 w3 ⟨A3, c3, ys3, rfl, P3, hl3, k3⟩; have hq3 : w3.cell? ⟨q, 2, none⟩ = some (.slice A2 ul c2) := k3.1; have HL3 := Lib.hid hl3; clear k3 hl3))
        clear hqd hq2 hq3 HPD HP2 HK HK2 H1 H2
        go_wp2_with (first
          | (go_at_call 23; (with_reducible refine (pleft P3).mono ?_); rintro d4 w4 ⟨rfl, p4⟩)
          | (go_at_call 24; (with_reducible refine (rleft p4).mono ?_); rintro d5 w5 ⟨rfl, p5⟩))
        go_roundw
        case rel => exact HREL.out _ _ _ _ _ _ _ p5 (HL3.out)
        case measure => simp [RowKit.intOf]; omega
      have H1 : Hid (∀ W, PQ w h E go A c ys x x W → Calls Try.prog 22 #[.pointer (some ⟨h, 0, none⟩)] W fun d w2 => ∃ h' go', d = .returned (.pointer (some ⟨h', 0, none⟩)) ∧ Calls Try.prog 18 #[.pointer (some ⟨h, 0, none⟩), .int .i64 7] w2 (fun d w3 => (∃ A c l, d = .returned (.slice A l c)) ∧ PQ w h' E go' A c ys x x w3)) := by
        refine Lib.hid (fun W p => (pclone p).mono ?_)
        rintro d w2 ⟨h', go', rfl, p2, m2, e1, e2, e3⟩
        exact ⟨h', go', rfl, potake p2 m2 p.hh e1 e2 7 (by omega) (by omega)⟩
      clear HBS HYS HUL hq0
      go_wp2_with (first
        | (go_at_call 22; (with_reducible refine (H1.out _ HPW.out).mono ?_); rintro d2 w2 ⟨h', go', rfl, hc2⟩)
        | (go_at_call 18; (with_reducible refine hc2.mono ?_); rintro d3 w3 ⟨⟨A7, c7, l7, rfl⟩, P3⟩)
        | (go_at_call 23; (with_reducible refine (pleft P3).mono ?_); rintro d4 w4 ⟨rfl, p4⟩)
        | (go_at_call 24; (with_reducible refine (rleft p4).mono ?_); rintro d5 w5 ⟨rfl, p5⟩))
      go_roundw
      case rel => exact HREL.out _ _ _ _ _ _ _ p5 (by omega)
      case measure => simp [RowKit.intOf]; omega
    · obtain rfl : j = l.length := by omega
      have HLV2 := Lib.hid (HLV.out _ hp.b)
      clear HLV hp HOP
      go_wp2_with (go_at_call 10; (with_reducible refine HLV2.out.mono ?_); rintro d5 w5 ⟨rfl, hb5⟩)
      go_ret
      exact ⟨rfl, hb5⟩
theorem drawplays_any (A L : Option Addr) (c d : Nat) (bs : List UInt8) (l : List OpD) (w : World) (hA : BAt w w.heap.size A bs) (hL : OpdAt w L l) :
    Calls Try.prog 3 #[.slice A bs.length c, .slice L l.length d] w fun e w' => e = .returned (.bool true) ∧ Below w.heap.size w w' := by
  by_cases h : 4000 < bs.length ∨ 100 < l.length
  · exact drawplays_big A L c d _ _ w h
  · exact drawplays_in A L c d bs l w hA (by omega) hL (by omega)
end Go.Proofs.Ytbfhfnbhfeedbaa
