/- Plain facts on reading lists of contacts. No condition. The walk of the statement ContactBack: it answers true. Conditions: the bytes ahead and behind are fewer than 2^47 each. ReadList of the reference. Conditions: at most 900,000 bytes. -/
import Derived.Test.YtehgpnnfjgmiiaaGreatVOja
import Derived.Test.YtehgpnnfjgmiiaaGreatVObd
import Derived.Test.YtehgpnnfjgmiiaaGreatVIiv
import Derived.Test.YtehgpnnfjgmiiaaGreatVObc
import Derived.Test.YtehgpnnfjgmiiaaGreatVROcc
import Derived.Test.YtehgpnnfjgmiiaaGreatVRERefb
import Derived.Test.YtehgpnnfjgmiiaaGreatVRKCdk
import Derived.Test.YtehgpnnfjgmiiaaGreatVRIip
import Derived.Test.YtehgpnnfjgmiiaaGreatVREOctc
import Derived.Test.YtehgpnnfjgmiiaaGreatVNCdq
section
namespace Go.Proofs.YtehgpnnfjgmiiaaGreat
set_option maxRecDepth 100000
theorem rdK_bytes {xs : List UInt8} (h : rdOk xs) : ctB (rdK xs).1 = xs ∧ ctGood (rdK xs).1 = true := by
  have hc : rdC xs = some (rdK xs).1 := by
    unfold rdC rdK
    rw [if_pos (show xs.length = 26 ∧ getN ((xs.drop 20).take 4) ≠ 0 ∧ getN (((xs.drop 20).drop 4).take 2) ≠ 0 from h), dif_pos h]
  obtain ⟨_, h2, h3⟩ := rdC_some hc
  exact ⟨h3, h2⟩
theorem good_default : ctGood (default : Con).1 = false := by decide +kernel
theorem flatC_cons (c : Con) (L : List Con) : flatC (ctsC (c :: L)) = ctB c.1 ++ flatC (ctsC L) := by
  unfold ctsC flatC
  rw [List.map_cons, List.flatMap_cons]
theorem flatC_app (L M : List Con) : flatC (ctsC (L ++ M)) = flatC (ctsC L) ++ flatC (ctsC M) := by
  unfold ctsC flatC
  rw [List.map_append, List.flatMap_append]
/-- Contacts that are all good were read. -/
theorem nxI_good (ys : List UInt8) : ∀ n : Nat, (∀ c ∈ (nxI n ⟨ys, false⟩).1, ctGood c.1 = true) → 26 * n ≤ ys.length ∧ (nxI n ⟨ys, false⟩).2 = ⟨ys.drop (26 * n), false⟩ ∧ flatC (ctsC (nxI n ⟨ys, false⟩).1) = ys.take (26 * n)
  | 0, _ => ⟨by omega, rfl, rfl⟩
  | n + 1, h => by
    rw [nxI] at h ⊢
    obtain ⟨h1, h2, h3⟩ := nxI_good ys n (fun c hc => h c (List.mem_append_left _ hc))
    have hc := h _ (List.mem_append_right _ (List.mem_singleton.2 rfl))
    rw [h2] at hc ⊢
    have hl : 26 ≤ (ys.drop (26 * n)).length := by
      by_cases hl : 26 ≤ (ys.drop (26 * n)).length
      · exact hl
      · exfalso
        have := (nx_short (ys.drop (26 * n)) (by omega)).1
        unfold nxC at hc
        rw [dif_neg this, good_default] at hc
        cases hc
    have hl' := hl
    rw [List.length_drop] at hl'
    have hcon := nx_con _ hl
    have hok : rdOk ((ys.drop (26 * n)).take 26) := by
      by_cases hk : rdOk ((ys.drop (26 * n)).take 26)
      · exact hk
      · exfalso
        rw [hcon] at hc
        unfold rdK at hc
        rw [dif_neg hk, good_default] at hc
        cases hc
    refine ⟨by omega, ?_, ?_⟩
    · simp only
      rw [(nx_long _ hl).2, List.drop_drop, show 26 * n + 26 = 26 * (n + 1) by omega]
    · simp only
      rw [flatC_app, h3, flatC_cons, hcon, (rdK_bytes hok).1]
      show _ ++ (_ ++ []) = _
      rw [List.append_nil, show 26 * (n + 1) = 26 * n + 26 by omega, List.take_add]
theorem num1_cons (b : UInt8) (ys : List UInt8) : numV ⟨b :: ys, false⟩ 1 = b.toNat ∧ numS ⟨b :: ys, false⟩ 1 = ⟨ys, false⟩ := by
  have hk : numOk ⟨b :: ys, false⟩ 1 := ⟨rfl, by omega, by omega, by show (1 : Int) ≤ ((b :: ys).length : Int); simp only [List.length_cons]; omega⟩
  unfold numV numS
  rw [if_pos hk, if_pos hk]
  refine ⟨?_, rfl⟩
  show getN ([b]) = _
  rw [getN_cons]
  simp [getN]
theorem num1_nil : numV ⟨[], false⟩ 1 = 0 ∧ numS ⟨[], false⟩ 1 = ⟨[], true⟩ := by
  have hk : ¬ numOk ⟨[], false⟩ 1 := fun h => by have := h.2.2.2; simp at this
  unfold numV numS
  rw [if_neg hk, if_neg hk]
  exact ⟨rfl, rfl⟩
/-- What is read is good, and has just those bytes; or the reader is bad. -/
theorem rl_cases (ys : List UInt8) : (rlL ⟨ys, false⟩ = [] ∧ rlS ⟨ys, false⟩ = ⟨[], true⟩) ∨ (goodC (ctsC (rlL ⟨ys, false⟩)) = true ∧ (rlS ⟨ys, false⟩).bad = false ∧ ys = listC (ctsC (rlL ⟨ys, false⟩)) ++ (rlS ⟨ys, false⟩).ys) := by
  by_cases hr : rlG ⟨ys, false⟩ = true
  · cases ys with
    | nil =>
      left
      unfold rlL rlS
      rw [hr, if_pos rfl, if_pos rfl, num1_nil.1, num1_nil.2]
      exact ⟨rfl, rfl⟩
    | cons b ys =>
      right
      have hr' := hr
      unfold rlG at hr'
      obtain ⟨n1, n2⟩ := num1_cons b ys
      unfold rlL rlS
      rw [hr, if_pos rfl, if_pos rfl]
      rw [n1, n2] at hr' ⊢
      obtain ⟨a1, a2, a3⟩ := nxI_good ys b.toNat (fun c hc => goodC_all hr' _ (List.mem_map.2 ⟨c, hc, rfl⟩))
      refine ⟨hr', by rw [a2], ?_⟩
      unfold listC
      rw [a2, a3, show (ctsC (nxI b.toNat ⟨ys, false⟩).1).length = b.toNat by unfold ctsC; rw [List.length_map, nxI_len], UInt8.ofNat_toNat]
      show b :: ys = b :: (ys.take _ ++ ys.drop _)
      rw [List.take_append_drop]
  · have hr' : rlG ⟨ys, false⟩ = false := by cases h : rlG ⟨ys, false⟩ with | true => exact absurd h hr | false => rfl
    left
    unfold rlL rlS
    rw [hr']
    exact ⟨rfl, rfl⟩
end Go.Proofs.YtehgpnnfjgmiiaaGreat
end
section
namespace Go.Proofs.YtehgpnnfjgmiiaaGreat
open Go.Shelf Go.RowKit Go.Lib Go.Sort Go.Great
set_option maxRecDepth 100000
set_option maxHeartbeats 2000000
theorem own_formE {e : TypeId} {w : World} {base n : Nat} {v : Value} {L : List Con} (h : w.ownsRow base e 22 v n (flatE encC L)) : ∃ A c, v = .slice A n c ∧ n = L.length ∧ CAt w w.heap.size A L ∧ (A = none ∨ ∃ g off, A = some ⟨g, off, none⟩) := by
  have hl := h.1
  rw [flatE_length encC_length] at hl
  have hn : n = L.length := by omega
  rcases h.2 with ⟨rfl, h0⟩ | ⟨g, cap, cur, rfl, hb, hg, hc, hm, hs, ht⟩
  · exact ⟨none, 0, by rw [h0], hn, .inl (List.eq_nil_of_length_eq_zero (by omega)), .inl rfl⟩
  · refine ⟨some ⟨g, 0, none⟩, cap, rfl, hn, .inr ⟨g, 0, rfl, (Array.getElem?_eq_some_iff.1 hg).1, fun j u hu => ?_⟩, .inr ⟨g, 0, rfl⟩⟩
    rw [Nat.zero_add, cell_of_row w g j _ e (0, 0) hg]
    rw [← ht, List.getElem?_take] at hu
    split at hu
    · simpa using hu
    · cases hu
section
variable {w W W' : World} {g : Nat} {s s' : St}
end
end Go.Proofs.YtehgpnnfjgmiiaaGreat
end
section
namespace Go.Proofs.YtehgpnnfjgmiiaaGreat
open Go.Shelf Go.RowKit Go.Lib Go.Sort Go.Great
set_option maxRecDepth 100000
set_option maxHeartbeats 1000000
section
variable {w w' : World} {h c B : Nat} {A : Option Addr} {xs : List UInt8} {s s' : St}
end
theorem nxI_mem (s : St) : ∀ (N j : Nat), j < N → nxC (nxI j s).2 ∈ (nxI N s).1
  | 0, _, h => by omega
  | N + 1, j, h => by
    rw [nxI]
    by_cases hj : j = N
    · subst hj
      exact List.mem_append_right _ (List.mem_singleton.2 rfl)
    · exact List.mem_append_left _ (nxI_mem s N j (by omega))
/-- A read that fails leaves no list. -/
theorem rl_fail {s : St} {N j : Nat} (hN : N = numV s 1) (hj : j < N) (hc : nxC (nxI j (numS s 1)).2 = default) : rlL s = [] ∧ rlS s = ⟨[], true⟩ := by
  have hm := nxI_mem (numS s 1) N j hj
  rw [hc] at hm
  have : rlG s = false := by
    cases hg : rlG s with
    | false => rfl
    | true =>
      unfold rlG at hg
      rw [← hN] at hg
      have := goodC_all hg _ (List.mem_map.2 ⟨_, hm, rfl⟩)
      rw [good_default] at this
      cases this
  unfold rlL rlS
  rw [this]
  exact ⟨rfl, rfl⟩
/-- One read of 26 bytes, beside the program's. -/
theorem take26_cases (ys : List UInt8) : (rdE (takeV ⟨ys, false⟩ 26) = 0 ∧ rdK (takeV ⟨ys, false⟩ 26) = nxC ⟨ys, false⟩ ∧ takeS ⟨ys, false⟩ 26 = nxS ⟨ys, false⟩ ∧ (nxS ⟨ys, false⟩).bad = false) ∨ (rdE (takeV ⟨ys, false⟩ 26) = 10 ∧ rdK (takeV ⟨ys, false⟩ 26) = default ∧ nxC ⟨ys, false⟩ = default) := by
  by_cases hl : 26 ≤ ys.length
  · have hk : takeOk ⟨ys, false⟩ 26 := ⟨rfl, by omega, by show (26 : Int) ≤ (ys.length : Int); omega⟩
    have e1 : takeV ⟨ys, false⟩ 26 = ys.take 26 := by unfold takeV; rw [if_pos hk]; rfl
    have e2 : takeS ⟨ys, false⟩ 26 = ⟨ys.drop 26, false⟩ := by unfold takeS; rw [if_pos hk]; rfl
    rw [e1, e2, nx_con ys hl, (nx_long ys hl).2]
    by_cases hr : rdOk (ys.take 26)
    · left
      exact ⟨by unfold rdE; rw [if_pos hr], rfl, rfl, rfl⟩
    · right
      have : rdK (ys.take 26) = default := by unfold rdK; rw [dif_neg hr]
      exact ⟨by unfold rdE; rw [if_neg hr], this, this⟩
  · right
    have hk : ¬ takeOk ⟨ys, false⟩ 26 := fun h => by have := h.2.2; change (26 : Int) ≤ (ys.length : Int) at this; omega
    have e1 : takeV ⟨ys, false⟩ 26 = [] := by unfold takeV; rw [if_neg hk]
    have hr : ¬ rdOk [] := fun h => by have := h.1; cases this
    rw [e1]
    exact ⟨by unfold rdE; rw [if_neg hr], by unfold rdK; rw [dif_neg hr], by unfold nxC; rw [dif_neg (nx_short ys (by omega)).1]⟩
/-- While ReadList of the reference runs. -/
structure RLF (w1 : World) (h : Nat) (A : Option Addr) (c : Nat) (xs : List UInt8) (s : St) (u : Value) (L : List Con) (W : World) : Prop where
  own : W.ownsRow w1.heap.size 90 22 u L.length (flatE encC L)
  rd : RRB W h A c xs s w1.heap.size
  gr : w1.grownBy W (some h)
  hl : h < w1.heap.size
section
variable {w1 W W' : World} {h c : Nat} {A : Option Addr} {xs : List UInt8} {s s' : St} {u v : Value} {L M : List Con}
theorem RLF.bel (r : RLF w1 h A c xs s u L W) (hb : Below W.heap.size W W') : RLF w1 h A c xs s u L W' := ⟨own_belC r.own hb, r.rd.bel hb, grownBy_trans r.gr (grown_of_bel hb _), r.hl⟩
theorem RLF.read (r : RLF w1 h A c xs s u L W) (n : RRS W' h A c xs s') (hg : W.grownBy W' (some h)) : RLF w1 h A c xs s' u L W' := by
  refine ⟨r.own.kept hg ?_, r.rd.read n hg, grownBy_trans r.gr hg, r.hl⟩
  cases hk : u.ownBlock with
  | none => exact .inl rfl
  | some k =>
    right
    have := (r.own.lt k hk).1
    have := r.hl
    intro e
    injection e with e
    omega
theorem RLF.app (r : RLF w1 h A c xs s u L W) (o : W'.ownsRow w1.heap.size 90 22 v M.length (flatE encC M)) (hg : W.grownBy W' u.ownBlock) : RLF w1 h A c xs s v M W' := by
  have hob : ∀ k, u.ownBlock = some k → w1.heap.size ≤ k := fun k hk => (r.own.lt k hk).1
  have hs := r.gr.size
  refine ⟨o, r.rd.keep (hg.block h r.rd.lt (by intro e; have := hob h (by first | exact e | exact e.symm); have := r.hl; omega)) hg.size (fun i hi => hg.block i (by omega) (by intro e; have := hob i (by first | exact e | exact e.symm); omega)), ?_, r.hl⟩
  exact ⟨hg.os.trans r.gr.os, hg.tape.trans r.gr.tape, hg.output.trans r.gr.output, Nat.le_trans r.gr.size hg.size, fun i hi hne => (hg.block i (Nat.lt_of_lt_of_le hi r.gr.size) (by intro e; have := hob i (by first | exact e | exact e.symm); omega)).trans (r.gr.block i hi hne)⟩
end
def RrIs (w : World) (h : Nat) (A : Option Addr) (c : Nat) (xs : List UInt8) (s : St) (e : Ending) (w' : World) : Prop :=
  ∃ B k, e = .returned (.slice B (rlL s).length k) ∧ CAt w' w'.heap.size B (rlL s) ∧ RRS w' h A c xs (rlS s) ∧ w.grownBy w' (some h)
theorem rcreadlist_any {w : World} {h c : Nat} {A : Option Addr} {xs : List UInt8} {s : St} (r : RRS w h A c xs s) : Calls Tryz.prog 46 #[.pointer (some ⟨h, 0, none⟩)] w (RrIs w h A c xs s) := by
  have HN := Lib.hid (rrnum_s r 1 (by omega))
  unfold RNumP at HN
  obtain ⟨N, hN⟩ : ∃ N, N = numV s 1 := ⟨_, rfl⟩
  have hN1 : N < 256 := by rw [hN]; exact numV1_lt s
  obtain ⟨s1, hs1⟩ : ∃ s1, s1 = numS s 1 := ⟨_, rfl⟩
  have hs1b : 0 < N → s1.bad = false := by
    intro h0
    rw [hs1]
    unfold numS
    rw [hN] at h0
    unfold numV at h0
    split
    · rfl
    · rename_i hk
      rw [if_neg hk] at h0
      omega
  rw [← hN, ← hs1] at HN
  have HE : Hid (N = numV s 1 ∧ s1 = numS s 1) := Lib.hid ⟨hN, hs1⟩
  have HS1B := Lib.hid hs1b
  have hwr : IntKind.i64.wrap (N : Int) = (N : Int) := by rw [IntKind.wrap_i64]; omega
  clear r hN hs1 hs1b
  go_enter Tryz.func46, Tryz.ntmps46
  go_upto_region 4 with (first | (go_at_call 43; (with_reducible refine HN.out.mono ?_); rintro e1 w1 ⟨rfl, hr1, hg1⟩))
  have HG1 := Lib.hid hg1
  have hgl := hr1.rb.lt
  have F0 : Hid (RLF w1 h A c xs s1 (.slice none 0 0) [] w1) := Lib.hid ⟨World.ownsRow_nil w1 _ 90 22, hr1.rb, World.grownBy.refl _ _, hgl⟩
  clear HN hr1 hg1
  go_loopg [4, 5] N (fun kx s4 s5 wr => ∃ (j : Nat), j ≤ N ∧ N - j ≤ kx ∧ s5 = .int .i64 (j : Int) ∧ RLF w1 h A c xs (nxI j s1).2 s4 (nxI j s1).1 wr ∧ (0 < N → (nxI j s1).2.bad = false))
  case atStart => exact ⟨0, by omega, by omega, rfl, F0.out, HS1B.out⟩
  case round =>
    obtain ⟨j, hj, hkx, rfl, hF, hbd⟩ := hrel
    clear F0
    by_cases hlt : j < N
    · have hlt' : (j : Int) < (N : Int) := by omega
      have HF := Lib.hid hF
      have HMISS : Hid (nxC (nxI j s1).2 = default → rlL s = [] ∧ rlS s = ⟨[], true⟩) := Lib.hid (fun hc => rl_fail (j := j) HE.out.1 hlt (by rw [← HE.out.2]; exact hc))
      have hIL := nxI_len j s1
      have hI1 : nxI (j + 1) s1 = ((nxI j s1).1 ++ [nxC (nxI j s1).2], nxS (nxI j s1).2) := by rw [nxI]
      obtain ⟨L, hL⟩ : ∃ L, L = (nxI j s1).1 := ⟨_, rfl⟩
      obtain ⟨sj, hsj⟩ : ∃ sj, sj = (nxI j s1).2 := ⟨_, rfl⟩
      rw [← hL, ← hsj] at hF HF hI1
      rw [← hL] at hIL
      rw [← hsj] at HMISS hbd
      have hsb := hbd (by omega)
      obtain ⟨ys, hys⟩ : ∃ ys, sj = ⟨ys, false⟩ := ⟨sj.ys, by cases sj; simp only at hsb; rw [hsb]⟩
      have hcase := take26_cases ys
      rw [← hys] at hcase
      have HRW2 : Hid (∀ W sx B k, RLF w1 h A c xs sx u4 L W → BAt W W.heap.size B (takeV sj 26) → (takeV sj 26).length ≤ k → Calls Tryz.prog 75 #[.slice B (takeV sj 26).length k] W fun e w' => e = .returned (.tuple #[.agg (encC (rdK (takeV sj 26))).toArray, .int .i64 (rdE (takeV sj 26))]) ∧ RLF w1 h A c xs sx u4 L w') := by
        refine Lib.hid (fun W sx B k f hB hk => (rcread_any B k (takeV sj 26) W hB hk).mono ?_)
        rintro e w' ⟨rfl, hb⟩
        exact ⟨rfl, f.bel hb⟩
      have HTK : Hid (Calls Tryz.prog 44 #[.pointer (some ⟨h, 0, none⟩), .int .i64 26] wr fun e w' => ∃ B k, e = .returned (.slice B (takeV sj 26).length k) ∧ BAt w' w'.heap.size B (takeV sj 26) ∧ (takeV sj 26).length ≤ k ∧ RLF w1 h A c xs (takeS sj 26) u4 L w') := by
        refine Lib.hid ((rrtake_s hF.rd.rs 26 (by omega)).mono ?_)
        rintro e w' ⟨v, rfl, ho, hr, hg⟩
        obtain ⟨B, k, rfl, hk, hB⟩ := BsIs.of_own ho
        exact ⟨B, k, rfl, hB, hk, hF.read hr hg⟩
      obtain ⟨tl, htl⟩ : ∃ tl, tl = (takeV sj 26).length := ⟨_, rfl⟩
      rw [← htl] at HRW2 HTK
      rcases hcase with ⟨hE, hK, hS, hSb⟩ | ⟨hE, hK, hc⟩
      · rw [hE, hK] at HRW2
        rw [hS] at HTK
        obtain ⟨x, hx⟩ : ∃ x, x = nxC sj := ⟨_, rfl⟩
        rw [← hx] at HRW2 hI1
        have HNEW : Hid (∀ (W : World) (v : Value) (W' : World), RLF w1 h A c xs (nxS sj) u4 L W → W'.ownsRow w1.heap.size 90 22 v (L ++ [x]).length (flatE encC (L ++ [x])) → ((W.alloc (.cells (encC x).toArray 90)).alloc (.cells (encC x).toArray 90)).grownBy W' u4.ownBlock → RLF w1 h A c xs (nxI (j + 1) s1).2 v (nxI (j + 1) s1).1 W' ∧ (0 < N → (nxI (j + 1) s1).2.bad = false)) := by
          refine Lib.hid (fun W v W' f o hg => ?_)
          rw [hI1]
          have f2 := f.bel (((Below.refl _ W).alloc (Nat.le_refl _) (.cells (encC x).toArray 90)).alloc (by simp) (.cells (encC x).toArray 90))
          exact ⟨f2.app o hg, fun _ => hSb⟩
        have HOWN : Hid (∀ W, RLF w1 h A c xs (nxS sj) u4 L W → ((W.alloc (.cells (encC x).toArray 90)).alloc (.cells (encC x).toArray 90)).ownsRow w1.heap.size 90 22 u4 L.length (flatE encC L) ∧ w1.heap.size ≤ ((W.alloc (.cells (encC x).toArray 90)).alloc (.cells (encC x).toArray 90)).heap.size) := by
          refine Lib.hid (fun W f => ?_)
          have f2 := f.bel (((Below.refl _ W).alloc (Nat.le_refl _) (.cells (encC x).toArray 90)).alloc (by simp) (.cells (encC x).toArray 90))
          exact ⟨f2.own, f2.gr.size⟩
        have HLX : Hid (∀ W : World, (loadVar 90 ⟨W.heap.size, 0, none⟩).run Tryz.prog (W.alloc (.cells (encC x).toArray 90)) = .ok (.agg (encC x).toArray) (W.alloc (.cells (encC x).toArray 90))) := Lib.hid (fun W => load73 (row_range (heap_alloc_new W (.cells (encC x).toArray 90))))
        have HLE : Hid (L.length + [x].length ≤ 1000000) := Lib.hid (by rw [hIL]; simp; omega)
        clear hF HF HMISS hL hsj hIL hI1 hbd hsb hys htl hE hK hS hSb hx
        go_wp2_with (first
          | (go_at_call 44; (with_reducible refine HTK.out.mono ?_); rintro e2 w2 ⟨B2, k2, rfl, hB2, hk2, f2⟩)
          | (go_at_call 75; (with_reducible refine (HRW2.out _ _ _ _ f2 hB2 hk2).mono ?_); rintro e3 w3 ⟨rfl, f3⟩; have ho3 := HOWN.out _ f3)
          | (with_reducible refine wpList_alloc73a (o := ⟨some 6, _, _, _, _, _⟩) rfl 6 rfl rfl ?_)
          | ((with_reducible refine wpList_store73a (o := ⟨none, _, _, _, _, _⟩) rfl (.tmp 6) (.tmp 20) rfl default x ?_ ?_ ?_); rfl; rfl)
          | ((with_reducible refine wpList_loadV (op := ⟨some 27, _, _, _, _, _⟩) rfl 90 (.tmp 6) rfl _ ?_ _ (HLX.out _) ?_); rfl)
          | ((with_reducible refine wpList_build_oneC conR x (o := ⟨some 28, _, _, _, _, _⟩) rfl (.tmp 27) rfl ?_ ?_); rfl)
          | (refine wpList_append_con conR rfl (.tmp 26) (.tmp 28) rfl w1.heap.size _ L [x] rfl ho3.1 _ rfl (src_newC conR x _) HLE.out ho3.2 ?_; intro v5 w5 ho5 hg5))
        go_roundg (N - (j + 1))
        case measure => omega
        case rel =>
          obtain ⟨q1, q2⟩ := HNEW.out _ _ _ f3 ho5 hg5
          exact ⟨j + 1, by omega, Nat.le_refl _, by go_num, q1, q2⟩
      · rw [hE, hK] at HRW2
        obtain ⟨q1, q2⟩ := HMISS.out hc
        have HNEG : Hid (∀ W sx, RLF w1 h A c xs sx u4 L W → Calls Tryz.prog 44 #[.pointer (some ⟨h, 0, none⟩), .int .i64 (-1)] (W.alloc (.cells (encC default).toArray 90)) fun e w' => ∃ v, e = .returned v ∧ RrIs w h A c xs s (.returned (.slice none 0 0)) w') := by
          refine Lib.hid (fun W sx f => ?_)
          have f2 := f.bel ((Below.refl _ W).alloc (Nat.le_refl _) (.cells (encC default).toArray 90))
          refine (rrtake_s f2.rd.rs (-1) (by omega)).mono ?_
          rintro e w' ⟨v, rfl, _, hr, hg⟩
          rw [takeS_neg] at hr
          exact ⟨v, rfl, none, 0, by rw [q1]; rfl, by rw [q1]; exact .inl rfl, by rw [q2]; exact hr, grownBy_trans HG1.out (grownBy_trans f2.gr hg)⟩
        clear hF HF HMISS hL hsj hIL hI1 hbd hsb hys htl hE hK hc q1 q2
        go_wp2_with (first
          | (go_at_call 44; (with_reducible refine HTK.out.mono ?_); rintro e2 w2 ⟨B2, k2, rfl, hB2, hk2, f2⟩)
          | (go_at_call 75; (with_reducible refine (HRW2.out _ _ _ _ f2 hB2 hk2).mono ?_); rintro e3 w3 ⟨rfl, f3⟩)
          | (with_reducible refine wpList_alloc73a (o := ⟨some 6, _, _, _, _, _⟩) rfl 6 rfl rfl ?_)
          | ((with_reducible refine wpList_store73a (o := ⟨none, _, _, _, _, _⟩) rfl (.tmp 6) (.tmp 20) rfl default default ?_ ?_ ?_); rfl; rfl)
          | (go_at_call 44; (with_reducible refine (HNEG.out _ _ f3).mono ?_); rintro e4 w4 ⟨v4, rfl, hfin⟩))
        go_ret
        exact hfin
    · obtain rfl : j = N := by omega
      have hlt' : ¬ (j : Int) < (j : Int) := by omega
      obtain ⟨L, hL⟩ : ∃ L, L = (nxI j s1).1 := ⟨_, rfl⟩
      obtain ⟨sj, hsj⟩ : ∃ sj, sj = (nxI j s1).2 := ⟨_, rfl⟩
      rw [← hL, ← hsj] at hF
      have hLl : L.length = j := by rw [hL]; exact nxI_len j s1
      have hgood : rlG s = goodC (ctsC L) := by unfold rlG; rw [← HE.out.1, ← HE.out.2, ← hL]
      have hlS : rlG s = true → rlL s = L ∧ rlS s = sj := fun hg => by
        unfold rlL rlS
        rw [hg, ← HE.out.1, ← HE.out.2, ← hL, ← hsj]
        exact ⟨rfl, rfl⟩
      have hlN : rlG s = false → rlL s = [] ∧ rlS s = ⟨[], true⟩ := fun hg => by
        unfold rlL rlS
        rw [hg]
        exact ⟨rfl, rfl⟩
      obtain ⟨A3, c3, hv3, _, hA, _⟩ := own_formE hF.own
      have HI := Lib.hid (rgoodlist_any A3 c3 L wr (by omega) hA)
      subst hv3
      by_cases hgd : goodC (ctsC L) = true
      · rw [hgd] at HI
        have HFI : Hid (∀ w2, Below wr.heap.size wr w2 → RrIs w h A c xs s (.returned (.slice A3 L.length c3)) w2) := by
          refine Lib.hid (fun w2 hb2 => ?_)
          obtain ⟨q1, q2⟩ := hlS (hgood.trans hgd)
          exact ⟨A3, c3, by rw [q1], by rw [q1]; exact (hA.below hb2).more hb2.size, by rw [q2]; exact (hF.bel hb2).rd.rs, grownBy_trans HG1.out (hF.bel hb2).gr⟩
        clear hA hF hbd hL hsj hgood hlS hlN hgd hLl HE HS1B
        generalize L.length = nl at *
        go_wp2_with (first | (go_at_call 34; (with_reducible refine HI.out.mono ?_); rintro e2 w2 ⟨rfl, hb2⟩))
        go_ret
        exact HFI.out _ hb2
      · have hgd' : goodC (ctsC L) = false := by cases h : goodC (ctsC L) with | true => exact absurd h hgd | false => rfl
        rw [hgd'] at HI
        obtain ⟨q1, q2⟩ := hlN (hgood.trans hgd')
        have HNEG : Hid (∀ w2, Below wr.heap.size wr w2 → Calls Tryz.prog 44 #[.pointer (some ⟨h, 0, none⟩), .int .i64 (-1)] w2 fun e w' => ∃ v, e = .returned v ∧ RrIs w h A c xs s (.returned (.slice none 0 0)) w') := by
          refine Lib.hid (fun w2 hb2 => ?_)
          have f2 := hF.bel hb2
          refine (rrtake_s f2.rd.rs (-1) (by omega)).mono ?_
          rintro e w' ⟨v, rfl, _, hr, hg⟩
          rw [takeS_neg] at hr
          exact ⟨v, rfl, none, 0, by rw [q1]; rfl, by rw [q1]; exact .inl rfl, by rw [q2]; exact hr, grownBy_trans HG1.out (grownBy_trans f2.gr hg)⟩
        clear hA hF hbd hL hsj hgood hlS hlN hgd hgd' hLl HE HS1B q1 q2
        generalize L.length = nl at *
        go_wp2_with (first
          | (go_at_call 34; (with_reducible refine HI.out.mono ?_); rintro e2 w2 ⟨rfl, hb2⟩)
          | (go_at_call 44; (with_reducible refine (HNEG.out _ hb2).mono ?_); rintro e4 w4 ⟨v4, rfl, hfin⟩))
        go_ret
        exact hfin
end Go.Proofs.YtehgpnnfjgmiiaaGreat
end
