/- Contract of Read of package contact. Conditions: at most 900,000 bytes. -/
import Derived.Test.YtbfhfnbhfeedbaaXCra
import Derived.Test.YtbfhfnbhfeedbaaXCdp
import Derived.Test.YtbfhfnbhfeedbaaXCdk
namespace Go.Proofs.Ytbfhfnbhfeedbaa
open Go.Shelf Go.RowKit Go.Lib Go.Sort Go.Great
set_option maxRecDepth 100000
set_option maxHeartbeats 1000000
/-- Bytes that are a contact; the contact, or the zero one; the error. -/
def rdOk (xs : List UInt8) : Prop := xs.length = 26 ∧ getN ((xs.drop 20).take 4) ≠ 0 ∧ getN (((xs.drop 20).drop 4).take 2) ≠ 0
instance (xs : List UInt8) : Decidable (rdOk xs) := by unfold rdOk; exact inferInstance
def rdK (xs : List UInt8) : Con := if h : rdOk xs then ⟨(xs.take 20, getN ((xs.drop 20).take 4), getN (((xs.drop 20).drop 4).take 2)), ⟨by rw [List.length_take]; have := h.1; omega, getN_lt' _ 4 (by rw [List.length_take]; omega), getN_lt' _ 2 (by rw [List.length_take]; omega)⟩⟩ else default
def rdE (xs : List UInt8) : Int := if rdOk xs then 0 else 10
theorem nx_take (xs : List UInt8) (h : 20 ≤ xs.length) : takeV ⟨xs, false⟩ 20 = xs.take 20 ∧ takeS ⟨xs, false⟩ 20 = ⟨xs.drop 20, false⟩ := by
  have hk : takeOk ⟨xs, false⟩ 20 := ⟨rfl, by omega, by show (20 : Int) ≤ (xs.length : Int); omega⟩
  unfold takeV takeS
  rw [if_pos hk, if_pos hk]
  exact ⟨rfl, rfl⟩
theorem nx_take6 (xs : List UInt8) (h : 6 ≤ xs.length) : takeV ⟨xs, false⟩ 6 = xs.take 6 ∧ takeS ⟨xs, false⟩ 6 = ⟨xs.drop 6, false⟩ := by
  have hk : takeOk ⟨xs, false⟩ 6 := ⟨rfl, by omega, by show (6 : Int) ≤ (xs.length : Int); omega⟩
  unfold takeV takeS
  rw [if_pos hk, if_pos hk]
  exact ⟨rfl, rfl⟩
theorem take_no (xs : List UInt8) (k : Int) (h : (xs.length : Int) < k) : takeV ⟨xs, false⟩ k = [] ∧ takeS ⟨xs, false⟩ k = ⟨[], true⟩ := by
  have hk : ¬ takeOk ⟨xs, false⟩ k := fun hk => by
    have := hk.2.2
    change k ≤ (xs.length : Int) at this
    omega
  unfold takeV takeS
  rw [if_neg hk, if_neg hk]
  exact ⟨rfl, rfl⟩
theorem nx_long (xs : List UInt8) (h : 26 ≤ xs.length) : (takeV ⟨xs, false⟩ 20 = xs.take 20 ∧ takeV (takeS ⟨xs, false⟩ 20) 6 = (xs.drop 20).take 6) ∧ nxS ⟨xs, false⟩ = ⟨xs.drop 26, false⟩ := by
  obtain ⟨a, b⟩ := nx_take xs (by omega)
  obtain ⟨c, d⟩ := nx_take6 (xs.drop 20) (by rw [List.length_drop]; omega)
  unfold nxS
  rw [a, b, c, d, List.drop_drop]
  exact ⟨⟨rfl, rfl⟩, rfl⟩
theorem nx_short (xs : List UInt8) (h : xs.length < 26) : ¬ nxOk ⟨xs, false⟩ ∧ nxS ⟨xs, false⟩ = ⟨[], true⟩ := by
  by_cases h20 : 20 ≤ xs.length
  · obtain ⟨a, b⟩ := nx_take xs h20
    obtain ⟨c, d⟩ := take_no (xs.drop 20) 6 (by rw [List.length_drop]; omega)
    refine ⟨fun hk => ?_, ?_⟩
    · have := hk.2.1
      rw [b, c] at this
      cases this
    · unfold nxS
      rw [b, d]
  · obtain ⟨a, b⟩ := take_no xs 20 (by omega)
    refine ⟨fun hk => ?_, ?_⟩
    · have := hk.1
      rw [a] at this
      cases this
    · unfold nxS
      rw [b]
      unfold takeS
      rw [if_neg (fun hk => by cases hk.1)]
theorem take26 (xs : List UInt8) : (xs.take 26).drop 20 = (xs.drop 20).take 6 ∧ (xs.take 26).take 20 = xs.take 20 := by
  rw [List.drop_take, List.take_take]
  exact ⟨rfl, rfl⟩
theorem nx_ok (xs : List UInt8) (h : 26 ≤ xs.length) : nxOk ⟨xs, false⟩ ↔ rdOk (xs.take 26) := by
  obtain ⟨⟨a, b⟩, _⟩ := nx_long xs h
  have h1 : (xs.take 26).length = 26 := by rw [List.length_take]; omega
  have h2 : (xs.take 20).length = 20 := by rw [List.length_take]; omega
  have h3 : ((xs.drop 20).take 6).length = 6 := by rw [List.length_take, List.length_drop]; omega
  unfold nxOk rdOk
  rw [a, b, (take26 xs).1]
  constructor
  · rintro ⟨_, _, c, d⟩
    exact ⟨h1, c, d⟩
  · rintro ⟨_, c, d⟩
    exact ⟨h2, h3, c, d⟩
theorem nx_con (xs : List UInt8) (h : 26 ≤ xs.length) : nxC ⟨xs, false⟩ = rdK (xs.take 26) := by
  unfold nxC rdK
  by_cases hk : nxOk ⟨xs, false⟩
  · rw [dif_pos hk, dif_pos ((nx_ok xs h).1 hk)]
    obtain ⟨⟨a, b⟩, _⟩ := nx_long xs h
    refine Subtype.ext ?_
    simp only
    rw [a, b, (take26 xs).1, (take26 xs).2]
  · rw [dif_neg hk, dif_neg (fun h2 => hk ((nx_ok xs h).2 h2))]
theorem rdK_ne {xs : List UInt8} (h : rdOk xs) : eqC (rdK xs) default = false := by
  cases he : eqC (rdK xs) default with
  | false => rfl
  | true =>
    have := (eqC_iff _ _).1 he
    unfold rdK at this
    rw [dif_pos h] at this
    have h2 := congrArg (fun c : Con => c.1.2.1) this
    exact absurd h2 h.2.1
theorem eqC_self (c : Con) : eqC c c = true := (eqC_iff c c).2 rfl
theorem read_agree_yes {xs : List UInt8} (h1 : eqC (nxC ⟨xs, false⟩) default = false) (h2 : doneE (nxS ⟨xs, false⟩) = 0) : nxC ⟨xs, false⟩ = rdK xs ∧ rdE xs = 0 := by
  by_cases hl : 26 ≤ xs.length
  · have hd := (nx_long xs hl).2
    rw [hd] at h2
    unfold doneE at h2
    have h26 : xs.length = 26 := by
      by_cases h : 0 < (xs.drop 26).length
      · rw [if_pos (.inr h)] at h2; cases h2
      · rw [List.length_drop] at h; omega
    have ht : xs.take 26 = xs := List.take_of_length_le (by omega)
    have hc := nx_con xs hl
    rw [ht] at hc
    refine ⟨hc, ?_⟩
    unfold rdE
    rw [if_pos]
    rw [hc] at h1
    by_cases hk : rdOk xs
    · exact hk
    · unfold rdK at h1
      rw [dif_neg hk, eqC_self] at h1
      cases h1
  · exfalso
    have := (nx_short xs (by omega)).1
    unfold nxC at h1
    rw [dif_neg this, eqC_self] at h1
    cases h1
theorem read_agree_no {xs : List UInt8} (h : eqC (nxC ⟨xs, false⟩) default = true ∨ doneE (nxS ⟨xs, false⟩) ≠ 0) : rdK xs = default ∧ rdE xs = 10 := by
  have : ¬ rdOk xs := by
    intro hk
    have h26 := hk.1
    have ht : xs.take 26 = xs := List.take_of_length_le (by omega)
    have hc := nx_con xs (by omega)
    rw [ht] at hc
    rcases h with h | h
    · rw [hc, rdK_ne hk] at h
      cases h
    · rw [(nx_long xs (by omega)).2] at h
      apply h
      unfold doneE
      rw [if_neg]
      rw [List.drop_of_length_le (by omega)]
      simp
  unfold rdK rdE
  rw [dif_neg this, if_neg this]
  exact ⟨rfl, rfl⟩
theorem isnone_any (c : Con) (w : World) : Calls Try.prog 78 #[.agg (encC c).toArray] w fun e w' => e = .returned (.bool (eqC c default)) ∧ Below w.heap.size w w' := by
  have hb : Below w.heap.size w (w.alloc (.cells (encC c).toArray 60)) := (Below.refl _ w).alloc (Nat.le_refl _) _
  have HK := Lib.hid (load60 (row_range (heap_alloc_new w (.cells (encC c).toArray 60))))
  have HBU := Lib.hid (fun W => build60 W)
  have hE := fun W => eqCon60 c default W
  have HB := Lib.hid hb
  generalize (encC c).toArray = X at HK HB hE ⊢
  generalize (encC default).toArray = D at HBU hE
  generalize eqC c default = k at hE ⊢
  clear hb
  go_enter Try.func78, Try.ntmps78
  go_wp2_with (first
    | ((with_reducible refine wpList_loadV (op := ⟨some 3, _, _, _, _, _⟩) rfl 60 (.tmp 1) rfl _ ?_ _ HK.out ?_); rfl)
    | ((with_reducible refine wpList_buildG (o := ⟨some 4, _, _, _, _, _⟩) ?_ 60 rfl _ (HBU.out _) ?_); rfl))
  go_ret
  exact ⟨rfl, HB.out⟩
/-- While Read runs. -/
structure RdW (w : World) (g : Nat) (s : St) (W : World) : Prop where
  hr : W.heap[w.heap.size]? = some (.cells (encC default).toArray 60 (0, 0))
  rd : RdrS W g s
  be : Below w.heap.size w W
section
variable {w W W' : World} {g : Nat} {s : St}
theorem RdW.bel (r : RdW w g s W) (hb : Below W.heap.size W W') : RdW w g s W' :=
  ⟨(hb.block _ (Array.getElem?_eq_some_iff.1 r.hr).1).trans r.hr, r.rd.below hb (Nat.le_refl _), r.be.trans (hb.mono r.be.size)⟩
theorem RdW.fin (r : RdW w g s W) (c : Con) : W.there w.heap.size 0 22 ∧ (W.setCells w.heap.size 0 (encC c)).rangeAt w.heap.size 0 (encC c) ∧ Below w.heap.size w (W.setCells w.heap.size 0 (encC c)) := by
  have ht : W.there w.heap.size 0 22 := by
    have := row_there r.hr
    rw [encC_length] at this
    exact this
  exact ⟨ht, World.rangeAt_setCells_same W w.heap.size 0 (encC c) (by rw [encC_length]; exact ht), below_cellsE (Nat.le_refl _) _ _ _ r.be⟩
end
theorem cread_any (A : Option Addr) (c : Nat) (xs : List UInt8) (w : World) (hA : BAt w w.heap.size A xs) (hl : xs.length ≤ 900000) :
    Calls Try.prog 44 #[.slice A xs.length c] w fun e w' => e = .returned (.tuple #[.agg (encC (rdK xs)).toArray, .int .i64 (rdE xs)]) ∧ Below w.heap.size w w' := by
  have hn0 := heap_alloc_new w (.cells (encC default).toArray 60)
  have hb0 : Below w.heap.size w (w.alloc (.cells (encC default).toArray 60)) := (Below.refl _ w).alloc (Nat.le_refl _) _
  have H1 : Hid (Calls Try.prog 46 #[.slice A xs.length c] (w.alloc (.cells (encC default).toArray 60)) fun e w2 => ∃ g, e = .returned (.pointer (some ⟨g, 0, none⟩)) ∧ RdW w g ⟨xs, false⟩ w2 ∧ w.heap.size < g) := by
    refine Lib.hid ((open_any A c xs _ ((hA.below hb0).more hb0.size) hl).mono ?_)
    rintro e w2 ⟨g, rfl, hg, hr, hb⟩
    have hlt : w.heap.size < (w.alloc (.cells (encC default).toArray 60)).heap.size := by simp
    exact ⟨g, rfl, ⟨(hb.block _ hlt).trans hn0, hr, hb0.trans (hb.mono hb0.size)⟩, Nat.lt_of_lt_of_le hlt hg⟩
  have H2 : Hid (∀ g w2, RdW w g ⟨xs, false⟩ w2 → w.heap.size < g → Calls Try.prog 77 #[.pointer (some ⟨g, 0, none⟩)] w2 fun e w3 => e = .returned (.agg (encC (nxC ⟨xs, false⟩)).toArray) ∧ RdW w g (nxS ⟨xs, false⟩) w3) := by
    refine Lib.hid (fun g w2 r hg => (next_any r.rd.rb (Nat.le_refl _)).mono ?_)
    rintro e w3 ⟨rfl, h3, hg3⟩
    refine ⟨rfl, (hg3.block _ (Array.getElem?_eq_some_iff.1 r.hr).1 (by intro e; injection e with e; omega)).trans r.hr, h3.rs, ⟨hg3.os.trans r.be.os, hg3.tape.trans r.be.tape, hg3.output.trans r.be.output, Nat.le_trans r.be.size hg3.size, fun i hi => (hg3.block i (Nat.lt_of_lt_of_le hi r.be.size) (by intro e; injection e with e; omega)).trans (r.be.block i hi)⟩⟩
  have HBU := Lib.hid (fun W => build60 W)
  obtain ⟨C, hC⟩ : ∃ C, C = nxC ⟨xs, false⟩ := ⟨_, rfl⟩
  obtain ⟨s1, hs1⟩ : ∃ s1, s1 = nxS ⟨xs, false⟩ := ⟨_, rfl⟩
  rw [← hC, ← hs1] at H2
  have H3 := Lib.hid (fun W => isnone_any C W)
  have HY := Lib.hid (fun a b => read_agree_yes (xs := xs) a b)
  have HNO := Lib.hid (fun a => read_agree_no (xs := xs) a)
  rw [← hC, ← hs1] at HY HNO
  obtain ⟨K, hK⟩ : ∃ K, K = rdK xs := ⟨_, rfl⟩
  obtain ⟨E, hE⟩ : ∃ E, E = rdE xs := ⟨_, rfl⟩
  rw [← hK, ← hE] at HY HNO ⊢
  obtain ⟨n, hn⟩ : ∃ n, n = xs.length := ⟨_, rfl⟩
  rw [← hn] at H1 ⊢
  have HALL := Lib.hid encC_all
  have HLEN := Lib.hid encC_length
  have HLX : Hid (∀ (W : World) (x : Con), (loadVar 60 ⟨W.heap.size, 0, none⟩).run Try.prog (W.alloc (.cells (encC x).toArray 60)) = .ok (.agg (encC x).toArray) (W.alloc (.cells (encC x).toArray 60))) := Lib.hid (fun W x => load60 (row_range (heap_alloc_new W (.cells (encC x).toArray 60))))
  clear hC hs1 hK hE hn hA hl hn0 hb0
  by_cases hnone : eqC C default = true
  · obtain ⟨e1, e2⟩ := HNO.out (.inl hnone)
    subst e1 e2
    rw [hnone] at H3
    clear hnone HY HNO
    go_enter Try.func44, Try.ntmps44
    go_wp2_with (first
      | (with_reducible refine wpList_alloc60 (o := ⟨some 2, _, _, _, _, _⟩) rfl 2 rfl rfl ?_)
      | (go_at_call 46; (with_reducible refine H1.out.mono ?_); rintro e w2 ⟨g, rfl, r2, hg⟩)
      | (go_at_call 77; (with_reducible refine (H2.out g _ r2 hg).mono ?_); rintro e w3 ⟨rfl, r3⟩; have r4 := r3.bel (((Below.refl _ w3).alloc (Nat.le_refl _) (.cells (encC C).toArray 60))))
      | (with_reducible refine wpList_alloc60 (o := ⟨some 5, _, _, _, _, _⟩) rfl 5 rfl rfl ?_)
      | ((with_reducible refine wpList_store60 (o := ⟨none, _, _, _, _, _⟩) rfl (.tmp 5) (.tmp 9) rfl default C ?_ ?_ ?_); rfl; rfl)
      | ((with_reducible refine wpList_loadV (op := ⟨some 10, _, _, _, _, _⟩) rfl 60 (.tmp 5) rfl _ ?_ _ (HLX.out _ _) ?_); rfl)
      | (go_at_call 78; (with_reducible refine (H3.out _).mono ?_); rintro e w5 ⟨rfl, hb5⟩; have r5 := r4.bel hb5; obtain ⟨f1, f2, f3⟩ := r5.fin default)
      | ((with_reducible refine wpList_buildG (o := ⟨some 17, _, _, _, _, _⟩) ?_ 60 rfl _ (HBU.out _) ?_); rfl)
      | ((with_reducible refine wpList_store60at (o := ⟨none, _, _, _, _, _⟩) rfl (.tmp 2) (.tmp 17) rfl w.heap.size 0 default ?_ ?_ f1 ?_); rfl; rfl))
    refine bodyPost_ret (v := .tuple #[.agg (encC default).toArray, .int .i64 10]) ?_ rfl ?_
    · exact results_cell_tmpS (p := 2) (ty := 60) (q := 3) rfl _ _ w.heap.size 0 (encC default) _ (.int .i64 10) rfl rfl f2 Try.underlying60 rfl (by rw [HLEN.out]; exact size60)
    · exact ⟨rfl, f3⟩
  · have hn2 : eqC C default = false := by cases h : eqC C default with | true => exact absurd h hnone | false => rfl
    rw [hn2] at H3
    have HK5 : Hid (∀ w3 w5 : World, Below (w3.alloc (.cells (encC C).toArray 60)).heap.size (w3.alloc (.cells (encC C).toArray 60)) w5 → (loadVar 60 ⟨w3.heap.size, 0, none⟩).run Try.prog w5 = .ok (.agg (encC C).toArray) w5) := Lib.hid (fun w3 w5 hb => load60 (row_range ((hb.block _ (by simp)).trans (heap_alloc_new w3 (.cells (encC C).toArray 60)))))
    by_cases hd : doneE s1 = 0
    · obtain ⟨e1, e2⟩ := HY.out hn2 hd
      subst e1 e2
      have HDN : Hid (∀ W g, RdrS W g s1 → Calls Try.prog 79 #[.pointer (some ⟨g, 0, none⟩)] W fun e w' => e = .returned (.int .i64 0) ∧ W = w') := Lib.hid (fun W g r => by have := done_any r; rwa [hd] at this)
      clear hnone hn2 HY HNO hd
      go_enter Try.func44, Try.ntmps44
      go_wp2_with (first
        | (with_reducible refine wpList_alloc60 (o := ⟨some 2, _, _, _, _, _⟩) rfl 2 rfl rfl ?_)
        | (go_at_call 46; (with_reducible refine H1.out.mono ?_); rintro e w2 ⟨g, rfl, r2, hg⟩)
        | (go_at_call 77; (with_reducible refine (H2.out g _ r2 hg).mono ?_); rintro e w3 ⟨rfl, r3⟩; have r4 := r3.bel (((Below.refl _ w3).alloc (Nat.le_refl _) (.cells (encC C).toArray 60))))
        | (with_reducible refine wpList_alloc60 (o := ⟨some 5, _, _, _, _, _⟩) rfl 5 rfl rfl ?_)
        | ((with_reducible refine wpList_store60 (o := ⟨none, _, _, _, _, _⟩) rfl (.tmp 5) (.tmp 9) rfl default C ?_ ?_ ?_); rfl; rfl)
        | ((with_reducible refine wpList_loadV (op := ⟨some 10, _, _, _, _, _⟩) rfl 60 (.tmp 5) rfl _ ?_ _ (HLX.out _ _) ?_); rfl)
        | (go_at_call 78; (with_reducible refine (H3.out _).mono ?_); rintro e w5 ⟨rfl, hb5⟩; have r5 := r4.bel hb5; obtain ⟨f1, f2, f3⟩ := r5.fin C; have hk5 := HK5.out _ _ hb5)
        | (go_at_call 79; (with_reducible refine (HDN.out _ _ r5.rd).mono ?_); rintro e w6 ⟨rfl, rfl⟩)
        | ((with_reducible refine wpList_loadV (op := ⟨some 18, _, _, _, _, _⟩) rfl 60 (.tmp 5) rfl _ ?_ _ hk5 ?_); rfl)
        | ((with_reducible refine wpList_store60at (o := ⟨none, _, _, _, _, _⟩) rfl (.tmp 2) (.tmp 18) rfl w.heap.size 0 C ?_ ?_ f1 ?_); rfl; rfl))
      refine bodyPost_ret (v := .tuple #[.agg (encC C).toArray, .int .i64 0]) ?_ rfl ?_
      · exact results_cell_tmpS (p := 2) (ty := 60) (q := 3) rfl _ _ w.heap.size 0 (encC C) _ (.int .i64 0) rfl rfl f2 Try.underlying60 rfl (by rw [HLEN.out]; exact size60)
      · exact ⟨rfl, f3⟩
    · obtain ⟨e1, e2⟩ := HNO.out (.inr hd)
      subst e1 e2
      have hd2 : doneE s1 = 10 := by
        unfold doneE at hd ⊢
        by_cases h : s1.bad = true ∨ 0 < s1.ys.length
        · rw [if_pos h]
        · rw [if_neg h] at hd; exact absurd rfl hd
      have HDN : Hid (∀ W g, RdrS W g s1 → Calls Try.prog 79 #[.pointer (some ⟨g, 0, none⟩)] W fun e w' => e = .returned (.int .i64 10) ∧ W = w') := Lib.hid (fun W g r => by have := done_any r; rwa [hd2] at this)
      clear hnone hn2 HY HNO hd hd2
      go_enter Try.func44, Try.ntmps44
      go_wp2_with (first
        | (with_reducible refine wpList_alloc60 (o := ⟨some 2, _, _, _, _, _⟩) rfl 2 rfl rfl ?_)
        | (go_at_call 46; (with_reducible refine H1.out.mono ?_); rintro e w2 ⟨g, rfl, r2, hg⟩)
        | (go_at_call 77; (with_reducible refine (H2.out g _ r2 hg).mono ?_); rintro e w3 ⟨rfl, r3⟩; have r4 := r3.bel (((Below.refl _ w3).alloc (Nat.le_refl _) (.cells (encC C).toArray 60))))
        | (with_reducible refine wpList_alloc60 (o := ⟨some 5, _, _, _, _, _⟩) rfl 5 rfl rfl ?_)
        | ((with_reducible refine wpList_store60 (o := ⟨none, _, _, _, _, _⟩) rfl (.tmp 5) (.tmp 9) rfl default C ?_ ?_ ?_); rfl; rfl)
        | ((with_reducible refine wpList_loadV (op := ⟨some 10, _, _, _, _, _⟩) rfl 60 (.tmp 5) rfl _ ?_ _ (HLX.out _ _) ?_); rfl)
        | (go_at_call 78; (with_reducible refine (H3.out _).mono ?_); rintro e w5 ⟨rfl, hb5⟩; have r5 := r4.bel hb5; obtain ⟨f1, f2, f3⟩ := r5.fin default; have hk5 := HK5.out _ _ hb5)
        | (go_at_call 79; (with_reducible refine (HDN.out _ _ r5.rd).mono ?_); rintro e w6 ⟨rfl, rfl⟩)
        | ((with_reducible refine wpList_buildG (o := ⟨some 17, _, _, _, _, _⟩) ?_ 60 rfl _ (HBU.out _) ?_); rfl)
        | ((with_reducible refine wpList_store60at (o := ⟨none, _, _, _, _, _⟩) rfl (.tmp 2) (.tmp 17) rfl w.heap.size 0 default ?_ ?_ f1 ?_); rfl; rfl))
      refine bodyPost_ret (v := .tuple #[.agg (encC default).toArray, .int .i64 10]) ?_ rfl ?_
      · exact results_cell_tmpS (p := 2) (ty := 60) (q := 3) rfl _ _ w.heap.size 0 (encC default) _ (.int .i64 10) rfl rfl f2 Try.underlying60 rfl (by rw [HLEN.out]; exact size60)
      · exact ⟨rfl, f3⟩
end Go.Proofs.Ytbfhfnbhfeedbaa
