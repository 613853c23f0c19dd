/- Walk of InstBack. Conditions: the lengths together of at most 4611686018427387904 bytes. -/
import Derived.Test.YtkceipkgebgigaaXIix
import Derived.Test.YtkceipkgebgigaaXIyc
import Derived.Test.YtkceipkgebgigaaXIip
import Derived.Deep.CutRange
namespace Go.Proofs.Ytkceipkgebgigaa
open Go.Shelf Go.RowKit Go.Lib Go.Great
set_option maxRecDepth 100000
set_option maxHeartbeats 4000000
theorem wpList_appN {ops : Array Oper} {rest : List Oper} {o : Oper} {a : Act} {w : World} {Q : Exit → Act → World → Prop} (hgd : o.guard = none) (d : Nat) (hd : o.dst = some d) (s x : Operand)
    (ho : o.op = .call { callee := .builtin .append, args := #[s, x], argTypes := #[30, 30] })
    (base : Nat) (v : Value) (L : List UInt8) (hs : a.eval s = v) (hown : w.ownsRow base 5 1 v L.length (bcells L)) (y : Value) (M : List UInt8) (hx : a.eval x = y) (hr : Src Try.prog 1 30 y M.length (bcells M) w) (h63 : L.length + M.length ≤ 10000000) (hbase : base ≤ w.heap.size)
    (N : List UInt8) (m : Nat) (hN : L ++ M = N) (hm : N.length = m)
    (h : ∀ A' c' w', w'.ownsRow base 5 1 (.slice A' m c') N.length (bcells N) → w.grownBy w' v.ownBlock → wpList Try.prog ops Q rest (a.put (some d) (.slice A' m c')) w') :
    wpList Try.prog ops Q (o :: rest) a w := by
  subst hN hm
  exact wpList_appB hgd d hd s x ho base v L hs hown y M hx hr h63 hbase h
theorem iback_big (a b : Ins) (A : Option Addr) (c lc : Nat) (hz : a.tgt.length + b.tgt.length + lc ≤ 4611686018427387904) (h : 3000 < a.tgt.length + b.tgt.length + lc) (w : World) : Calls Try.prog 5 #[.agg (encI a).toArray, .agg (encI b).toArray, .slice A lc c] w fun e w' => e = .returned (.bool true) ∧ Below w.heap.size w w' := by
  obtain ⟨h1, h2, hb⟩ := heap2 w (.cells (encI a).toArray 28) (.cells (encI b).toArray 28)
  have HB := Lib.hid hb
  have c1 := (fldB h1).tgt
  have c2 := (fldB h2).tgt
  have s1 := bstr_size a.tgt
  have s2 := bstr_size b.tgt
  have HLI := Lib.hid lives_any
  have hs : (3000 : Int) < (a.tgt.length : Int) + (b.tgt.length : Int) + (lc : Int) := by omega
  obtain ⟨hw, hw2⟩ := wrap3 _ _ _ hz
  clear h
  generalize bstr a.tgt = S at *
  generalize bstr b.tgt = T at *
  generalize a.tgt.length = la at *
  generalize b.tgt.length = lb at *
  generalize (encI a).toArray = X at *
  generalize (encI b).toArray = Y at *
  clear h1 h2 hb
  go_enter Try.func5, Try.ntmps5
  go_wp2_with (go_at_call 11; (with_reducible refine (HLI.out _).mono ?_); rintro e w1 ⟨rfl, hb1⟩)
  go_ret
  exact ⟨rfl, HB.out.trans (hb1.mono HB.out.size)⟩
theorem by_same {a b : Ins} (ha : goodI a = true) (hb : goodI b = true) : (byI a == byI b) = eqI a b := by
  unfold byI
  rw [if_pos ha, if_pos hb, Bool.eq_iff_iff, eqI_iff, beq_iff_eq]
  exact ⟨bytesI_inj ha hb, fun e => by rw [e]⟩
theorem bytesI_len {i : Ins} (h : goodI i = true) : (bytesI i).length ≤ 400 := by
  have := goodI_len h
  have hp := i.hp
  unfold bytesI headB
  split <;> simp only [List.length_append, putB_length] <;> omega
theorem byI_len (i : Ins) : (byI i).length ≤ 400 := by
  unfold byI
  split
  · rename_i h; exact bytesI_len h
  · simp
/-- What is read has just these bytes. -/
theorem by_read {xs : List UInt8} (h : goodI (nextI ⟨xs, false⟩) = true) : (byI (readI ⟨xs, false⟩)).length + (readS ⟨xs, false⟩).ys.length = xs.length ∧ xs.take (byI (readI ⟨xs, false⟩)).length = byI (readI ⟨xs, false⟩) ∧ goodI (readI ⟨xs, false⟩) = true := by
  obtain ⟨h1, _⟩ := next_bytes h
  unfold readI readS byI
  rw [if_pos h, if_pos h, if_pos h]
  refine ⟨?_, ?_, h⟩
  · have := congrArg List.length h1
    rw [List.length_append] at this
    omega
  · generalize bytesI (nextI ⟨xs, false⟩) = B at *
    generalize (nextS ⟨xs, false⟩).ys = r at *
    rw [h1, List.take_left]
theorem nextI_len (s : St) : (readI s).tgt.length ≤ 100000 := by
  unfold readI
  split
  · have := nextI_tgt s; omega
  · decide
theorem iback_small (a b : Ins) (A : Option Addr) (c : Nat) (xs : List UInt8) (w : World) (hA : BAt w w.heap.size A xs) (hc : xs.length ≤ c) (h : a.tgt.length + b.tgt.length + xs.length ≤ 3000) : Calls Try.prog 5 #[.agg (encI a).toArray, .agg (encI b).toArray, .slice A xs.length c] w fun e w' => e = .returned (.bool true) ∧ Below w.heap.size w w' := by
  obtain ⟨h1, h2, hb⟩ := heap2 w (.cells (encI a).toArray 28) (.cells (encI b).toArray 28)
  obtain ⟨W0, hW0⟩ : ∃ W0, W0 = (w.alloc (.cells (encI a).toArray 28)).alloc (.cells (encI b).toArray 28) := ⟨_, rfl⟩
  have HW0 := Lib.hid hW0
  rw [← hW0] at h1 h2 hb
  have l2 := (Array.getElem?_eq_some_iff.1 h2).1
  have HB := Lib.hid hb
  have c1 := (fldB h1).tgt
  have c2 := (fldB h2).tgt
  have s1 := bstr_size a.tgt
  have s2 := bstr_size b.tgt
  have hs : ¬ (3000 : Int) < (a.tgt.length : Int) + (b.tgt.length : Int) + (xs.length : Int) := by omega
  obtain ⟨hw, hw2⟩ := wrap3 a.tgt.length b.tgt.length xs.length (by omega)
  have L2 : Hid (w.heap.size + 2 ≤ W0.heap.size) := Lib.hid (by omega)
  have H3 : Hid (∀ W, Below (w.heap.size + 2) W0 W → (loadVar 28 ⟨w.heap.size, 0, none⟩).run Try.prog W = .ok (.agg (encI a).toArray) W) := Lib.hid (fun W hW => (fld_below h1 hW (by omega)).all)
  have H4 : Hid (∀ W, Below (w.heap.size + 2) W0 W → (loadVar 28 ⟨w.heap.size + 1, 0, none⟩).run Try.prog W = .ok (.agg (encI b).toArray) W) := Lib.hid (fun W hW => (fld_below h2 hW (by omega)).all)
  have up : ∀ {W W' : World}, Below (w.heap.size + 2) W0 W → Below W.heap.size W W' → Below (w.heap.size + 2) W0 W' := fun hW hb => hW.trans (hb.mono (by have := hW.size; omega))
  have HXS : Hid (∀ W, Below (w.heap.size + 2) W0 W → BAt W W.heap.size A xs) := Lib.hid (fun W hW => by
    have hbw := hb.trans (hW.mono (by omega))
    exact (hA.below hbw).more hbw.size)
  have C12a : Hid (∀ W, Below (w.heap.size + 2) W0 W → Calls Try.prog 12 #[.agg (encI a).toArray] W fun e w' => ∃ A c, e = .returned (.tuple #[.slice A (byI a).length c, .int .i64 (errI a)]) ∧ IsB (.slice A (byI a).length c) (byI a) w' ∧ Below (w.heap.size + 2) W0 w') := Lib.hid (fun W hW => (ibytes_any a (by omega) W).mono (by
    rintro e w' ⟨v, rfl, ⟨A, c, rfl, hc, hA⟩, hb⟩
    exact ⟨A, c, rfl, ⟨A, c, rfl, hc, hA⟩, up hW hb⟩))
  have C12b : Hid (∀ W, Below (w.heap.size + 2) W0 W → Calls Try.prog 12 #[.agg (encI b).toArray] W fun e w' => ∃ A c, e = .returned (.tuple #[.slice A (byI b).length c, .int .i64 (errI b)]) ∧ IsB (.slice A (byI b).length c) (byI b) w' ∧ Below (w.heap.size + 2) W0 w' ∧ Below W.heap.size W w') := Lib.hid (fun W hW => (ibytes_any b (by omega) W).mono (by
    rintro e w' ⟨v, rfl, ⟨A, c, rfl, hc, hA⟩, hb⟩
    exact ⟨A, c, rfl, ⟨A, c, rfl, hc, hA⟩, up hW hb, hb⟩))
  have he := fun W => eqIns a b W
  have heS := fun W => eqIns a a W
  rw [eqI_self] at heS
  have HSAME : Hid (goodI a = true → goodI b = true → ((bstr (byI a)).toList == (bstr (byI b)).toList) = eqI a b) := Lib.hid (fun ha hb => by rw [bstr_list, bstr_list]; exact by_same ha hb)
  have HEA : Hid (errI a = if goodI a = true then 0 else 2) := Lib.hid rfl
  have HEB : Hid (errI b = if goodI b = true then 0 else 2) := Lib.hid rfl
  have HLI := Lib.hid lives_any
  -- what stands behind is opened and read
  have HOP : Hid (∀ W, Below (w.heap.size + 2) W0 W → Calls Try.prog 28 #[.slice A xs.length c] W fun e w' => ∃ g, e = .returned (.pointer (some ⟨g, 0, none⟩)) ∧ RdrS w' g ⟨xs, false⟩ ∧ Below (w.heap.size + 2) W0 w' ∧ W0.heap.size ≤ g) := Lib.hid (fun W hW => (open_any A c xs W (by
      have hbw := hb.trans (hW.mono (by omega))
      exact (hA.below hbw).more hbw.size) (by omega)).mono (by
    rintro e w' ⟨g, rfl, hg, hr, hb⟩
    exact ⟨g, rfl, hr, up hW hb, Nat.le_trans hW.size hg⟩))
  obtain ⟨s0, hs0⟩ : ∃ s, s = (⟨xs, false⟩ : St) := ⟨_, rfl⟩
  obtain ⟨K, hK⟩ : ∃ K, K = readI s0 := ⟨_, rfl⟩
  obtain ⟨gd, hgd⟩ : ∃ g, g = goodI (nextI s0) := ⟨_, rfl⟩
  obtain ⟨s', hs'⟩ : ∃ s, s = readS s0 := ⟨_, rfl⟩
  have HRD : Hid (∀ W g, Below (w.heap.size + 2) W0 W → W0.heap.size ≤ g → RdrS W g ⟨xs, false⟩ → Calls Try.prog 29 #[.pointer (some ⟨g, 0, none⟩)] W fun e w' => e = .returned (.tuple #[.agg (encI K).toArray, .bool gd]) ∧ RdrS w' g s' ∧ Below (w.heap.size + 2) W0 w') := Lib.hid (fun W g hW hg hr => by
    rw [← hs0] at hr
    refine (iread_any hr.rb (Nat.le_refl _)).mono ?_
    rintro e w' ⟨rfl, hr, hgr⟩
    rw [← hs'] at hr
    exact ⟨by rw [hK, hgd], hr.rs, below_ownB hW (by have := hW.size; omega) hgr (fun k hk => by injection hk with hk; omega)⟩)
  have HBY : Hid (gd = true → (byI K).length + s'.ys.length = xs.length ∧ xs.take (byI K).length = byI K ∧ goodI K = true) := Lib.hid (fun h => by
    rw [hgd, hs0] at h
    rw [hK, hs', hs0]
    exact by_read h)
  have HKL : K.tgt.length ≤ 100000 := by rw [hK]; exact nextI_len s0
  have C12k : Hid (∀ W, Below (w.heap.size + 2) W0 W → Calls Try.prog 12 #[.agg (encI K).toArray] W fun e w' => ∃ A c, e = .returned (.tuple #[.slice A (byI K).length c, .int .i64 (errI K)]) ∧ IsB (.slice A (byI K).length c) (byI K) w' ∧ Below (w.heap.size + 2) W0 w' ∧ Below W.heap.size W w') := Lib.hid (fun W hW => (ibytes_any K HKL W).mono (by
    rintro e w' ⟨v, rfl, ⟨A, c, rfl, hc, hA⟩, hb⟩
    exact ⟨A, c, rfl, ⟨A, c, rfl, hc, hA⟩, up hW hb, hb⟩))
  have C14k : Hid (∀ W, Calls Try.prog 14 #[.agg (encI K).toArray] W fun e w' => e = .returned (.bool (goodI K)) ∧ Below W.heap.size W w') := Lib.hid (igood_any K HKL)
  have HEK : Hid (errI K = if goodI K = true then 0 else 2) := Lib.hid rfl
  -- the bytes of a, and what stands behind
  obtain ⟨R1, hR1⟩ : ∃ R, R = byI a := ⟨_, rfl⟩
  obtain ⟨N, hN⟩ : ∃ N, N = R1 ++ xs := ⟨_, rfl⟩
  have hRl : R1.length ≤ 400 := by rw [hR1]; exact byI_len a
  have hNl : N.length ≤ 900000 := by rw [hN, List.length_append]; omega
  have HN := Lib.hid hN.symm
  have H63 : Hid (([] : List UInt8).length + R1.length ≤ 10000000 ∧ R1.length + xs.length ≤ 10000000) := Lib.hid ⟨by simp; omega, by omega⟩
  have HON : Hid (∀ W A' c', Below (w.heap.size + 2) W0 W → W.ownsRow (w.heap.size + 2) 5 1 (.slice A' N.length c') N.length (bcells N) → Calls Try.prog 28 #[.slice A' N.length c'] W fun e w' => ∃ g, e = .returned (.pointer (some ⟨g, 0, none⟩)) ∧ RdrS w' g ⟨N, false⟩ ∧ Below (w.heap.size + 2) W0 w' ∧ W0.heap.size ≤ g) := Lib.hid (fun W A' c' hW ho => by
    obtain ⟨A2, c2, e2, hA2, _⟩ := own_bat ho
    injection e2 with e2 _ e3
    subst e2 e3
    refine (open_any A' c' N W hA2 hNl).mono ?_
    rintro e w' ⟨g, rfl, hg, hr, hb⟩
    exact ⟨g, rfl, hr, up hW hb, Nat.le_trans hW.size hg⟩)
  have HRN : Hid (goodI a = true → ∀ W g, Below (w.heap.size + 2) W0 W → W0.heap.size ≤ g → RdrS W g ⟨N, false⟩ → Calls Try.prog 29 #[.pointer (some ⟨g, 0, none⟩)] W fun e w' => e = .returned (.tuple #[.agg (encI a).toArray, .bool true]) ∧ RdrS w' g ⟨xs, false⟩ ∧ Below (w.heap.size + 2) W0 w') := Lib.hid (fun ha W g hW hg hr => by
    have e1 : N = bytesI a ++ xs := by rw [hN, hR1]; unfold byI; rw [if_pos ha]
    obtain ⟨b1, b2, b3⟩ := read_back ha xs
    rw [e1] at hr
    refine (iread_any hr.rb (Nat.le_refl _)).mono ?_
    rintro e w' ⟨rfl, hr, hgr⟩
    rw [b1, b3]
    rw [b2] at hr
    exact ⟨rfl, hr.rs, below_ownB hW (by have := hW.size; omega) hgr (fun k hk => by injection hk with hk; omega)⟩)
  have HLF : Hid (∀ W g s, RdrS W g s → Calls Try.prog 31 #[.pointer (some ⟨g, 0, none⟩)] W fun e w' => e = .returned (.int .i64 (s.ys.length : Int)) ∧ w' = W) := Lib.hid (fun W g s hr => (left_any hr).mono (by rintro e w' ⟨rfl, rfl⟩; exact ⟨rfl, rfl⟩))
  have HPU : Hid (∀ (i : Ins) W g s, RdrS W g s → Below (w.heap.size + 2) W0 W → RdrS (W.alloc (.cells (encI i).toArray 28)) g s ∧ Below (w.heap.size + 2) W0 (W.alloc (.cells (encI i).toArray 28)) ∧ ∀ V, Below (W.alloc (.cells (encI i).toArray 28)).heap.size (W.alloc (.cells (encI i).toArray 28)) V → (loadVar 28 ⟨W.heap.size, 0, none⟩).run Try.prog V = .ok (.agg (encI i).toArray) V) := Lib.hid (fun i W g s hr hW => by
    have hba : Below W.heap.size W (W.alloc (.cells (encI i).toArray 28)) := (Below.refl _ W).alloc (Nat.le_refl _) _
    exact ⟨hr.below hba (Nat.le_refl _), up hW hba, fun V hV => (fld_below (heap_alloc_new W _) hV (by simp)).all⟩)
  have HSRC : Hid (∀ W v, IsB v R1 W → Src Try.prog 1 30 v R1.length (bcells R1) W) := Lib.hid (fun W v hi => by
    obtain ⟨A', c', rfl, _, hA'⟩ := hi
    exact hA'.src Try.underlying30 c')
  have HSRX : Hid (∀ W, Below (w.heap.size + 2) W0 W → Src Try.prog 1 30 (.slice A xs.length c) xs.length (bcells xs) W) := Lib.hid (fun W hW => by
    have hbw := hb.trans (hW.mono (by omega))
    exact ((hA.below hbw).more hbw.size).src Try.underlying30 c)
  have HNB : Hid (∀ W : World, Below (w.heap.size + 2) W0 W → Below (w.heap.size + 2) W0 (W.alloc (.cells #[] 5)) ∧ (W.alloc (.cells #[] 5)).ownsRow (w.heap.size + 2) 5 1 (.slice (some ⟨W.heap.size, 0, none⟩) 0 0) ([] : List UInt8).length (bcells []) ∧ w.heap.size + 2 ≤ (W.alloc (.cells #[] 5)).heap.size ∧ ∀ v, IsB v R1 W → IsB v R1 (W.alloc (.cells #[] 5))) := Lib.hid (fun W hW => by
    have hba : Below W.heap.size W (W.alloc (.cells #[] 5)) := (Below.refl _ W).alloc (Nat.le_refl _) _
    have hz := hW.size
    exact ⟨up hW hba, ownNone 5 1 (by omega), by simp; omega, fun v hi => hi.below hba⟩)
  have HGR : Hid (∀ (W W' : World) (v : Value) (L : List UInt8), Below (w.heap.size + 2) W0 W → W.ownsRow (w.heap.size + 2) 5 1 v L.length (bcells L) → W.grownBy W' v.ownBlock → Below (w.heap.size + 2) W0 W' ∧ w.heap.size + 2 ≤ W'.heap.size) := Lib.hid (fun W W' v L hW ho hg => by
    have hb2 := below_ownB hW (by have := hW.size; omega) hg (own_block ho)
    exact ⟨hb2, by have := hb2.size; omega⟩)
  have HHD : Hid (∀ W, Below (w.heap.size + 2) W0 W → xs.take (byI K).length = byI K → (convert 30 9 (.slice (headA A c) (byI K).length c)).run Try.prog W = .ok (.string (bstr (byI K))) W) := Lib.hid (fun W hW ht => by
    have hbw := hb.trans (hW.mono (by omega))
    have hAW := (hA.below hbw).more hbw.size
    have hh := hAW.head (k := (byI K).length) hc
    rw [ht] at hh
    exact run_convert_bat (P := Try.prog) 30 9 5 c Try.underlying30 Try.underlying5 Try.underlying9 hh)
  have hkc : gd = true → (byI K).length ≤ c := fun h => by have := (HBY.out h).1; omega
  have HKC := Lib.hid hkc
  have HEND : Hid (∀ W, Below (w.heap.size + 2) W0 W → Below w.heap.size w W) := Lib.hid (fun W hW => hb.trans (hW.mono (by omega)))
  rw [← hR1] at C12a HSAME
  obtain ⟨R2, hR2⟩ : ∃ R, R = byI b := ⟨_, rfl⟩
  rw [← hR2] at C12b HSAME
  obtain ⟨R3, hR3⟩ : ∃ R, R = byI K := ⟨_, rfl⟩
  rw [← hR3] at C12k HBY HHD HKC
  have hxl : xs.length ≤ 3000 := by omega
  have HXL := Lib.hid hxl
  clear h hW0 h1 h2 hb l2 up hs0 hK hgd hs' HKL hR1 hR2 hR3 hN hRl hNl hkc hA hc hxl
  generalize bstr a.tgt = S at *
  generalize bstr b.tgt = T at *
  generalize a.tgt.length = la at *
  generalize b.tgt.length = lb at *
  generalize errI a = ea at *
  generalize errI b = eb at *
  generalize errI K = ek at *
  generalize goodI a = ga at *
  generalize goodI b = gb at *
  generalize goodI K = gk at *
  generalize eqI a b = eab at *
  obtain ⟨X, hX⟩ : ∃ X, X = (encI a).toArray := ⟨_, rfl⟩
  have HX := Lib.hid hX
  obtain ⟨Z, hZ⟩ : ∃ Z, Z = (encI K).toArray := ⟨_, rfl⟩
  have HZ := Lib.hid hZ
  have HPA := Lib.hid (HPU.out a)
  have HPK := Lib.hid (HPU.out K)
  rw [← hX] at H3 C12a HRN HPA he heS
  rw [← hZ] at HRD C12k C14k HPK
  generalize (encI b).toArray = Y at *
  clear hX hZ HPU
  obtain ⟨n, hn⟩ : ∃ n, n = xs.length := ⟨_, rfl⟩
  obtain ⟨m1, hm1⟩ : ∃ n, n = R1.length := ⟨_, rfl⟩
  obtain ⟨m3, hm3⟩ : ∃ n, n = R3.length := ⟨_, rfl⟩
  obtain ⟨mN, hmN⟩ : ∃ n, n = N.length := ⟨_, rfl⟩
  obtain ⟨ml, hml⟩ : ∃ n, n = s'.ys.length := ⟨_, rfl⟩
  have HM1 := Lib.hid hm1
  have HMN := Lib.hid hmN.symm
  have HNX := Lib.hid hn
  have HML := Lib.hid hml
  have HM3 := Lib.hid hm3
  rw [← hn] at HOP hs hw2 ⊢
  rw [← hm1] at C12a
  rw [← hmN] at HON
  rw [← hm3] at C12k HHD HKC
  have e2 : ∃ n2, n2 = R2.length := ⟨_, rfl⟩
  obtain ⟨n2, hn2⟩ := e2
  rw [← hn2] at C12b
  have HN2 := Lib.hid hn2
  clear hm1 hmN hm3 hml hn hn2
  go_enter Try.func5, Try.ntmps5
  go_upto_region 1 with fail
  rw [← HW0.out]
  go_upto_region 5 with (first
    | ((with_reducible refine wpList_loadV (op := ⟨some 32, _, _, _, _, _⟩) rfl 28 (.tmp 3) rfl _ ?_ _ (H3.out _ (Below.refl _ _)) ?_); rfl)
    | (go_at_call 12; (with_reducible refine (C12a.out _ (Below.refl _ _)).mono ?_); rintro e w1 ⟨A1, k1, rfl, hi1, hb1⟩)
    | ((with_reducible refine wpList_loadV (op := ⟨some 37, _, _, _, _, _⟩) rfl 28 (.tmp 4) rfl _ ?_ _ (H4.out _ hb1) ?_); rfl)
    | (go_at_call 12; (with_reducible refine (C12b.out _ hb1).mono ?_); rintro e w2 ⟨A2, k2, rfl, hi2, hb2, hb12⟩))
  have hi1' := hi1.below hb12
  have HV1 : Hid (∀ m : Kept w2.heap.size w2, (convert 30 9 (.slice A1 m1 k1)).run Try.prog m.val = .ok (.string (bstr R1)) m.val) := Lib.hid (fun m => (hi1'.below m.property).conv)
  have HV2 : Hid (∀ m : Kept w2.heap.size w2, (convert 30 9 (.slice A2 n2 k2)).run Try.prog m.val = .ok (.string (bstr R2)) m.val) := Lib.hid (fun m => (hi2.below m.property).conv)
  have HQ3 : Hid (∀ m : Kept w2.heap.size w2, (loadVar 28 ⟨w.heap.size, 0, none⟩).run Try.prog m.val = .ok (.agg X) m.val) := Lib.hid (fun m => H3.out _ (hb2.trans (m.property.mono (by have := hb2.size; have := L2.out; omega))))
  have HQ4 : Hid (∀ m : Kept w2.heap.size w2, (loadVar 28 ⟨w.heap.size + 1, 0, none⟩).run Try.prog m.val = .ok (.agg Y) m.val) := Lib.hid (fun m => H4.out _ (hb2.trans (m.property.mono (by have := hb2.size; have := L2.out; omega))))
  clear c1 c2 s1 s2 hw hw2 hs
  go_cut [57] from 41 to 57 (fun q wx => q = .bool false ∧ Below w2.heap.size w2 wx)
  case first =>
    have hsame := HSAME.out
    have hea := HEA.out
    have heb := HEB.out
    clear HSAME HEA HEB HRN HON HPA HPK HSRC HSRX HNB HGR HHD HKC HEND HOP HRD HBY C12k C14k HEK HLF C12a C12b hi1 hi1' hi2 hb1 hb12
    cases ga
    · have e1 : ea = 2 := by rw [hea]; rfl
      subst e1
      clear hsame hea heb
      refine wp_region_kept w2.heap.size w2 (Below.refl _ _) (by kernel_rfl) (by kernel_rfl) ?_
      repeat (first
        | (go_big_quiet_want; (with_reducible refine quiet_convV (o := ⟨some 49, _, _, _, _, _⟩) 30 9 (.tmp 48) rfl _ _ ?_ HV1.out ?_); rfl; simp only [Act.put, List.setIfInBounds_toArray, List.set_cons_zero, List.set_cons_succ]; go_big_quiet_on)
        | (go_big_quiet_want; (with_reducible refine quiet_convV (o := ⟨some 51, _, _, _, _, _⟩) 30 9 (.tmp 50) rfl _ _ ?_ HV2.out ?_); rfl; simp only [Act.put, List.setIfInBounds_toArray, List.set_cons_zero, List.set_cons_succ]; go_big_quiet_on)
        | (go_big_quiet_want; (with_reducible refine quiet_loadV 28 (.tmp 3) rfl _ ?_ _ HQ3.out ?_); rfl; simp only [Act.put, List.setIfInBounds_toArray, List.set_cons_zero, List.set_cons_succ]; go_big_quiet_on)
        | (go_big_quiet_want; (with_reducible refine quiet_loadV 28 (.tmp 4) rfl _ ?_ _ HQ4.out ?_); rfl; simp only [Act.put, List.setIfInBounds_toArray, List.set_cons_zero, List.set_cons_succ]; go_big_quiet_on)
        | go_big_quiet_step (fail))
      refine wpQuiet_nil ?_
      rintro wk ⟨⟨_, hwk⟩, rfl⟩
      go_wp2
      go_meet
      case rel => exact ⟨rfl, hwk⟩
    · have e1 : ea = 0 := by rw [hea]; rfl
      subst e1
      cases gb
      · have e2 : eb = 2 := by rw [heb]; rfl
        subst e2
        clear hsame hea heb
        refine wp_region_kept w2.heap.size w2 (Below.refl _ _) (by kernel_rfl) (by kernel_rfl) ?_
        repeat (first
          | (go_big_quiet_want; (with_reducible refine quiet_convV (o := ⟨some 49, _, _, _, _, _⟩) 30 9 (.tmp 48) rfl _ _ ?_ HV1.out ?_); rfl; simp only [Act.put, List.setIfInBounds_toArray, List.set_cons_zero, List.set_cons_succ]; go_big_quiet_on)
          | (go_big_quiet_want; (with_reducible refine quiet_convV (o := ⟨some 51, _, _, _, _, _⟩) 30 9 (.tmp 50) rfl _ _ ?_ HV2.out ?_); rfl; simp only [Act.put, List.setIfInBounds_toArray, List.set_cons_zero, List.set_cons_succ]; go_big_quiet_on)
          | (go_big_quiet_want; (with_reducible refine quiet_loadV 28 (.tmp 3) rfl _ ?_ _ HQ3.out ?_); rfl; simp only [Act.put, List.setIfInBounds_toArray, List.set_cons_zero, List.set_cons_succ]; go_big_quiet_on)
          | (go_big_quiet_want; (with_reducible refine quiet_loadV 28 (.tmp 4) rfl _ ?_ _ HQ4.out ?_); rfl; simp only [Act.put, List.setIfInBounds_toArray, List.set_cons_zero, List.set_cons_succ]; go_big_quiet_on)
          | go_big_quiet_step (fail))
        refine wpQuiet_nil ?_
        rintro wk ⟨⟨_, hwk⟩, rfl⟩
        go_wp2
        go_meet
        case rel => exact ⟨rfl, hwk⟩
      · have e2 : eb = 0 := by rw [heb]; rfl
        subst e2
        have hsm := hsame rfl rfl
        clear hsame hea heb
        generalize bstr R1 = SR1 at *
        generalize bstr R2 = SR2 at *
        refine wp_region_kept w2.heap.size w2 (Below.refl _ _) (by kernel_rfl) (by kernel_rfl) ?_
        repeat (first
          | (go_big_quiet_want; (with_reducible refine quiet_convV (o := ⟨some 49, _, _, _, _, _⟩) 30 9 (.tmp 48) rfl _ _ ?_ HV1.out ?_); rfl; simp only [Act.put, List.setIfInBounds_toArray, List.set_cons_zero, List.set_cons_succ]; go_big_quiet_on)
          | (go_big_quiet_want; (with_reducible refine quiet_convV (o := ⟨some 51, _, _, _, _, _⟩) 30 9 (.tmp 50) rfl _ _ ?_ HV2.out ?_); rfl; simp only [Act.put, List.setIfInBounds_toArray, List.set_cons_zero, List.set_cons_succ]; go_big_quiet_on)
          | (go_big_quiet_want; (with_reducible refine quiet_loadV 28 (.tmp 3) rfl _ ?_ _ HQ3.out ?_); rfl; simp only [Act.put, List.setIfInBounds_toArray, List.set_cons_zero, List.set_cons_succ]; go_big_quiet_on)
          | (go_big_quiet_want; (with_reducible refine quiet_loadV 28 (.tmp 4) rfl _ ?_ _ HQ4.out ?_); rfl; simp only [Act.put, List.setIfInBounds_toArray, List.set_cons_zero, List.set_cons_succ]; go_big_quiet_on)
          | go_big_quiet_step (fail))
        refine wpQuiet_nil ?_
        rintro wk ⟨⟨_, hwk⟩, rfl⟩
        go_wp2
        go_meet
        case rel => exact ⟨rfl, hwk⟩
  case rest =>
    obtain ⟨rfl, hbc⟩ := hcut
    have hi3 := hi1'.below hbc
    have hb3 := hb2.trans (hbc.mono (by have := hb2.size; have := L2.out; omega))
    clear hi1 hi1' hi2 hb1 hb12 hbc hb2 HV1 HV2 HQ3 HQ4 HSAME C12a C12b HEB H4 he
    cases ga
    · have e1 : ea = 2 := by rw [HEA.out]; rfl
      subst e1
      clear HEA HRN HON HPA HSRC HSRX HNB HGR H3 heS hi3
      cases gd
      · clear HBY HKC HHD C12k C14k HEK
        go_wp2_with (first
          | (go_at_call 28; (with_reducible refine (HOP.out _ hb3).mono ?_); rintro e w13 ⟨g13, rfl, hr13, hb13, hg13⟩)
          | (go_at_call 29; (with_reducible refine (HRD.out _ _ hb13 hg13 hr13).mono ?_); rintro e w14 ⟨rfl, hr14, hb14⟩)
          | (with_reducible refine wpList_alloc28 (o := ⟨some 15, _, _, _, _, _⟩) w14.heap.size rfl rfl 15 rfl rfl ?_)
          | ((with_reducible refine wpList_store28n (o := ⟨none, _, _, _, _, _⟩) rfl (.tmp 15) (.tmp 94) rfl w14.heap.size rfl zeroI K ?_ ?_ ?_); rfl; (rw [← HZ.out]; rfl); rw [← HZ.out])
          | (go_at_call 11; (with_reducible refine (HLI.out _).mono ?_); rintro e w15 ⟨rfl, hb15⟩))
        go_ret
        obtain ⟨_, hp2, _⟩ := HPK.out _ _ _ hr14 hb14
        exact ⟨rfl, HEND.out _ (hp2.trans (hb15.mono (by have := hp2.size; have := L2.out; omega)))⟩
      · obtain ⟨hy1, hy2, hy3⟩ := HBY.out rfl
        have hk3 : ek = 0 := by rw [HEK.out, if_pos hy3]
        subst hk3
        subst hy3
        have hy1' : (m3 : Int) + (ml : Int) = (n : Int) := by have := HM3.out; have := HML.out; have := HNX.out; omega
        have hyw : IntKind.i64.wrap ((m3 : Int) + (ml : Int)) = (n : Int) := by rw [hy1', IntKind.wrap]; simp [IntKind.signed, IntKind.bits]; have := HNX.out; have := HXL.out; omega
        have HHD2 : Hid (∀ W, Below (w.heap.size + 2) W0 W → (convert 30 9 (.slice (headA A c) m3 c)).run Try.prog W = .ok (.string (bstr R3)) W) := Lib.hid (fun W hW => HHD.out W hW (by rw [HM3.out]; exact hy2))
        have HKC2 := Lib.hid (HKC.out rfl)
        clear HBY HHD hy1 hy2 HEK hy1' HKC
        go_upto_region 16 with (first
          | (go_at_call 28; (with_reducible refine (HOP.out _ hb3).mono ?_); rintro e w13 ⟨g13, rfl, hr13, hb13, hg13⟩)
          | (go_at_call 29; (with_reducible refine (HRD.out _ _ hb13 hg13 hr13).mono ?_); rintro e w14 ⟨rfl, hr14, hb14⟩)
          | (with_reducible refine wpList_alloc28 (o := ⟨some 15, _, _, _, _, _⟩) w14.heap.size rfl rfl 15 rfl rfl ?_)
          | ((with_reducible refine wpList_store28n (o := ⟨none, _, _, _, _, _⟩) rfl (.tmp 15) (.tmp 94) rfl w14.heap.size rfl zeroI K ?_ ?_ ?_); rfl; (rw [← HZ.out]; rfl); rw [← HZ.out])
          | ((with_reducible refine wpList_loadV (op := ⟨some 102, _, _, _, _, _⟩) rfl 28 (.tmp 15) rfl ⟨w14.heap.size, 0, none⟩ ?_ _ ((HPK.out _ _ _ hr14 hb14).2.2 _ (Below.refl _ _)) ?_); rfl)
          | (go_at_call 12; (with_reducible refine (C12k.out _ (HPK.out _ _ _ hr14 hb14).2.1).mono ?_); rintro e w16 ⟨A16, k16, rfl, hi16, hb16, hb1416⟩))
        (try simp only [Act.put, List.setIfInBounds_toArray, List.set_cons_zero, List.set_cons_succ])
        obtain ⟨hrk, hbk, hlk⟩ := HPK.out _ _ _ hr14 hb14
        have hr16 := hrk.below hb1416 (Nat.le_refl _)
        have HZ1 : Hid (∀ m : Kept w16.heap.size w16, (convert 30 9 (.slice A16 m3 k16)).run Try.prog m.val = .ok (.string (bstr R3)) m.val) := Lib.hid (fun m => (hi16.below m.property).conv)
        have HZ2 : Hid (∀ m : Kept w16.heap.size w16, (convert 30 9 (.slice (headA A c) m3 c)).run Try.prog m.val = .ok (.string (bstr R3)) m.val) := Lib.hid (fun m => HHD2.out _ (hb16.trans (m.property.mono (by have := hb16.size; have := L2.out; omega))))
        have HQK : Hid (∀ m : Kept w16.heap.size w16, (loadVar 28 ⟨w14.heap.size, 0, none⟩).run Try.prog m.val = .ok (.agg Z) m.val) := Lib.hid (fun m => hlk _ (hb1416.trans (m.property.mono hb1416.size)))
        have HQL : Hid (∀ m : Kept w16.heap.size w16, Calls Try.prog 31 #[.pointer (some ⟨g13, 0, none⟩)] m.val fun e w' => e = .returned (.int .i64 (ml : Int)) ∧ Below m.val.heap.size m.val w') := Lib.hid (fun m => (HLF.out _ _ _ (hr16.below m.property (Nat.le_refl _))).mono (by rintro e w' ⟨rfl, rfl⟩; exact ⟨by rw [← HML.out], Below.refl _ _⟩))
        have HB16 := Lib.hid hb16
        clear hrk hbk hlk hr16 hb16 hb1416 hi16 hr13 hr14 hb13 hb14 hg13 HPK HOP HRD C12k HHD2 HLF HZ
        generalize bstr R3 = BR3 at *
        refine wp_region_kept w16.heap.size w16 (Below.refl _ _) (by kernel_rfl) (by kernel_rfl) ?_
        repeat (first
          | (go_big_quiet_want; (with_reducible refine quiet_convV (o := ⟨some 120, _, _, _, _, _⟩) 30 9 (.tmp 119) rfl _ _ ?_ HZ1.out ?_); rfl; simp only [Act.put, List.setIfInBounds_toArray, List.set_cons_zero, List.set_cons_succ]; go_big_quiet_on)
          | (go_big_quiet_want; (with_reducible refine quiet_convV (o := ⟨some 125, _, _, _, _, _⟩) 30 9 (.tmp 124) rfl _ _ ?_ HZ2.out ?_); rfl; simp only [Act.put, List.setIfInBounds_toArray, List.set_cons_zero, List.set_cons_succ]; go_big_quiet_on)
          | (go_big_quiet_want; (with_reducible refine quiet_headV (o := ⟨some 124, _, _, _, _, _⟩) (.tmp 121) (.tmp 123) rfl A n c m3 ?_ ?_ HKC2.out ?_); rfl; rfl; simp only [Act.put, List.setIfInBounds_toArray, List.set_cons_zero, List.set_cons_succ]; go_big_quiet_on)
          | (go_big_quiet_want; (with_reducible refine quiet_loadV 28 (.tmp 15) rfl _ ?_ _ HQK.out ?_); rfl; simp only [Act.put, List.setIfInBounds_toArray, List.set_cons_zero, List.set_cons_succ]; go_big_quiet_on)
          | go_big_quiet_step (first | (go_at_call 31; with_reducible exact kept_ofS (Nat.le_refl _) HQL.out _) | (go_at_call 14; with_reducible exact kept_of (Nat.le_refl _) C14k.out _) | (go_at_call 11; with_reducible exact kept_of (Nat.le_refl _) HLI.out _)))
        refine wpQuiet_nil ?_
        rintro wk ⟨⟨_, hwk⟩, rfl⟩
        go_wp2
        go_ret
        exact ⟨by simp, HEND.out _ (HB16.out.trans (hwk.mono (by have := HB16.out.size; have := L2.out; omega)))⟩
    · have e1 : ea = 0 := by rw [HEA.out]; rfl
      subst e1
      have HRN2 := Lib.hid (HRN.out rfl)
      obtain ⟨hb4, ho4, hs4, hi4⟩ := HNB.out _ hb3
      have hi4' := HSRC.out _ _ (hi4 _ hi3)
      clear HEA HRN
      go_upto_region 10 with (first
        | (with_reducible refine wpList_noneB (o := ⟨some 60, _, _, _, _, _⟩) rfl 60 rfl rfl ?_)
        | (at_builtin; (refine wpList_appN (o := ⟨some 62, _, _, _, _, _⟩) rfl 62 rfl (.tmp 60) (.tmp 61) rfl (w.heap.size + 2) (.slice (some ⟨wc.heap.size, 0, none⟩) 0 0) [] ?_ ho4 _ R1 ?_ hi4' H63.out.1 hs4 R1 m1 rfl HM1.out.symm ?_); rfl; rfl; intro A5 c5 w5 ho5 hg5; have hb5 := (HGR.out _ _ _ _ hb4 ho4 hg5).1; have hs5 := (HGR.out _ _ _ _ hb4 ho4 hg5).2)
        | (at_builtin; (refine wpList_appN (o := ⟨some 64, _, _, _, _, _⟩) rfl 64 rfl (.tmp 62) (.tmp 63) rfl (w.heap.size + 2) (.slice A5 m1 c5) R1 ?_ ho5 (.slice A n c) xs ?_ (by rw [HNX.out]; exact HSRX.out _ hb5) H63.out.2 hs5 N mN HN.out HMN.out ?_); rfl; rfl; intro A6 c6 w6 ho6 hg6; have hb6 := (HGR.out _ _ _ _ hb5 ho5 hg6).1)
        | (go_at_call 28; (with_reducible refine (HON.out _ _ _ hb6 (by rw [← HMN.out]; rw [← HMN.out] at ho6; exact ho6)).mono ?_); rintro e w7 ⟨g7, rfl, hr7, hb7, hg7⟩)
        | (go_at_call 29; (with_reducible refine (HRN2.out _ _ hb7 hg7 hr7).mono ?_); rintro e w8 ⟨rfl, hr8, hb8⟩)
        | (with_reducible refine wpList_alloc28 (o := ⟨some 12, _, _, _, _, _⟩) w8.heap.size rfl rfl 12 rfl rfl ?_)
        | ((with_reducible refine wpList_store28n (o := ⟨none, _, _, _, _, _⟩) rfl (.tmp 12) (.tmp 69) rfl w8.heap.size rfl zeroI a ?_ ?_ ?_); rfl; (rw [← HX.out]; rfl); rw [← HX.out]))
      (try simp only [Act.put, List.setIfInBounds_toArray, List.set_cons_zero, List.set_cons_succ])
      obtain ⟨hr9, hb9, hl9⟩ := HPA.out _ _ _ hr8 hb8
      have HL9 := Lib.hid (hl9 _ (Below.refl _ _))
      have HL3 := Lib.hid (H3.out _ hb9)
      have HLF9 := Lib.hid (HLF.out _ _ _ hr9)
      have hxsn : (xs.length : Int) = (n : Int) := by rw [← HNX.out]
      clear hi3 hb3 hb4 ho4 hs4 hi4 hi4' HRN2 HON HPA HSRC HSRX HNB HGR hb7 hr7 hg7 hr8 hb8 hr9 hl9 HX
      generalize w8.alloc (.cells X 28) = w9 at *
      generalize w8.heap.size = b8 at *
      rw [hxsn] at HLF9
      go_upto_region 12 with (first
        | ((with_reducible refine wpList_loadG (o := ⟨some 78, _, _, _, _, _⟩) rfl 28 (.tmp 12) rfl ⟨b8, 0, none⟩ ?_ _ HL9.out ?_); rfl)
        | ((with_reducible refine wpList_loadG (o := ⟨some 79, _, _, _, _, _⟩) rfl 28 (.tmp 3) rfl ⟨w.heap.size, 0, none⟩ ?_ _ HL3.out ?_); rfl)
        | (go_at_call 31; (with_reducible refine HLF9.out.mono ?_); rintro e w10 ⟨rfl, rfl⟩))
      clear HL9 HL3 HLF9 H3 heS
      cases gd
      · clear HBY HKC HHD C12k C14k HEK
        go_wp2_with (first
          | (go_at_call 28; (with_reducible refine (HOP.out _ hb9).mono ?_); rintro e w13 ⟨g13, rfl, hr13, hb13, hg13⟩)
          | (go_at_call 29; (with_reducible refine (HRD.out _ _ hb13 hg13 hr13).mono ?_); rintro e w14 ⟨rfl, hr14, hb14⟩)
          | (with_reducible refine wpList_alloc28 (o := ⟨some 15, _, _, _, _, _⟩) w14.heap.size rfl rfl 15 rfl rfl ?_)
          | ((with_reducible refine wpList_store28n (o := ⟨none, _, _, _, _, _⟩) rfl (.tmp 15) (.tmp 94) rfl w14.heap.size rfl zeroI K ?_ ?_ ?_); rfl; (rw [← HZ.out]; rfl); rw [← HZ.out])
          | (go_at_call 11; (with_reducible refine (HLI.out _).mono ?_); rintro e w15 ⟨rfl, hb15⟩))
        go_ret
        obtain ⟨_, hp2, _⟩ := HPK.out _ _ _ hr14 hb14
        exact ⟨rfl, HEND.out _ (hp2.trans (hb15.mono (by have := hp2.size; have := L2.out; omega)))⟩
      · obtain ⟨hy1, hy2, hy3⟩ := HBY.out rfl
        have hk3 : ek = 0 := by rw [HEK.out, if_pos hy3]
        subst hk3
        subst hy3
        have hy1' : (m3 : Int) + (ml : Int) = (n : Int) := by have := HM3.out; have := HML.out; have := HNX.out; omega
        have hyw : IntKind.i64.wrap ((m3 : Int) + (ml : Int)) = (n : Int) := by rw [hy1', IntKind.wrap]; simp [IntKind.signed, IntKind.bits]; have := HNX.out; have := HXL.out; omega
        have HHD2 : Hid (∀ W, Below (w.heap.size + 2) W0 W → (convert 30 9 (.slice (headA A c) m3 c)).run Try.prog W = .ok (.string (bstr R3)) W) := Lib.hid (fun W hW => HHD.out W hW (by rw [HM3.out]; exact hy2))
        have HKC2 := Lib.hid (HKC.out rfl)
        clear HBY HHD hy1 hy2 HEK hy1' HKC
        go_upto_region 16 with (first
          | (go_at_call 28; (with_reducible refine (HOP.out _ hb9).mono ?_); rintro e w13 ⟨g13, rfl, hr13, hb13, hg13⟩)
          | (go_at_call 29; (with_reducible refine (HRD.out _ _ hb13 hg13 hr13).mono ?_); rintro e w14 ⟨rfl, hr14, hb14⟩)
          | (with_reducible refine wpList_alloc28 (o := ⟨some 15, _, _, _, _, _⟩) w14.heap.size rfl rfl 15 rfl rfl ?_)
          | ((with_reducible refine wpList_store28n (o := ⟨none, _, _, _, _, _⟩) rfl (.tmp 15) (.tmp 94) rfl w14.heap.size rfl zeroI K ?_ ?_ ?_); rfl; (rw [← HZ.out]; rfl); rw [← HZ.out])
          | ((with_reducible refine wpList_loadV (op := ⟨some 102, _, _, _, _, _⟩) rfl 28 (.tmp 15) rfl ⟨w14.heap.size, 0, none⟩ ?_ _ ((HPK.out _ _ _ hr14 hb14).2.2 _ (Below.refl _ _)) ?_); rfl)
          | (go_at_call 12; (with_reducible refine (C12k.out _ (HPK.out _ _ _ hr14 hb14).2.1).mono ?_); rintro e w16 ⟨A16, k16, rfl, hi16, hb16, hb1416⟩))
        (try simp only [Act.put, List.setIfInBounds_toArray, List.set_cons_zero, List.set_cons_succ])
        obtain ⟨hrk, hbk, hlk⟩ := HPK.out _ _ _ hr14 hb14
        have hr16 := hrk.below hb1416 (Nat.le_refl _)
        have HZ1 : Hid (∀ m : Kept w16.heap.size w16, (convert 30 9 (.slice A16 m3 k16)).run Try.prog m.val = .ok (.string (bstr R3)) m.val) := Lib.hid (fun m => (hi16.below m.property).conv)
        have HZ2 : Hid (∀ m : Kept w16.heap.size w16, (convert 30 9 (.slice (headA A c) m3 c)).run Try.prog m.val = .ok (.string (bstr R3)) m.val) := Lib.hid (fun m => HHD2.out _ (hb16.trans (m.property.mono (by have := hb16.size; have := L2.out; omega))))
        have HQK : Hid (∀ m : Kept w16.heap.size w16, (loadVar 28 ⟨w14.heap.size, 0, none⟩).run Try.prog m.val = .ok (.agg Z) m.val) := Lib.hid (fun m => hlk _ (hb1416.trans (m.property.mono hb1416.size)))
        have HQL : Hid (∀ m : Kept w16.heap.size w16, Calls Try.prog 31 #[.pointer (some ⟨g13, 0, none⟩)] m.val fun e w' => e = .returned (.int .i64 (ml : Int)) ∧ Below m.val.heap.size m.val w') := Lib.hid (fun m => (HLF.out _ _ _ (hr16.below m.property (Nat.le_refl _))).mono (by rintro e w' ⟨rfl, rfl⟩; exact ⟨by rw [← HML.out], Below.refl _ _⟩))
        have HB16 := Lib.hid hb16
        clear hrk hbk hlk hr16 hb16 hb1416 hi16 hr13 hr14 hb13 hb14 hg13 HPK HOP HRD C12k HHD2 HLF HZ
        generalize bstr R3 = BR3 at *
        refine wp_region_kept w16.heap.size w16 (Below.refl _ _) (by kernel_rfl) (by kernel_rfl) ?_
        repeat (first
          | (go_big_quiet_want; (with_reducible refine quiet_convV (o := ⟨some 120, _, _, _, _, _⟩) 30 9 (.tmp 119) rfl _ _ ?_ HZ1.out ?_); rfl; simp only [Act.put, List.setIfInBounds_toArray, List.set_cons_zero, List.set_cons_succ]; go_big_quiet_on)
          | (go_big_quiet_want; (with_reducible refine quiet_convV (o := ⟨some 125, _, _, _, _, _⟩) 30 9 (.tmp 124) rfl _ _ ?_ HZ2.out ?_); rfl; simp only [Act.put, List.setIfInBounds_toArray, List.set_cons_zero, List.set_cons_succ]; go_big_quiet_on)
          | (go_big_quiet_want; (with_reducible refine quiet_headV (o := ⟨some 124, _, _, _, _, _⟩) (.tmp 121) (.tmp 123) rfl A n c m3 ?_ ?_ HKC2.out ?_); rfl; rfl; simp only [Act.put, List.setIfInBounds_toArray, List.set_cons_zero, List.set_cons_succ]; go_big_quiet_on)
          | (go_big_quiet_want; (with_reducible refine quiet_loadV 28 (.tmp 15) rfl _ ?_ _ HQK.out ?_); rfl; simp only [Act.put, List.setIfInBounds_toArray, List.set_cons_zero, List.set_cons_succ]; go_big_quiet_on)
          | go_big_quiet_step (first | (go_at_call 31; with_reducible exact kept_ofS (Nat.le_refl _) HQL.out _) | (go_at_call 14; with_reducible exact kept_of (Nat.le_refl _) C14k.out _) | (go_at_call 11; with_reducible exact kept_of (Nat.le_refl _) HLI.out _)))
        refine wpQuiet_nil ?_
        rintro wk ⟨⟨_, hwk⟩, rfl⟩
        go_wp2
        go_ret
        exact ⟨by simp, HEND.out _ (HB16.out.trans (hwk.mono (by have := HB16.out.size; have := L2.out; omega)))⟩
theorem iback_walk (a b : Ins) (A : Option Addr) (c : Nat) (xs : List UInt8) (w : World) (hA : BAt w w.heap.size A xs) (hc : xs.length ≤ c) (hz : a.tgt.length + b.tgt.length + xs.length ≤ 4611686018427387904) : Calls Try.prog 5 #[.agg (encI a).toArray, .agg (encI b).toArray, .slice A xs.length c] w fun e w' => e = .returned (.bool true) ∧ Below w.heap.size w w' := by
  by_cases h : 3000 < a.tgt.length + b.tgt.length + xs.length
  · exact iback_big a b A c xs.length hz h w
  · exact iback_small a b A c xs w hA hc (by omega)
end Go.Proofs.Ytkceipkgebgigaa
