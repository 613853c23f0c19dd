/- Walk of RosterMerges. Condition: lengths that an int holds. What RosterNewest has in memory, and its pieces. Conditions: at most 40 instances, targets of at most 300 bytes. -/
import Derived.Test.YtkceipkgebgigaaXOpc
import Derived.Test.YtkceipkgebgigaaXInq
import Derived.Test.YtkceipkgebgigaaXOhd
import Derived.Test.YtkceipkgebgigaaXIin
section
namespace Go.Proofs.Ytkceipkgebgigaa
open Go.Shelf Go.RowKit Go.Lib Go.Great
set_option maxRecDepth 100000
set_option maxHeartbeats 400000
theorem IAt.src {w : World} {B : Nat} {A : Option Addr} {L : List Ins} {t e : TypeId} (hT : InsT t e) (h : IAt w B A L) (c : Nat) : Src Try.prog 28 t (.slice A L.length c) L.length (flatE encI L) w := by
  cases A with
  | none =>
    rcases h with rfl | ⟨g, off, e, _⟩
    · exact Src.ofNil w hT.und c
    · cases e
  | some x =>
    refine Src.ofSlice w hT.und x L.length c (flatE encI L) (by rw [flatE_length encI_length]) (fun j u hu => ?_) (flatE_one _)
    rcases h with rfl | ⟨g, off, e, _, hr⟩
    · simp [flatE] at hu
    · injection e with e
      subst e
      rw [Addr.add_mid]
      exact hr j u hu
theorem wpList_build_noneI {t e : TypeId} (hT : InsT t e) {w : World} {ops : Array Oper} {rest : List Oper} {o : Oper} {a : Act} {Q : Exit → Act → World → Prop} (hgd : o.guard = none) (ho : o.op = .buildSlice t 0 #[])
    (h : wpList Try.prog ops Q rest (a.put o.dst (.slice (some ⟨w.heap.size, 0, none⟩) 0 0)) (w.alloc (.cells #[] e))) : wpList Try.prog ops Q (o :: rest) a w :=
  wpList_plain hgd fun _ hK => by
    unfold Oper.wp execOp
    simp only [ho, List.map_toArray, List.map_nil, Sem.run_bind, run_build_noneI hT, Result.andThen_ok, Sem.run_pure]
    exact hK _ _ h
theorem OwnR.be {w W : World} {M : List Ins} {v : Value} (h : OwnR w M W v) : Below w.heap.size w W := h.2
theorem OwnR.weak {w W W' : World} {M : List Ins} {v : Value} (h : OwnR W M W' v) (hb : Below w.heap.size w W) : OwnR w M W' v := ⟨own_baseC h.1 hb.size, hb.trans (h.2.mono hb.size)⟩
/-- A function of the program tells b, whatever has been made, and makes only what is its own. -/
def Tells (w : World) (f : Nat) (args : Array Value) (b : Bool) : Prop := ∀ W, Below w.heap.size w W → Calls Try.prog f args W fun e w' => e = .returned (.bool b) ∧ Below w.heap.size w w'
theorem light_tells (A : Option Addr) (c : Nat) (L : List Ins) (w : World) (hL : L.length ≤ 9223372036854775807) (hA : IAt w w.heap.size A L) : Tells w 38 #[.slice A L.length c] (lightR L) := fun W hW =>
  (light_any A c L W hL ((hA.below hW).more hW.size)).mono (by rintro e w' ⟨rfl, hb⟩; exact ⟨rfl, hW.trans (hb.mono hW.size)⟩)
theorem gd_tells (A : Option Addr) (c : Nat) (L : List Ins) (w : World) (ht : ∀ y ∈ L, y.tgt.length ≤ 300) (hA : IAt w w.heap.size A L) : Tells w 40 #[.slice A L.length c] (goodR L) := fun W hW =>
  (gd_any A c L W (fun y hy => by have := ht y hy; omega) ((hA.below hW).more hW.size)).mono (by rintro e w' ⟨rfl, hb⟩; exact ⟨rfl, hW.trans (hb.mono hW.size)⟩)
theorem rmerges_dark0 (w : World) (sa sb sc : Value) (h0 : Hid (Tells w 38 #[sa] false)) :
    Calls Try.prog 9 #[sa, sb, sc] w fun e w' => e = .returned (.bool true) ∧ Below w.heap.size w w' := by
  have HLI := Lib.hid rlives_any
  have hb0 := Below.refl w.heap.size w
  unfold Tells at h0
  go_enter Try.func9, Try.ntmps9
  go_wp2_with (first
    | (go_at_call 38; (with_reducible refine (h0.out _ hb0).mono ?_); rintro e w1 ⟨rfl, hb1⟩)
    | (go_at_call 34; (with_reducible refine (HLI.out _).mono ?_); rintro e w9 ⟨rfl, hb9⟩))
  go_ret
  exact ⟨rfl, hb1.trans (hb9.mono hb1.size)⟩
theorem rmerges_dark1 (w : World) (sa sb sc : Value) (h0 : Hid (Tells w 38 #[sa] true)) (h1 : Hid (Tells w 38 #[sb] false)) :
    Calls Try.prog 9 #[sa, sb, sc] w fun e w' => e = .returned (.bool true) ∧ Below w.heap.size w w' := by
  have HLI := Lib.hid rlives_any
  have hb0 := Below.refl w.heap.size w
  unfold Tells at h0
  unfold Tells at h1
  go_enter Try.func9, Try.ntmps9
  go_wp2_with (first
    | (go_at_call 38; (with_reducible refine (h0.out _ hb0).mono ?_); rintro e w1 ⟨rfl, hb1⟩)
    | (go_at_call 38; (with_reducible refine (h1.out _ hb1).mono ?_); rintro e w2 ⟨rfl, hb2⟩)
    | (go_at_call 34; (with_reducible refine (HLI.out _).mono ?_); rintro e w9 ⟨rfl, hb9⟩))
  go_ret
  exact ⟨rfl, hb2.trans (hb9.mono hb2.size)⟩
theorem rmerges_dark2 (w : World) (sa sb sc : Value) (h0 : Hid (Tells w 38 #[sa] true)) (h1 : Hid (Tells w 38 #[sb] true)) (h2 : Hid (Tells w 38 #[sc] false)) :
    Calls Try.prog 9 #[sa, sb, sc] w fun e w' => e = .returned (.bool true) ∧ Below w.heap.size w w' := by
  have HLI := Lib.hid rlives_any
  have hb0 := Below.refl w.heap.size w
  unfold Tells at h0
  unfold Tells at h1
  unfold Tells at h2
  go_enter Try.func9, Try.ntmps9
  go_wp2_with (first
    | (go_at_call 38; (with_reducible refine (h0.out _ hb0).mono ?_); rintro e w1 ⟨rfl, hb1⟩)
    | (go_at_call 38; (with_reducible refine (h1.out _ hb1).mono ?_); rintro e w2 ⟨rfl, hb2⟩)
    | (go_at_call 38; (with_reducible refine (h2.out _ hb2).mono ?_); rintro e w3 ⟨rfl, hb3⟩)
    | (go_at_call 34; (with_reducible refine (HLI.out _).mono ?_); rintro e w9 ⟨rfl, hb9⟩))
  go_ret
  exact ⟨rfl, hb3.trans (hb9.mono hb3.size)⟩
theorem rmerges_dark3 (w : World) (sa sb sc : Value) (h0 : Hid (Tells w 38 #[sa] true)) (h1 : Hid (Tells w 38 #[sb] true)) (h2 : Hid (Tells w 38 #[sc] true)) (h3 : Hid (Tells w 40 #[sa] false)) :
    Calls Try.prog 9 #[sa, sb, sc] w fun e w' => e = .returned (.bool true) ∧ Below w.heap.size w w' := by
  have HLI := Lib.hid rlives_any
  have hb0 := Below.refl w.heap.size w
  unfold Tells at h0
  unfold Tells at h1
  unfold Tells at h2
  unfold Tells at h3
  go_enter Try.func9, Try.ntmps9
  go_wp2_with (first
    | (go_at_call 38; (with_reducible refine (h0.out _ hb0).mono ?_); rintro e w1 ⟨rfl, hb1⟩)
    | (go_at_call 38; (with_reducible refine (h1.out _ hb1).mono ?_); rintro e w2 ⟨rfl, hb2⟩)
    | (go_at_call 38; (with_reducible refine (h2.out _ hb2).mono ?_); rintro e w3 ⟨rfl, hb3⟩)
    | (go_at_call 40; (with_reducible refine (h3.out _ hb3).mono ?_); rintro e w4 ⟨rfl, hb4⟩)
    | (go_at_call 34; (with_reducible refine (HLI.out _).mono ?_); rintro e w9 ⟨rfl, hb9⟩))
  go_ret
  exact ⟨rfl, hb4.trans (hb9.mono hb4.size)⟩
theorem rmerges_dark4 (w : World) (sa sb sc : Value) (h0 : Hid (Tells w 38 #[sa] true)) (h1 : Hid (Tells w 38 #[sb] true)) (h2 : Hid (Tells w 38 #[sc] true)) (h3 : Hid (Tells w 40 #[sa] true)) (h4 : Hid (Tells w 40 #[sb] false)) :
    Calls Try.prog 9 #[sa, sb, sc] w fun e w' => e = .returned (.bool true) ∧ Below w.heap.size w w' := by
  have HLI := Lib.hid rlives_any
  have hb0 := Below.refl w.heap.size w
  unfold Tells at h0
  unfold Tells at h1
  unfold Tells at h2
  unfold Tells at h3
  unfold Tells at h4
  go_enter Try.func9, Try.ntmps9
  go_wp2_with (first
    | (go_at_call 38; (with_reducible refine (h0.out _ hb0).mono ?_); rintro e w1 ⟨rfl, hb1⟩)
    | (go_at_call 38; (with_reducible refine (h1.out _ hb1).mono ?_); rintro e w2 ⟨rfl, hb2⟩)
    | (go_at_call 38; (with_reducible refine (h2.out _ hb2).mono ?_); rintro e w3 ⟨rfl, hb3⟩)
    | (go_at_call 40; (with_reducible refine (h3.out _ hb3).mono ?_); rintro e w4 ⟨rfl, hb4⟩)
    | (go_at_call 40; (with_reducible refine (h4.out _ hb4).mono ?_); rintro e w5 ⟨rfl, hb5⟩)
    | (go_at_call 34; (with_reducible refine (HLI.out _).mono ?_); rintro e w9 ⟨rfl, hb9⟩))
  go_ret
  exact ⟨rfl, hb5.trans (hb9.mono hb5.size)⟩
theorem rmerges_dark5 (w : World) (sa sb sc : Value) (h0 : Hid (Tells w 38 #[sa] true)) (h1 : Hid (Tells w 38 #[sb] true)) (h2 : Hid (Tells w 38 #[sc] true)) (h3 : Hid (Tells w 40 #[sa] true)) (h4 : Hid (Tells w 40 #[sb] true)) (h5 : Hid (Tells w 40 #[sc] false)) :
    Calls Try.prog 9 #[sa, sb, sc] w fun e w' => e = .returned (.bool true) ∧ Below w.heap.size w w' := by
  have HLI := Lib.hid rlives_any
  have hb0 := Below.refl w.heap.size w
  unfold Tells at h0
  unfold Tells at h1
  unfold Tells at h2
  unfold Tells at h3
  unfold Tells at h4
  unfold Tells at h5
  go_enter Try.func9, Try.ntmps9
  go_wp2_with (first
    | (go_at_call 38; (with_reducible refine (h0.out _ hb0).mono ?_); rintro e w1 ⟨rfl, hb1⟩)
    | (go_at_call 38; (with_reducible refine (h1.out _ hb1).mono ?_); rintro e w2 ⟨rfl, hb2⟩)
    | (go_at_call 38; (with_reducible refine (h2.out _ hb2).mono ?_); rintro e w3 ⟨rfl, hb3⟩)
    | (go_at_call 40; (with_reducible refine (h3.out _ hb3).mono ?_); rintro e w4 ⟨rfl, hb4⟩)
    | (go_at_call 40; (with_reducible refine (h4.out _ hb4).mono ?_); rintro e w5 ⟨rfl, hb5⟩)
    | (go_at_call 40; (with_reducible refine (h5.out _ hb5).mono ?_); rintro e w6 ⟨rfl, hb6⟩)
    | (go_at_call 34; (with_reducible refine (HLI.out _).mono ?_); rintro e w9 ⟨rfl, hb9⟩))
  go_ret
  exact ⟨rfl, hb6.trans (hb9.mono hb6.size)⟩
theorem rmerges_main (A B C : Option Addr) (ca cb cc : Nat) (a b c : List Ins) (w : World) (la : lightR a = true) (lb : lightR b = true) (lc : lightR c = true) (ga : goodR a = true) (gb : goodR b = true) (gc : goodR c = true)
    (hla : a.length ≤ 9223372036854775807) (hlb : b.length ≤ 9223372036854775807) (hlc : c.length ≤ 9223372036854775807)
    (hA : IAt w w.heap.size A a) (hB : IAt w w.heap.size B b) (hC : IAt w w.heap.size C c) (hA2 : A = none ∨ ∃ g off, A = some ⟨g, off, none⟩) (hB2 : B = none ∨ ∃ g off, B = some ⟨g, off, none⟩) :
    Calls Try.prog 9 #[.slice A a.length ca, .slice B b.length cb, .slice C c.length cc] w fun e w' => e = .returned (.bool true) ∧ Below w.heap.size w w' := by
  have h0 := Lib.hid (light_tells A ca a w hla hA)
  have h1 := Lib.hid (light_tells B cb b w hlb hB)
  have h2 := Lib.hid (light_tells C cc c w hlc hC)
  obtain ⟨ta, na⟩ := light_iff la
  obtain ⟨tb, nb⟩ := light_iff lb
  obtain ⟨tc, nc⟩ := light_iff lc
  have h3 := Lib.hid (gd_tells A ca a w ta hA)
  have h4 := Lib.hid (gd_tells B cb b w tb hB)
  have h5 := Lib.hid (gd_tells C cc c w tc hC)
  rw [la] at h0
  rw [lb] at h1
  rw [lc] at h2
  rw [ga] at h3
  rw [gb] at h4
  rw [gc] at h5
  unfold Tells at h0 h1 h2 h3 h4 h5
  have gab := merge_good ga gb
  have gbc := merge_good gb gc
  have gabc := merge_good gab gc
  have len : ∀ {M : List Ins}, goodR M = true → M.length ≤ 16 := fun h => ((goodR_iff _).1 h).1
  have tgt : ∀ {M : List Ins}, goodR M = true → ∀ y ∈ M, y.tgt.length ≤ 100000 := fun h y hy => by have := good_tgt h y hy; omega
  -- merging what came, and what was merged
  have mrg : ∀ {W : World} {X Y : Option Addr} {cx cy : Nat} {x y : List Ins}, goodR x = true → goodR y = true → Below w.heap.size w W → IAt W W.heap.size X x → (X = none ∨ ∃ g off, X = some ⟨g, off, none⟩) → IAt W W.heap.size Y y →
      Calls Try.prog 43 #[.slice X x.length cx, .slice Y y.length cy] W fun e w' => ∃ v, e = .returned v ∧ OwnR w (mergeL x y) w' v ∧ Below W.heap.size W w' := fun hx hy hW hX hX2 hY => by
    refine (merge_any _ _ _ _ _ _ _ (by have := len hx; omega) (tgt hx) (tgt hy) hX hX2 hY).mono ?_
    rintro e w' ⟨v, rfl, ho⟩
    exact ⟨v, rfl, ho.weak hW, ho.2⟩
  have up : ∀ {W : World} {X : Option Addr} {x : List Ins}, IAt w w.heap.size X x → Below w.heap.size w W → IAt W W.heap.size X x := fun h hW => (h.below hW).more hW.size
  have HMab : Hid (∀ W, Below w.heap.size w W → Calls Try.prog 43 #[.slice A a.length ca, .slice B b.length cb] W fun e w' => ∃ v, e = .returned v ∧ OwnR w (mergeL a b) w' v ∧ Below W.heap.size W w') := Lib.hid (fun W hW => mrg ga gb hW (up hA hW) hA2 (up hB hW))
  have HMaa : Hid (∀ W, Below w.heap.size w W → Calls Try.prog 43 #[.slice A a.length ca, .slice A a.length ca] W fun e w' => ∃ v, e = .returned v ∧ OwnR w a w' v ∧ Below W.heap.size W w') := Lib.hid (fun W hW => by have := mrg (cx := ca) (cy := ca) ga ga hW (up hA hW) hA2 (up hA hW); rw [merge_self ga] at this; exact this)
  have HMba : Hid (∀ W, Below w.heap.size w W → Calls Try.prog 43 #[.slice B b.length cb, .slice A a.length ca] W fun e w' => ∃ v, e = .returned v ∧ OwnR w (mergeL b a) w' v ∧ Below W.heap.size W w') := Lib.hid (fun W hW => mrg gb ga hW (up hB hW) hB2 (up hA hW))
  have HMbc : Hid (∀ W, Below w.heap.size w W → Calls Try.prog 43 #[.slice B b.length cb, .slice C c.length cc] W fun e w' => ∃ v, e = .returned v ∧ OwnR w (mergeL b c) w' v ∧ Below W.heap.size W w') := Lib.hid (fun W hW => mrg gb gc hW (up hB hW) hB2 (up hC hW))
  have HMabc : Hid (∀ W v, OwnR w (mergeL a b) W v → Calls Try.prog 43 #[v, .slice C c.length cc] W fun e w' => ∃ v', e = .returned v' ∧ OwnR w (mergeL (mergeL a b) c) w' v' ∧ Below W.heap.size W w') := Lib.hid (fun W v h => by
    obtain ⟨X, cx, rfl, i1, i2, _⟩ := h.form
    exact mrg gab gc h.2 i1 i2 (up hC h.2))
  have HMabb : Hid (∀ W v, OwnR w (mergeL a b) W v → Calls Try.prog 43 #[v, .slice B b.length cb] W fun e w' => ∃ v', e = .returned v' ∧ OwnR w (mergeL (mergeL a b) b) w' v' ∧ Below W.heap.size W w') := Lib.hid (fun W v h => by
    obtain ⟨X, cx, rfl, i1, i2, _⟩ := h.form
    exact mrg gab gb h.2 i1 i2 (up hB h.2))
  have HMabC : Hid (∀ W v, OwnR w (mergeL b c) W v → Calls Try.prog 43 #[.slice A a.length ca, v] W fun e w' => ∃ v', e = .returned v' ∧ OwnR w (mergeL a (mergeL b c)) w' v' ∧ Below W.heap.size W w') := Lib.hid (fun W v h => by
    obtain ⟨X, cx, rfl, i1, i2, _⟩ := h.form
    exact mrg ga gbc h.2 (up hA h.2) hA2 i1)
  have HGab : Hid (∀ W v, OwnR w (mergeL a b) W v → Calls Try.prog 40 #[v] W fun e w' => e = .returned (.bool true) ∧ Below W.heap.size W w') := Lib.hid (fun W v h => by
    obtain ⟨X, cx, rfl, i1, i2, _⟩ := h.form
    have := gd_any X cx (mergeL a b) W (tgt gab) i1
    rw [gab] at this
    exact this)
  have HSaa : Hid (∀ W v, OwnR w a W v → Calls Try.prog 44 #[v, .slice A a.length ca] W fun e w' => e = .returned (.bool true) ∧ Below W.heap.size W w') := Lib.hid (fun W v h => by
    have := same_own A ca a (by have := len ga; omega) h.1 (up hA h.2)
    rw [(sameR_iff a a).2 rfl] at this
    exact this)
  have HSS : Hid (∀ W v v' (M N : List Ins), goodR M = true → M = N → OwnR w M W v → OwnR w N W v' → Calls Try.prog 44 #[v, v'] W fun e w' => e = .returned (.bool true) ∧ Below W.heap.size W w') := Lib.hid (fun W v v' M N hg e h h' => by
    subst e
    obtain ⟨X, cx, rfl, i1, i2, _⟩ := h'.form
    have := same_own X cx M (by have := len hg; omega) h.1 i1
    rw [(sameR_iff M M).2 rfl] at this
    exact this)
  have HSA : Hid (∀ W, Below w.heap.size w W → Src Try.prog 28 56 (.slice A a.length ca) a.length (flatE encI a) W) := Lib.hid (fun W hW => IAt.src insT (up hA hW) ca)
  have HSB : Hid (∀ W, Below w.heap.size w W → Src Try.prog 28 56 (.slice B b.length cb) b.length (flatE encI b) W) := Lib.hid (fun W hW => IAt.src insT (up hB hW) cb)
  have HSC : Hid (∀ W, Below w.heap.size w W → Src Try.prog 28 56 (.slice C c.length cc) c.length (flatE encI c) W) := Lib.hid (fun W hW => IAt.src insT (up hC hW) cc)
  have HLE : Hid (([] : List Ins).length + a.length ≤ 1000000 ∧ ([] ++ a).length + b.length ≤ 1000000 ∧ ([] ++ a ++ b).length + c.length ≤ 1000000) := Lib.hid (by simp only [List.length_append, List.length_nil]; omega)
  obtain ⟨N, hN⟩ : ∃ N, N = pubN (a ++ b ++ c) (a ++ b ++ c).length := ⟨_, rfl⟩
  have HPU : Hid (∀ (w0 W : World) v, W.ownsRow w0.heap.size 28 28 v ([] ++ a ++ b ++ c).length (flatE encI ([] ++ a ++ b ++ c)) → Below w0.heap.size w0 W → Calls Try.prog 41 #[v] W fun e w' => e = .returned (.int .i64 (N : Int)) ∧ Below W.heap.size W w') := Lib.hid (fun w0 W v ho hb => by
    obtain ⟨X, cx, rfl, i1, i2, i3⟩ := OwnR.form (w := w0) ⟨ho, hb⟩
    have e : [] ++ a ++ b ++ c = a ++ b ++ c := rfl
    rw [e] at i1 i3 ⊢
    rw [hN]
    exact pubs_any X cx (a ++ b ++ c) W (by simp only [List.length_append]; omega) i3 i1)
  have HALL : Hid (N ≤ 16 → mergeL a b = mergeL b a ∧ mergeL (mergeL a b) c = mergeL a (mergeL b c) ∧ mergeL a b = mergeL (mergeL a b) b) := Lib.hid (fun h => by
    obtain ⟨q1, q2, q3⟩ := merge_all ga gb gc (by rw [← hN]; exact h)
    exact ⟨q1, q2, q3.symm⟩)
  have HGG : Hid (goodR (mergeL a b) = true ∧ goodR (mergeL (mergeL a b) c) = true ∧ goodR (mergeL (mergeL a b) b) = true) := Lib.hid ⟨gab, gabc, merge_good gab gb⟩
  have HLI := Lib.hid rlives_any
  have hb0 := Below.refl w.heap.size w
  clear la lb lc ga gb gc hla hlb hlc hA hB hC hA2 hB2 ta na tb nb tc nc gab gbc gabc len tgt mrg up hN
  generalize Value.slice A a.length ca = sa at *
  generalize Value.slice B b.length cb = sb at *
  generalize Value.slice C c.length cc = sc at *
  go_enter Try.func9, Try.ntmps9
  go_upto_region 3 with (first
    | (go_at_call 38; (with_reducible refine (h0.out _ hb0).mono ?_); rintro e w1 ⟨rfl, hb1⟩)
    | (go_at_call 38; (with_reducible refine (h1.out _ hb1).mono ?_); rintro e w2 ⟨rfl, hb2⟩)
    | (go_at_call 38; (with_reducible refine (h2.out _ hb2).mono ?_); rintro e w3 ⟨rfl, hb3⟩)
    | (go_at_call 40; (with_reducible refine (h3.out _ hb3).mono ?_); rintro e w4 ⟨rfl, hb4⟩)
    | (go_at_call 40; (with_reducible refine (h4.out _ hb4).mono ?_); rintro e w5 ⟨rfl, hb5⟩)
    | (go_at_call 40; (with_reducible refine (h5.out _ hb5).mono ?_); rintro e w6 ⟨rfl, hb6⟩))
  clear h0 h1 h2 h3 h4 h5
  have HB6 := Lib.hid hb6
  clear hb0 hb1 hb2 hb3 hb4 hb5 hb6
  go_upto_region 6 with (first
    | (go_at_call 43; (with_reducible refine (HMab.out _ HB6.out).mono ?_); rintro e w7 ⟨v7, rfl, ho7, hb7⟩)
    | (go_at_call 40; (with_reducible refine (HGab.out _ _ ho7).mono ?_); rintro e w8 ⟨rfl, hb8⟩; have ho8 := ho7.bel hb8)
    | (go_at_call 43; (with_reducible refine (HMaa.out _ ho8.be).mono ?_); rintro e w9 ⟨v9, rfl, ho9, hb9⟩; have hab9 := ho8.bel hb9)
    | (go_at_call 44; (with_reducible refine (HSaa.out _ _ ho9).mono ?_); rintro e w10 ⟨rfl, hb10⟩; have hab10 := hab9.bel hb10))
  have HAB := Lib.hid hab10
  clear ho7 hb7 hb8 ho8 ho9 hb9 hab9 hb10 hab10 HMab HGab HMaa HSaa HB6
  have hba : Below w10.heap.size w10 (w10.alloc (.cells #[] 28)) := (Below.refl _ w10).alloc (Nat.le_refl _) _
  have hown : (w10.alloc (.cells #[] 28)).ownsRow w10.heap.size 28 28 (.slice (some ⟨w10.heap.size, 0, none⟩) 0 0) ([] : List Ins).length (flatE encI []) := ownNone 28 28 (Nat.le_refl _)
  have HBA := Lib.hid hba
  have HOW := Lib.hid hown
  have HNX : Hid (∀ {W W' : World} {v : Value} {M : List Ins}, Below w10.heap.size w10 W → W.ownsRow w10.heap.size 28 28 v M.length (flatE encI M) → W.grownBy W' v.ownBlock → Below w10.heap.size w10 W') := Lib.hid (fun hW ho hg => below_ownB hW hW.size hg (fun k hk => (ho.lt k hk).1))
  have HW10 : Hid (∀ {W : World}, Below w10.heap.size w10 W → Below w.heap.size w W) := Lib.hid (fun hW => HAB.out.2.trans (hW.mono HAB.out.2.size))
  clear hba hown
  by_cases h16 : N ≤ 16
  · have h16' : ¬ (N : Int) > 16 := by omega
    obtain ⟨q1, q2, q3⟩ := HALL.out h16
    obtain ⟨g1, g2, g3⟩ := HGG.out
    have HE1 := Lib.hid (And.intro g1 q1)
    have HE2 := Lib.hid (And.intro g2 q2)
    have HE3 := Lib.hid (And.intro g3 q3.symm)
    clear HALL HGG q1 q2 q3 g1 g2 g3 h16
    go_wp2_with (first
      | (with_reducible refine wpList_build_noneI insT (o := ⟨some 51, _, _, _, _, _⟩) rfl rfl ?_)
      | (refine wpList_append_ins insT rfl (.tmp 51) (.tmp 52) rfl w10.heap.size _ [] a rfl HOW.out _ rfl (HSA.out _ (HW10.out HBA.out)) HLE.out.1 HBA.out.size ?_; intro v53 w53 ho53 hg53; have hb53 := HNX.out HBA.out HOW.out hg53)
      | (refine wpList_append_ins insT rfl (.tmp 53) (.tmp 54) rfl w10.heap.size _ ([] ++ a) b rfl ho53 _ rfl (HSB.out _ (HW10.out hb53)) HLE.out.2.1 hb53.size ?_; intro v55 w55 ho55 hg55; have hb55 := HNX.out hb53 ho53 hg55)
      | (refine wpList_append_ins insT rfl (.tmp 55) (.tmp 56) rfl w10.heap.size _ ([] ++ a ++ b) c rfl ho55 _ rfl (HSC.out _ (HW10.out hb55)) HLE.out.2.2 hb55.size ?_; intro v57 w57 ho57 hg57; have hb57 := HNX.out hb55 ho55 hg57; have hpu := Lib.hid (HPU.out w10 _ _ ho57 hb57))
      | (go_at_call 41; (with_reducible refine hpu.out.mono ?_); rintro e w58 ⟨rfl, hb58⟩; have hab58 := HAB.out.bel (hb57.trans (hb58.mono hb57.size)))
      | (go_at_call 43; (with_reducible refine (HMba.out _ hab58.be).mono ?_); rintro e w64 ⟨v64, rfl, ho64, hb64⟩; have hab64 := hab58.bel hb64)
      | (go_at_call 44; (with_reducible refine (HSS.out _ _ _ _ _ HE1.out.1 HE1.out.2 hab64 ho64).mono ?_); rintro e w65 ⟨rfl, hb65⟩; have hab65 := hab64.bel hb65)
      | (go_at_call 43; (with_reducible refine (HMabc.out _ _ hab65).mono ?_); rintro e w69 ⟨v69, rfl, ho69, hb69⟩; have hab69 := hab65.bel hb69)
      | (go_at_call 43; (with_reducible refine (HMbc.out _ hab69.be).mono ?_); rintro e w73 ⟨v73, rfl, ho73, hb73⟩; have hab73 := hab69.bel hb73; have h69b := ho69.bel hb73)
      | (go_at_call 43; (with_reducible refine (HMabC.out _ _ ho73).mono ?_); rintro e w74 ⟨v74, rfl, ho74, hb74⟩; have hab74 := hab73.bel hb74; have h69c := h69b.bel hb74)
      | (go_at_call 44; (with_reducible refine (HSS.out _ _ _ _ _ HE2.out.1 HE2.out.2 h69c ho74).mono ?_); rintro e w75 ⟨rfl, hb75⟩; have hab75 := hab74.bel hb75)
      | (go_at_call 43; (with_reducible refine (HMabb.out _ _ hab75).mono ?_); rintro e w80 ⟨v80, rfl, ho80, hb80⟩; have hab80 := hab75.bel hb80)
      | (go_at_call 44; (with_reducible refine (HSS.out _ _ _ _ _ HE3.out.1 HE3.out.2 ho80 hab80).mono ?_); rintro e w82 ⟨rfl, hb82⟩; have hab82 := hab80.bel hb82)
      | (go_at_call 34; (with_reducible refine (HLI.out _).mono ?_); rintro e w85 ⟨rfl, hb85⟩))
    go_ret
    exact ⟨rfl, hab82.be.trans (hb85.mono hab82.be.size)⟩
  · have h16' : (N : Int) > 16 := by omega
    clear HALL HGG h16 HMba HMabc HMbc HMabC HMabb HSS
    go_wp2_with (first
      | (with_reducible refine wpList_build_noneI insT (o := ⟨some 51, _, _, _, _, _⟩) rfl rfl ?_)
      | (refine wpList_append_ins insT rfl (.tmp 51) (.tmp 52) rfl w10.heap.size _ [] a rfl HOW.out _ rfl (HSA.out _ (HW10.out HBA.out)) HLE.out.1 HBA.out.size ?_; intro v53 w53 ho53 hg53; have hb53 := HNX.out HBA.out HOW.out hg53)
      | (refine wpList_append_ins insT rfl (.tmp 53) (.tmp 54) rfl w10.heap.size _ ([] ++ a) b rfl ho53 _ rfl (HSB.out _ (HW10.out hb53)) HLE.out.2.1 hb53.size ?_; intro v55 w55 ho55 hg55; have hb55 := HNX.out hb53 ho53 hg55)
      | (refine wpList_append_ins insT rfl (.tmp 55) (.tmp 56) rfl w10.heap.size _ ([] ++ a ++ b) c rfl ho55 _ rfl (HSC.out _ (HW10.out hb55)) HLE.out.2.2 hb55.size ?_; intro v57 w57 ho57 hg57; have hb57 := HNX.out hb55 ho55 hg57; have hpu := Lib.hid (HPU.out w10 _ _ ho57 hb57))
      | (go_at_call 41; (with_reducible refine hpu.out.mono ?_); rintro e w58 ⟨rfl, hb58⟩)
      | (go_at_call 34; (with_reducible refine (HLI.out _).mono ?_); rintro e w85 ⟨rfl, hb85⟩))
    go_ret
    exact ⟨rfl, (HW10.out (hb57.trans (hb58.mono hb57.size))).trans (hb85.mono (HW10.out (hb57.trans (hb58.mono hb57.size))).size)⟩
theorem rmerges_walk (A B C : Option Addr) (ca cb cc : Nat) (a b c : List Ins) (w : World)
    (hla : a.length ≤ 9223372036854775807) (hlb : b.length ≤ 9223372036854775807) (hlc : c.length ≤ 9223372036854775807)
    (hA : IAt w w.heap.size A a) (hB : IAt w w.heap.size B b) (hC : IAt w w.heap.size C c) (hA2 : A = none ∨ ∃ g off, A = some ⟨g, off, none⟩) (hB2 : B = none ∨ ∃ g off, B = some ⟨g, off, none⟩) :
    Calls Try.prog 9 #[.slice A a.length ca, .slice B b.length cb, .slice C c.length cc] w fun e w' => e = .returned (.bool true) ∧ Below w.heap.size w w' := by
  have h0 := light_tells A ca a w hla hA
  have h1 := light_tells B cb b w hlb hB
  have h2 := light_tells C cc c w hlc hC
  cases la : lightR a with
  | false => rw [la] at h0; exact rmerges_dark0 w _ _ _ (Lib.hid h0)
  | true =>
    rw [la] at h0
    cases lb : lightR b with
    | false => rw [lb] at h1; exact rmerges_dark1 w _ _ _ (Lib.hid h0) (Lib.hid h1)
    | true =>
      rw [lb] at h1
      cases lc : lightR c with
      | false => rw [lc] at h2; exact rmerges_dark2 w _ _ _ (Lib.hid h0) (Lib.hid h1) (Lib.hid h2)
      | true =>
        rw [lc] at h2
        have h3 := gd_tells A ca a w (light_iff la).1 hA
        have h4 := gd_tells B cb b w (light_iff lb).1 hB
        have h5 := gd_tells C cc c w (light_iff lc).1 hC
        cases ga : goodR a with
        | false => rw [ga] at h3; exact rmerges_dark3 w _ _ _ (Lib.hid h0) (Lib.hid h1) (Lib.hid h2) (Lib.hid h3)
        | true =>
          rw [ga] at h3
          cases gb : goodR b with
          | false => rw [gb] at h4; exact rmerges_dark4 w _ _ _ (Lib.hid h0) (Lib.hid h1) (Lib.hid h2) (Lib.hid h3) (Lib.hid h4)
          | true =>
            rw [gb] at h4
            cases gc : goodR c with
            | false => rw [gc] at h5; exact rmerges_dark5 w _ _ _ (Lib.hid h0) (Lib.hid h1) (Lib.hid h2) (Lib.hid h3) (Lib.hid h4) (Lib.hid h5)
            | true => exact rmerges_main A B C ca cb cc a b c w la lb lc ga gb gc hla hlb hlc hA hB hC hA2 hB2
end Go.Proofs.Ytkceipkgebgigaa
end
section
namespace Go.Proofs.Ytkceipkgebgigaa
open Go.Shelf Go.RowKit Go.Lib Go.Great
set_option maxRecDepth 100000
set_option maxHeartbeats 400000
/-- Between two rounds: what was put is there to read, what came lies in a row of its own. -/
structure NwR (w : World) (L : List Ins) (k : Nat) (W : World) (s3 s4 : Value) : Prop where
  out : ∃ A c, s3 = .slice A (foldK [] L k).length c ∧ IAt W W.heap.size A (foldK [] L k) ∧ (A = none ∨ ∃ g off, A = some ⟨g, off, none⟩)
  came : W.ownsRow w.heap.size 28 28 s4 (L.take k).length (flatE encI (L.take k))
  be : Below w.heap.size w W
  good : ∀ j, j < k → goodI L[j]! = true
/-- Behind Put: what was put lies in a new row. -/
structure NwP (w : World) (L : List Ins) (k B : Nat) (W : World) (s3 s4 : Value) : Prop where
  out : W.ownsRow B 28 28 s3 (foldK [] L (k + 1)).length (flatE encI (foldK [] L (k + 1)))
  came : W.ownsRow w.heap.size 28 28 s4 (L.take k).length (flatE encI (L.take k))
  less : ∀ q, s4.ownBlock = some q → q < B
  be : Below w.heap.size w W
  wB : w.heap.size ≤ B ∧ B ≤ W.heap.size
  good : ∀ j, j < k + 1 → goodI L[j]! = true
section
variable {w W W' : World} {L : List Ins} {k B : Nat} {s3 s4 : Value}
theorem NwR.start (w : World) (L : List Ins) : NwR w L 0 w (.slice none 0 0) (.slice none 0 0) :=
  ⟨⟨none, 0, rfl, .inl rfl, .inl rfl⟩, World.ownsRow_nil w _ 28 28, Below.refl _ _, fun j hj => by omega⟩
theorem NwR.bel (h : NwR w L k W s3 s4) (hb : Below W.heap.size W W') : NwR w L k W' s3 s4 := by
  obtain ⟨A, c, e, hA, hA2⟩ := h.out
  exact ⟨⟨A, c, e, (hA.below hb).more hb.size, hA2⟩, own_bel h.came hb, h.be.trans (hb.mono h.be.size), h.good⟩
theorem NwP.bel (h : NwP w L k B W s3 s4) (hb : Below W.heap.size W W') : NwP w L k B W' s3 s4 :=
  ⟨own_bel h.out hb, own_bel h.came hb, h.less, h.be.trans (hb.mono h.be.size), ⟨h.wB.1, Nat.le_trans h.wB.2 hb.size⟩, h.good⟩
theorem foldK_good {L : List Ins} {k : Nat} (h : ∀ j, j < k → goodI L[j]! = true) (hk : k ≤ L.length) : goodR (foldK [] L k) = true := by
  refine fold_good _ (by rfl) (fun x hx => ?_)
  obtain ⟨j, hj, rfl⟩ := List.getElem_of_mem hx
  rw [List.length_take] at hj
  rw [List.getElem_take]
  have := h j (by omega)
  rwa [getElem!_pos L j (by omega)] at this
theorem NwR.put (h : NwR w L k W s3 s4) (hk : k < L.length) (hx : goodI L[k]! = true) : Calls Try.prog 39 #[s3, .agg (encI L[k]!).toArray] W fun e w' => ∃ v r, e = .returned (.tuple #[v, .bool r]) ∧ NwP w L k W.heap.size w' v s4 ∧ Below W.heap.size W w' := by
  obtain ⟨A, c, rfl, hA, hA2⟩ := h.out
  have hg := foldK_good h.good (by omega)
  have hl := ((goodR_iff _).1 hg).1
  refine (put_roster A c _ L[k]! W (by omega) (fun y hy => by have := good_tgt hg y hy; omega) (by have := goodI_len hx; omega) hA hA2).mono ?_
  rintro e w' ⟨v, rfl, ho, hb⟩
  have e1 := foldK_succ [] L k hk
  rw [← e1] at ho
  refine ⟨v, _, rfl, ⟨ho, own_bel h.came hb, fun q hq => (h.came.lt q hq).2, h.be.trans (hb.mono h.be.size), ⟨h.be.size, hb.size⟩, fun j hj => ?_⟩, hb⟩
  by_cases hjk : j = k
  · subst hjk; exact hx
  · exact h.good j (by omega)
theorem NwP.push (h : NwP w L k B W s3 s4) (hk : k < L.length) {v : Value} (hg : W.grownBy W' s4.ownBlock) (ho : W'.ownsRow w.heap.size 28 28 v (L.take k ++ [L[k]!]).length (flatE encI (L.take k ++ [L[k]!]))) : NwR w L (k + 1) W' s3 v := by
  have e1 : L.take k ++ [L[k]!] = L.take (k + 1) := by rw [List.take_add_one, List.getElem?_eq_getElem hk, getElem!_pos L k hk]; rfl
  rw [e1] at ho
  obtain ⟨A, c, hv, hn, hc, hm, hform⟩ := own_formI h.out
  have hIA : IAt W' W'.heap.size A (foldK [] L (k + 1)) := by
    rcases hform with ⟨_, e, _⟩ | ⟨g, rfl, hB, hgl, hr⟩
    · exact .inl e
    · exact .inr ⟨g, 0, rfl, Nat.lt_of_lt_of_le hgl hg.size, rangeAt_below hr (hg.block g hgl (fun e => by have := h.less g e.symm; omega))⟩
  have hA2 : A = none ∨ ∃ g off, A = some ⟨g, off, none⟩ := by
    rcases hform with ⟨e, _⟩ | ⟨g, rfl, _⟩
    · exact .inl e
    · exact .inr ⟨g, 0, rfl⟩
  exact ⟨⟨A, c, hv, hIA, hA2⟩, ho, below_ownB h.be h.be.size hg (fun q hq => (h.came.lt q hq).1), h.good⟩
theorem NwR.gd (h : NwR w L k W s3 s4) (hk : k ≤ L.length) : Calls Try.prog 40 #[s3] W fun e w' => e = .returned (.bool true) ∧ Below W.heap.size W w' := by
  obtain ⟨A, c, rfl, hA, hA2⟩ := h.out
  have hg := foldK_good h.good hk
  have := gd_any A c _ W (fun y hy => by have := good_tgt hg y hy; omega) hA
  rw [hg] at this
  exact this
theorem NwR.pubs (h : NwR w L k W s3 s4) (hL : L.length ≤ 40) : Calls Try.prog 41 #[s4] W fun e w' => e = .returned (.int .i64 (pubN (L.take k) (L.take k).length : Int)) ∧ Below W.heap.size W w' := by
  obtain ⟨A, c, rfl, hA, _, hc⟩ := OwnR.form (w := w) ⟨h.came, h.be⟩
  exact pubs_any A c _ W (by rw [List.length_take]; omega) hc hA
/-- What came, to be read. -/
theorem NwR.form (h : NwR w L k W s3 s4) (hk : 0 < k) (hkl : k ≤ L.length) : ∃ g c, s4 = .slice (some ⟨g, 0, none⟩) k c ∧ g < W.heap.size ∧ W.rangeAt g 0 (flatE encI (L.take k)) := by
  obtain ⟨A, c, hv, hn, hc, hm, hform⟩ := own_formI h.came
  have hl : (L.take k).length = k := by rw [List.length_take]; omega
  rw [hl] at hv
  rcases hform with ⟨_, e, _⟩ | ⟨g, rfl, _, hg, hr⟩
  · rw [e] at hl; simp at hl; omega
  · exact ⟨g, c, hv, hg, hr⟩
theorem NwR.get (h : NwR w L k W s3 s4) (hk : k ≤ L.length) (hn : pubN (L.take k) (L.take k).length ≤ 16) {x : Ins} (hx : x ∈ L.take k) : Calls Try.prog 42 #[s3, .agg (bcells x.pub).toArray] W fun e w' => e = .returned (.tuple #[.agg (encI (newN (L.take k) x k)).toArray, .bool true]) ∧ Below W.heap.size W w' := by
  obtain ⟨A, c, rfl, hA, hA2⟩ := h.out
  have hg := foldK_good h.good hk
  have hl := ((goodR_iff _).1 hg).1
  have hall : ∀ y ∈ L.take k, goodI y = true := fun y hy => by
    obtain ⟨j, hj, rfl⟩ := List.getElem_of_mem hy
    rw [List.length_take] at hj
    rw [List.getElem_take]
    have := h.good j (by omega)
    rwa [getElem!_pos L j (by omega)] at this
  have hrep := rep_fold (U := pubU (L.take k) (L.take k).length) (by rw [pubU_len]; exact hn) (L.take k) rep_nil hall (fun y hy => by cases hy) (pubU_all _)
  have hgv := newest_get hrep (x := x) (by simpa using hx)
  rw [List.nil_append] at hgv
  have e2 : (L.take k).length = k := by rw [List.length_take]; omega
  rw [e2] at hgv
  have := get_any A c (foldK [] L k) x.pub x.hp W (by omega) hA
  unfold foldK at this ⊢
  rw [hgv] at this
  exact this
end
end Go.Proofs.Ytkceipkgebgigaa
end
