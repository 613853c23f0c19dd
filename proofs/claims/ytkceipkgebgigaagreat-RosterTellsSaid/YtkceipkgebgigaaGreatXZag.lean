/- Bytes of the reference. Conditions: at most 10,000 instances, targets of at most 100,000 bytes. RosterTells: what its walk rests upon, and its short ways. Conditions: lengths that an int holds. RosterTells: its long way. Conditions: what Light says. -/
import Derived.Test.YtkceipkgebgigaaGreatXZaf
import Derived.Test.YtkceipkgebgigaaGreatXZak
import Derived.Test.YtkceipkgebgigaaGreatXIix
import Derived.Test.YtkceipkgebgigaaGreatXOqb
import Derived.Test.YtkceipkgebgigaaGreatXOgb
section
namespace Go.Proofs.YtkceipkgebgigaaGreat
open Go.Shelf Go.RowKit Go.Lib Go.Great
set_option maxRecDepth 100000
set_option maxHeartbeats 400000
theorem ownOne {w : World} {base : Nat} (v : Value) (hb : base ≤ w.heap.size) : (w.alloc (.cells #[v] 5)).ownsRow base 5 1 (.slice (some ⟨w.heap.size, 0, none⟩) 1 1) 1 [v] :=
  ⟨by simp, .inr ⟨w.heap.size, 1, #[v], rfl, hb, heap_alloc_new w (.cells #[v] 5), Nat.le_refl _, by simp [maxLen], by simp, by simp⟩⟩
theorem rrbytes_bad (A : Option Addr) (c : Nat) (L : List Ins) (w : World) (hl : L.length ≤ 10000) (ht : ∀ y ∈ L, y.tgt.length ≤ 100000) (hA : IAt w w.heap.size A L) (hg : goodR L = false) :
    Calls Tryz.prog 9 #[.slice A L.length c] w fun e w' => ∃ v, e = .returned (.tuple #[v, .int .i64 (errR L)]) ∧ IsB v (byR L) w' ∧ Below w.heap.size w w' := by
  have HG := Lib.hid (rgd_any A c L w hl ht hA)
  rw [hg] at HG
  have HN : Hid (errR L = 2 ∧ byR L = []) := Lib.hid (by unfold errR byR; rw [hg]; exact ⟨rfl, rfl⟩)
  rw [HN.out.1, HN.out.2]
  clear ht hA hg hl
  go_enter Tryz.func9, Tryz.ntmps9
  go_wp2_with (first | (go_at_call 14; (with_reducible refine HG.out.mono ?_); rintro e w1 ⟨rfl, hb1⟩))
  go_ret2
  exact ⟨_, rfl, IsB.nil _, hb1⟩
theorem rrbytes_good (A : Option Addr) (c : Nat) (L : List Ins) (w : World) (ht : ∀ y ∈ L, y.tgt.length ≤ 100000) (hA : IAt w w.heap.size A L) (hg : goodR L = true) :
    Calls Tryz.prog 9 #[.slice A L.length c] w fun e w' => ∃ v, e = .returned (.tuple #[v, .int .i64 (errR L)]) ∧ IsB v (byR L) w' ∧ Below w.heap.size w w' := by
  have hl := ((goodR_iff L).1 hg).1
  have HG := Lib.hid (rgd_any A c L w (by omega) ht hA)
  rw [hg] at HG
  have HN : Hid (errR L = 0 ∧ byR L = upR L L.length) := Lib.hid (by unfold errR byR; rw [hg]; exact ⟨rfl, rfl⟩)
  rw [HN.out.1, HN.out.2]
  have HONE : Hid (∀ W, Below w.heap.size w W → (W.alloc (.cells #[.int .u8 (L.length : Int)] 5)).ownsRow w.heap.size 5 1 (.slice (some ⟨W.heap.size, 0, none⟩) 1 1) (upR L 0).length (bcells (upR L 0)) ∧ Below w.heap.size w (W.alloc (.cells #[.int .u8 (L.length : Int)] 5))) := Lib.hid (fun W hW => by
    have e0 : upR L 0 = [UInt8.ofNat L.length] := by unfold upR putB; simp
    have e1 : bcells (upR L 0) = [.int .u8 (L.length : Int)] := by
      rw [e0]
      simp [bcells]
      omega
    have e2 : (upR L 0).length = 1 := by rw [e0]; rfl
    rw [e1, e2]
    exact ⟨ownOne _ hW.size, hW.alloc hW.size _⟩)
  have HLD : Hid (∀ k, k < L.length → ∃ g off, A = some ⟨g, off, none⟩ ∧ ∀ W, Below w.heap.size w W → (loadVar 29 ⟨g, off + k * 28, none⟩).run Tryz.prog W = .ok (.agg (encI L[k]!).toArray) W) := Lib.hid (fun k hk => by
    rcases hA with e | ⟨g, off, e, hgl, hr⟩
    · rw [e] at hk; simp at hk
    · exact ⟨g, off, e, fun W hW => row_load hr hgl hW hk⟩)
  have HBY : Hid (∀ k, k < L.length → ∀ W, Calls Tryz.prog 35 #[.agg (encI L[k]!).toArray] W fun e w' => ∃ v, e = .returned (.tuple #[v, .int .i64 0]) ∧ IsB v (byI L[k]!) w' ∧ Below W.heap.size W w') := Lib.hid (fun k hk W => by
    have hgk : goodI L[k]! = true := goodR_all hg _ (by rw [getElem!_pos L k hk]; exact List.getElem_mem _)
    have := ribytes_any L[k]! (ht _ (by rw [getElem!_pos L k hk]; exact List.getElem_mem hk)) W
    rw [byI_good hgk] at this
    exact this)
  have HUP : Hid (∀ k, k < L.length → upR L k ++ byI L[k]! = upR L (k + 1) ∧ (upR L k).length + (byI L[k]!).length ≤ 10000000) := Lib.hid (fun k hk => ⟨upR_succ L k hk, by have := upR_len L k; have := byI_len4 L[k]!; omega⟩)
  clear HN
  generalize hn : L.length = n at *
  have hn8 : (n : Int) % 256 = (n : Int) := by omega
  clear hA ht hg
  go_enter Tryz.func9, Tryz.ntmps9
  go_upto_region 4 with (first
    | (go_at_call 14; (with_reducible refine HG.out.mono ?_); rintro e w1 ⟨rfl, hb1⟩))
  have HO := HONE.out _ hb1
  have HO2 := Lib.hid HO.1
  have HB2 := Lib.hid HO.2
  clear HO hb1 HG HONE
  go_wp2
  go_loopw [4, 5] (fun v0 i wr => ∃ (k : Nat) (v : Value), v0 = v ∧ i = .int .i64 (k : Int) ∧ k ≤ n ∧ wr.ownsRow w.heap.size 5 1 v (upR L k).length (bcells (upR L k)) ∧ Below w.heap.size w wr) (fun _ i _ => n - (RowKit.intOf i).toNat)
  case atStart => exact ⟨0, _, rfl, rfl, by omega, HO2.out, HB2.out⟩
  case round =>
    obtain ⟨k, v4, hv4, rfl, hk, ho, hbr⟩ := hrel
    obtain rfl := hv4.symm
    clear HO2 HB2
    by_cases hlt : k < n
    · have hlt' : (k : Int) < (n : Int) := by omega
      obtain ⟨g, off, rfl, hld⟩ := HLD.out k hlt
      have HLV := Lib.hid (hld wr hbr)
      have HB := Lib.hid (HBY.out k hlt)
      obtain ⟨hup, hul⟩ := HUP.out k hlt
      obtain ⟨Y, hY⟩ : ∃ Y : Ins, Y = L[k]! := ⟨_, rfl⟩
      rw [← hY] at HLV HB hup hul
      have HUPk := Lib.hid hup
      have HULk := Lib.hid hul
      have HOW : Hid (∀ W, Below wr.heap.size wr W → W.ownsRow w.heap.size 5 1 v4 (upR L k).length (bcells (upR L k)) ∧ Below w.heap.size w W ∧ w.heap.size ≤ W.heap.size) := Lib.hid (fun W hW =>
        ⟨ho.kept (grown_of_bel hW none) (by cases v4.ownBlock <;> simp), hbr.trans (hW.mono hbr.size), Nat.le_trans hbr.size hW.size⟩)
      have HOB : Hid (∀ q, v4.ownBlock = some q → w.heap.size ≤ q) := Lib.hid (fun q hq => (ho.lt q hq).1)
      have HSRC : Hid (∀ W v, IsB v (byI Y) W → Src Tryz.prog 1 34 v (byI Y).length (bcells (byI Y)) W) := Lib.hid (fun W v hi => by
        obtain ⟨A', c', rfl, _, hA'⟩ := hi
        exact hA'.src Tryz.underlying34 c')
      have HNX : Hid (∀ W A' c' w', Below wr.heap.size wr W → w'.ownsRow w.heap.size 5 1 (.slice A' (upR L (k + 1)).length c') (upR L (k + 1)).length (bcells (upR L (k + 1))) → W.grownBy w' v4.ownBlock → ∃ (k' : Nat) (v : Value), Value.slice A' (upR L (k + 1)).length c' = v ∧ Value.int .i64 ((k : Int) + 1) = .int .i64 (k' : Int) ∧ k' ≤ n ∧ w'.ownsRow w.heap.size 5 1 v (upR L k').length (bcells (upR L k')) ∧ Below w.heap.size w w') := Lib.hid (fun W A' c' w' hW ho' hg' => by
        obtain ⟨_, q2, q3⟩ := HOW.out W hW
        exact ⟨k + 1, _, rfl, by simp, by omega, ho', below_ownB q2 q3 hg' HOB.out⟩)
      clear hY hld hup hul ho hbr HLD HBY HUP
      go_wp2_with (first
        | ((with_reducible refine wpList_loadV (op := ⟨some 25, _, _, _, _, _⟩) rfl 29 (.tmp 24) rfl _ ?_ _ HLV.out ?_); rfl)
        | (go_at_call 35; (with_reducible refine (HB.out _).mono ?_); rintro e5 w5 ⟨v5, rfl, hi5, hb5⟩)
        | (at_builtin; (refine wpList_appN (o := ⟨some 31, _, _, _, _, _⟩) rfl 31 rfl (.tmp 29) (.tmp 30) rfl w.heap.size v4 (upR L k) ?_ (HOW.out _ hb5).1 v5 (byI Y) ?_ (HSRC.out _ _ hi5) HULk.out (HOW.out _ hb5).2.2 (upR L (k + 1)) (upR L (k + 1)).length HUPk.out rfl ?_); rfl; rfl; intro A6 c6 w6 ho6 hg6))
      go_roundw
      case rel => exact HNX.out _ _ _ _ hb5 ho6 hg6
      case measure => simp [RowKit.intOf]; omega
    · obtain rfl : k = n := by omega
      have HI := Lib.hid (IsB.of_own ho)
      have HBR := Lib.hid hbr
      clear HLD HBY HUP ho hbr
      go_wp2
      go_ret2
      exact ⟨_, rfl, HI.out, HBR.out⟩
theorem rrbytes_any (A : Option Addr) (c : Nat) (L : List Ins) (w : World) (hl : L.length ≤ 10000) (ht : ∀ y ∈ L, y.tgt.length ≤ 100000) (hA : IAt w w.heap.size A L) :
    Calls Tryz.prog 9 #[.slice A L.length c] w fun e w' => ∃ v, e = .returned (.tuple #[v, .int .i64 (errR L)]) ∧ IsB v (byR L) w' ∧ Below w.heap.size w w' := by
  cases hg : goodR L with
  | false => exact rrbytes_bad A c L w hl ht hA hg
  | true => exact rrbytes_good A c L w ht hA hg
end Go.Proofs.YtkceipkgebgigaaGreat
end
section
namespace Go.Proofs.YtkceipkgebgigaaGreat
open Go.Shelf Go.RowKit Go.Lib Go.Great
set_option maxRecDepth 100000
set_option maxHeartbeats 400000
theorem light_iff {L : List Ins} (h : lightR L = true) : (∀ y ∈ L, y.tgt.length ≤ 300) ∧ L.length ≤ 40 := by
  unfold lightR at h
  rw [Bool.and_eq_true, List.all_eq_true, decide_eq_true_eq] at h
  exact ⟨fun y hy => by simpa using h.1 y hy, h.2⟩
/-- A box's world. -/
structure BoxR (w W0 : World) (X : Array Value) : Prop where
  w1 : W0 = w.alloc (.cells X 29)
  be : Below w.heap.size w W0
  at0 : W0.heap[w.heap.size]? = some (.cells X 29 (0, 0))
theorem boxR (w : World) (X : Array Value) : BoxR w (w.alloc (.cells X 29)) X := ⟨rfl, (Below.refl _ w).alloc (Nat.le_refl _) _, heap_alloc_new w _⟩
theorem rtells_dark1 (w W0 : World) (sa sb : Value) (X : Array Value) (now : Nat) (hb : Hid (BoxR w W0 X)) (h0 : Hid (Tells W0 4 #[sa] false)) :
    Calls Tryz.prog 3 #[sa, sb, .agg X, .int .u64 (now : Int)] w fun e w' => e = .returned (.bool true) ∧ Below w.heap.size w w' := by
  have HLI := Lib.hid rlives_any
  have hb0 := Below.refl W0.heap.size W0
  unfold Tells at h0
  go_enter Tryz.func3, Tryz.ntmps3
  go_upto_region 1 with fail
  rw [← hb.out.w1]
  go_wp2_with (first
    | (go_at_call 4; (with_reducible refine (h0.out _ hb0).mono ?_); rintro e w1 ⟨rfl, hb1⟩)
    | (go_at_call 5; (with_reducible refine (HLI.out _).mono ?_); rintro e w9 ⟨rfl, hb9⟩))
  go_ret
  exact ⟨rfl, hb.out.be.trans ((hb1.trans (hb9.mono hb1.size)).mono hb.out.be.size)⟩
theorem rtells_dark2 (w W0 : World) (sa sb : Value) (X : Array Value) (now : Nat) (hb : Hid (BoxR w W0 X)) (h0 : Hid (Tells W0 4 #[sa] true)) (h1 : Hid (Tells W0 4 #[sb] false)) :
    Calls Tryz.prog 3 #[sa, sb, .agg X, .int .u64 (now : Int)] w fun e w' => e = .returned (.bool true) ∧ Below w.heap.size w w' := by
  have HLI := Lib.hid rlives_any
  have hb0 := Below.refl W0.heap.size W0
  unfold Tells at h0
  unfold Tells at h1
  go_enter Tryz.func3, Tryz.ntmps3
  go_upto_region 1 with fail
  rw [← hb.out.w1]
  go_wp2_with (first
    | (go_at_call 4; (with_reducible refine (h0.out _ hb0).mono ?_); rintro e w1 ⟨rfl, hb1⟩)
    | (go_at_call 4; (with_reducible refine (h1.out _ hb1).mono ?_); rintro e w2 ⟨rfl, hb2⟩)
    | (go_at_call 5; (with_reducible refine (HLI.out _).mono ?_); rintro e w9 ⟨rfl, hb9⟩))
  go_ret
  exact ⟨rfl, hb.out.be.trans ((hb2.trans (hb9.mono hb2.size)).mono hb.out.be.size)⟩
theorem rtells_dark3 (w W0 : World) (sa sb : Value) (X : Array Value) (S : ByteArray) (now : Nat) (hb : Hid (BoxR w W0 X)) (h0 : Hid (Tells W0 4 #[sa] true)) (h1 : Hid (Tells W0 4 #[sb] true))
    (ht : Hid (∀ W, Below W0.heap.size W0 W → (loadVar 9 ⟨w.heap.size, 27, none⟩).run Tryz.prog W = .ok (.string S) W)) (hs : (S.size : Int) > 300) :
    Calls Tryz.prog 3 #[sa, sb, .agg X, .int .u64 (now : Int)] w fun e w' => e = .returned (.bool true) ∧ Below w.heap.size w w' := by
  have HLI := Lib.hid rlives_any
  have hb0 := Below.refl W0.heap.size W0
  unfold Tells at h0
  unfold Tells at h1
  go_enter Tryz.func3, Tryz.ntmps3
  go_upto_region 1 with fail
  rw [← hb.out.w1]
  go_wp2_with (first
    | (go_at_call 4; (with_reducible refine (h0.out _ hb0).mono ?_); rintro e w1 ⟨rfl, hb1⟩)
    | (go_at_call 4; (with_reducible refine (h1.out _ hb1).mono ?_); rintro e w2 ⟨rfl, hb2⟩)
    | ((with_reducible refine wpList_loadG (o := ⟨some 31, _, _, _, _, _⟩) rfl 9 (.tmp 30) rfl _ ?_ _ (ht.out _ hb2) ?_); rfl)
    | (go_at_call 5; (with_reducible refine (HLI.out _).mono ?_); rintro e w9 ⟨rfl, hb9⟩))
  go_ret
  exact ⟨rfl, hb.out.be.trans ((hb2.trans (hb9.mono hb2.size)).mono hb.out.be.size)⟩
/-- What gives a roster back. -/
def Rost (M : List Ins) (W : World) (e : Ending) (w' : World) : Prop := ∃ A c, e = .returned (.slice A M.length c) ∧ IAt w' w'.heap.size A M ∧ Below W.heap.size W w'
theorem Rost.of_own {M : List Ins} {W : World} {e : Ending} {w' : World} (h : ∃ v, e = .returned v ∧ OwnR W M w' v) : Rost M W e w' := by
  obtain ⟨v, rfl, ho⟩ := h
  obtain ⟨A, c, rfl, hA, _, _⟩ := ho.form
  exact ⟨A, c, rfl, hA, ho.be⟩
theorem Rost.of_sl {M : List Ins} {W : World} {e : Ending} {w' : World} (h : ∃ v, e = .returned v ∧ SlR W M w' v) : Rost M W e w' := by
  obtain ⟨v, rfl, A, c, rfl, hA, _, hb⟩ := h
  exact ⟨A, c, rfl, hA, hb⟩
/-- Two slices of the same roster. -/
structure PaR (M : List Ins) (A A' : Option Addr) (W : World) : Prop where
  a : IAt W W.heap.size A M
  b : IAt W W.heap.size A' M
theorem IAt.bel {M : List Ins} {A : Option Addr} {W W' : World} (h : IAt W W.heap.size A M) (hb : Below W.heap.size W W') : IAt W' W'.heap.size A M := (h.below hb).more hb.size
theorem PaR.bel {M : List Ins} {A A' : Option Addr} {W W' : World} (h : PaR M A A' W) (hb : Below W.heap.size W W') : PaR M A A' W' := ⟨h.a.bel hb, h.b.bel hb⟩
theorem rsame_self {M : List Ins} {A A' : Option Addr} {W : World} (c c' : Nat) (hM : M.length ≤ 10000) (h : PaR M A A' W) : Calls Tryz.prog 12 #[.slice A M.length c, .slice A' M.length c'] W fun e w' => e = .returned (.bool true) ∧ Below W.heap.size W w' := by
  have := rsame_any A A' c c' M M W hM h.a h.b
  rwa [(sameR_iff M M).2 rfl] at this
theorem putL_len (L : List Ins) (x : Ins) (h : L.length ≤ 40) : (putL L x).length ≤ 10000 := by
  by_cases hg : goodR L = true ∧ goodI x = true
  · have := ((goodR_iff _).1 (put_good hg.1 hg.2)).1
    omega
  · unfold putL
    rw [if_neg (by rw [Bool.and_eq_true]; exact hg)]
    omega
theorem mergeL_len (a b : List Ins) (h : a.length ≤ 40) : (mergeL a b).length ≤ 10000 := by
  by_cases hg : goodR a = true ∧ goodR b = true
  · rw [merge_is hg.1 hg.2]
    have := ((goodR_iff _).1 (fold_good b hg.1 (fun y hy => goodR_all hg.2 y hy))).1
    omega
  · unfold mergeL
    rw [if_neg (by rw [Bool.and_eq_true]; exact hg)]
    omega
end Go.Proofs.YtkceipkgebgigaaGreat
end
section
namespace Go.Proofs.YtkceipkgebgigaaGreat
open Go.Shelf Go.RowKit Go.Lib Go.Great
set_option maxRecDepth 100000
set_option maxHeartbeats 1000000
/-- What the long way rests upon. -/
structure TelK (w W0 : World) (sa sb : Value) (i G : Ins) (M Mg Lv Sw : List Ins) (B : List UInt8) (er : Int) (ok so g s : Bool) (now : Nat) : Prop where
  box : BoxR w W0 (encI i).toArray
  h4a : Tells W0 4 #[sa] true
  h4b : Tells W0 4 #[sb] true
  h6 : ∀ W, Below W0.heap.size W0 W → Calls Tryz.prog 6 #[sa, .agg (encI i).toArray] W fun e w' => ∃ A c, e = .returned (.tuple #[.slice A M.length c, .bool ok]) ∧ IAt w' w'.heap.size A M ∧ Below W.heap.size W w'
  h7 : ∀ W, Below W0.heap.size W0 W → Calls Tryz.prog 7 #[sa, .agg (encI i).toArray] W fun e w' => ∃ A c, e = .returned (.tuple #[.slice A M.length c, .bool ok]) ∧ IAt w' w'.heap.size A M ∧ Below W.heap.size W w'
  h8 : ∀ W, Below W0.heap.size W0 W → Calls Tryz.prog 8 #[sa] W fun e w' => ∃ A c, e = .returned (.tuple #[.slice A B.length c, .int .i64 er]) ∧ IsB (.slice A B.length c) B w' ∧ Below W.heap.size W w'
  h9 : ∀ W, Below W0.heap.size W0 W → Calls Tryz.prog 9 #[sa] W fun e w' => ∃ A c, e = .returned (.tuple #[.slice A B.length c, .int .i64 er]) ∧ IsB (.slice A B.length c) B w' ∧ Below W.heap.size W w'
  h10 : ∀ W, Below W0.heap.size W0 W → Calls Tryz.prog 10 #[sa, .agg (bcells i.pub).toArray] W fun e w' => e = .returned (.tuple #[.agg (encI G).toArray, .bool so]) ∧ Below W.heap.size W w'
  h11 : ∀ W, Below W0.heap.size W0 W → Calls Tryz.prog 11 #[sa, .agg (bcells i.pub).toArray] W fun e w' => e = .returned (.tuple #[.agg (encI G).toArray, .bool so]) ∧ Below W.heap.size W w'
  h13 : ∀ W, Below W0.heap.size W0 W → Calls Tryz.prog 13 #[sa] W fun e w' => e = .returned (.bool g) ∧ Below W.heap.size W w'
  h14 : ∀ W, Below W0.heap.size W0 W → Calls Tryz.prog 14 #[sa] W fun e w' => e = .returned (.bool g) ∧ Below W.heap.size W w'
  h15 : ∀ W, Below W0.heap.size W0 W → Calls Tryz.prog 15 #[sa, sb] W fun e w' => e = .returned (.bool s) ∧ Below W.heap.size W w'
  h12 : ∀ W, Below W0.heap.size W0 W → Calls Tryz.prog 12 #[sa, sb] W fun e w' => e = .returned (.bool s) ∧ Below W.heap.size W w'
  h16 : ∀ W, Below W0.heap.size W0 W → Calls Tryz.prog 16 #[sa, sb] W (Rost Mg W)
  h17 : ∀ W, Below W0.heap.size W0 W → Calls Tryz.prog 17 #[sa, sb] W (Rost Mg W)
  h18 : ∀ W, Below W0.heap.size W0 W → Calls Tryz.prog 18 #[sa, .int .u64 (now : Int)] W (Rost Lv W)
  h19 : ∀ W, Below W0.heap.size W0 W → Calls Tryz.prog 19 #[sa, .int .u64 (now : Int)] W (Rost Lv W)
  h20 : ∀ W, Below W0.heap.size W0 W → Calls Tryz.prog 20 #[sa, .int .u64 (now : Int)] W (Rost Sw W)
  h21 : ∀ W, Below W0.heap.size W0 W → Calls Tryz.prog 21 #[sa, .int .u64 (now : Int)] W (Rost Sw W)
  l : M.length ≤ 10000 ∧ Mg.length ≤ 10000 ∧ Lv.length ≤ 10000 ∧ Sw.length ≤ 10000
theorem telK (A A' : Option Addr) (c c' : Nat) (a b : List Ins) (i : Ins) (now : Nat) (w : World) (ha : lightR a = true) (hb : lightR b = true) (hi : i.tgt.length ≤ 300)
    (hA : IAt w w.heap.size A a) (hB : IAt w w.heap.size A' b) (hA2 : A = none ∨ ∃ g off, A = some ⟨g, off, none⟩) :
    TelK w (w.alloc (.cells (encI i).toArray 29)) (.slice A a.length c) (.slice A' b.length c') i (getV a i.pub).1 (putL a i) (mergeL a b) (a.filter (liveI now)) (a.filter (swepI now)) (byR a) (errR a) (putOk a i) (getV a i.pub).2 (goodR a) (sameR a b) now := by
  obtain ⟨hta, hla⟩ := light_iff ha
  obtain ⟨htb, hlb⟩ := light_iff hb
  have bx := boxR w (encI i).toArray
  obtain ⟨W0, hW0⟩ : ∃ W0, W0 = w.alloc (.cells (encI i).toArray 29) := ⟨_, rfl⟩
  rw [← hW0] at bx ⊢
  have hA0 : IAt W0 W0.heap.size A a := hA.bel bx.be
  have hB0 : IAt W0 W0.heap.size A' b := hB.bel bx.be
  have fA : ∀ W, Below W0.heap.size W0 W → IAt W W.heap.size A a := fun W hW => hA0.bel hW
  have fB : ∀ W, Below W0.heap.size W0 W → IAt W W.heap.size A' b := fun W hW => hB0.bel hW
  have ta : ∀ y ∈ a, y.tgt.length ≤ 100000 := fun y hy => by have := hta y hy; omega
  have tb : ∀ y ∈ b, y.tgt.length ≤ 100000 := fun y hy => by have := htb y hy; omega
  have lf : ∀ q, (a.filter q).length ≤ 10000 := fun q => Nat.le_trans (List.length_filter_le _ _) (by omega)
  have fby : ∀ {W : World} {e : Ending} {w' : World}, (∃ v, e = .returned (.tuple #[v, .int .i64 (errR a)]) ∧ IsB v (byR a) w' ∧ Below W.heap.size W w') → ∃ A c, e = .returned (.tuple #[.slice A (byR a).length c, .int .i64 (errR a)]) ∧ IsB (.slice A (byR a).length c) (byR a) w' ∧ Below W.heap.size W w' := fun h => by
    obtain ⟨v, rfl, hv, hb⟩ := h
    obtain ⟨A8, c8, rfl, hx⟩ := hv
    exact ⟨A8, c8, rfl, ⟨A8, c8, rfl, hx⟩, hb⟩
  refine ⟨bx, ?_, ?_, ?_, ?_, ?_, ?_, ?_, ?_, ?_, ?_, ?_, ?_, ?_, ?_, ?_, ?_, ?_, ?_, putL_len a i hla, mergeL_len a b hla, lf _, lf _⟩
  · rw [← ha]; exact light_tells A c a W0 (by omega) hA0
  · rw [← hb]; exact light_tells A' c' b W0 (by omega) hB0
  · intro W hW
    refine (put_roster A c a i W (by omega) ta (by omega) (fA W hW) hA2).mono ?_
    rintro e w' ⟨v, rfl, ho⟩
    obtain ⟨A6, c6, rfl, h6, _, _⟩ := OwnR.form ho
    exact ⟨A6, c6, rfl, h6, ho.2⟩
  · intro W hW
    refine (rput_any A c a i W (by omega) ta (by omega) (fA W hW) hA2).mono ?_
    rintro e w' ⟨A6, c6, rfl, h6, _, hb⟩
    exact ⟨A6, c6, rfl, h6, hb⟩
  · exact fun W hW => (rosbytes_any A c a W ta (fA W hW)).mono (fun e w' h => fby h)
  · exact fun W hW => (rrbytes_any A c a W (by omega) ta (fA W hW)).mono (fun e w' h => fby h)
  · exact fun W hW => get_any A c a i.pub i.hp W (by omega) (fA W hW)
  · exact fun W hW => rget_any A c a i.pub i.hp W (by omega) (fA W hW)
  · exact fun W hW => gd_any A c a W ta (fA W hW)
  · exact fun W hW => rgd_any A c a W (by omega) ta (fA W hW)
  · exact fun W hW => same_any A A' c c' a b W (by omega) (fA W hW) (fB W hW)
  · exact fun W hW => rsame_any A A' c c' a b W (by omega) (fA W hW) (fB W hW)
  · exact fun W hW => (merge_any A A' c c' a b W (by omega) ta tb (fA W hW) hA2 (fB W hW)).mono (fun e w' h => Rost.of_own h)
  · exact fun W hW => (rmerge_any A A' c c' a b W (by omega) (by omega) ta tb (fA W hW) hA2 (fB W hW)).mono (fun e w' h => Rost.of_sl h)
  · exact fun W hW => (live_any A c a now W (by omega) (fA W hW)).mono (fun e w' h => Rost.of_own h)
  · exact fun W hW => (rlive_any A c a now W (by omega) (fA W hW)).mono (fun e w' h => Rost.of_own h)
  · exact fun W hW => (sweep_any A c a now W (by omega) (fA W hW)).mono (fun e w' h => Rost.of_own h)
  · exact fun W hW => (rsweep_any A c a now W (by omega) (fA W hW)).mono (fun e w' h => Rost.of_own h)
end Go.Proofs.YtkceipkgebgigaaGreat
end
