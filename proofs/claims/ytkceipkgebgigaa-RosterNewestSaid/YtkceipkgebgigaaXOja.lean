/- roster.Bytes of the program. Conditions: at most 10,000 instances, targets of at most 100,000 bytes. A good roster is read from its bytes, and what is read has them: plain. No condition. Slices of instances that come in. No condition. What putting instances one by one leaves: plain. No condition. -/
import Derived.Test.YtkceipkgebgigaaXObc
import Derived.Test.YtkceipkgebgigaaXIye
import Derived.Test.YtkceipkgebgigaaXIyn
import Derived.Test.YtkceipkgebgigaaXIpm
import Derived.Test.YtkceipkgebgigaaXInq
import Derived.Test.YtkceipkgebgigaaXIiq
import Derived.Test.YtkceipkgebgigaaXOda
import Derived.Test.YtkceipkgebgigaaXIis
section
namespace Go.Proofs.Ytkceipkgebgigaa
open Go.Shelf Go.RowKit Go.Lib Go.Great
set_option maxRecDepth 100000
set_option maxHeartbeats 400000
/-- The bytes of the first k of a roster. -/
def upR (L : List Ins) (k : Nat) : List UInt8 := putB L.length 1 ++ (L.take k).flatMap byI
/-- The bytes of a roster. -/
def byR (L : List Ins) : List UInt8 := if goodR L then upR L L.length else []
def errR (L : List Ins) : Int := if goodR L then 0 else 2
theorem upR_succ (L : List Ins) (k : Nat) (h : k < L.length) : upR L k ++ byI L[k]! = upR L (k + 1) := by
  unfold upR
  have e : L.take (k + 1) = L.take k ++ [L[k]] := by rw [List.take_add_one, List.getElem?_eq_getElem h]; rfl
  rw [e, getElem!_pos L k h, List.flatMap_append]
  simp
theorem byI_len4 (i : Ins) : (byI i).length ≤ 400 := by
  unfold byI
  split
  · rename_i h
    have := goodI_len h
    unfold bytesI headB
    split <;> simp [putB_length, i.hp] <;> omega
  · simp
theorem upR_len (L : List Ins) (k : Nat) : (upR L k).length ≤ 1 + k * 400 := by
  unfold upR
  rw [List.length_append, putB_length]
  have : ∀ M : List Ins, (M.flatMap byI).length ≤ M.length * 400 := fun M => by
    induction M with
    | nil => simp
    | cons y M ih => rw [List.flatMap_cons, List.length_append, List.length_cons]; have := byI_len4 y; omega
  have h := this (L.take k)
  rw [List.length_take] at h
  have : min k L.length * 400 ≤ k * 400 := Nat.mul_le_mul_right _ (Nat.min_le_left _ _)
  omega
theorem rbytes_bad (A : Option Addr) (c : Nat) (L : List Ins) (w : World) (ht : ∀ y ∈ L, y.tgt.length ≤ 100000) (hA : IAt w w.heap.size A L) (hg : goodR L = false) :
    Calls Try.prog 45 #[.slice A L.length c] w fun e w' => ∃ v, e = .returned (.tuple #[v, .int .i64 (errR L)]) ∧ IsB v (byR L) w' ∧ Below w.heap.size w w' := by
  have HG := Lib.hid (gd_any A c L w ht hA)
  rw [hg] at HG
  have HN : Hid (errR L = 2 ∧ byR L = []) := Lib.hid (by unfold errR byR; rw [hg]; exact ⟨rfl, rfl⟩)
  rw [HN.out.1, HN.out.2]
  clear ht hA hg
  go_enter Try.func45, Try.ntmps45
  go_wp2_with (first | (go_at_call 40; (with_reducible refine HG.out.mono ?_); rintro e w1 ⟨rfl, hb1⟩))
  go_ret2
  exact ⟨_, rfl, IsB.nil _, hb1⟩
theorem byI_good {i : Ins} (h : goodI i = true) : errI i = 0 := by unfold errI; rw [if_pos h]
theorem rbytes_good (A : Option Addr) (c : Nat) (L : List Ins) (w : World) (ht : ∀ y ∈ L, y.tgt.length ≤ 100000) (hA : IAt w w.heap.size A L) (hg : goodR L = true) :
    Calls Try.prog 45 #[.slice A L.length c] w fun e w' => ∃ v, e = .returned (.tuple #[v, .int .i64 (errR L)]) ∧ IsB v (byR L) w' ∧ Below w.heap.size w w' := by
  have hl := ((goodR_iff L).1 hg).1
  have HG := Lib.hid (gd_any A c L w ht hA)
  rw [hg] at HG
  have HN : Hid (errR L = 0 ∧ byR L = upR L L.length) := Lib.hid (by unfold errR byR; rw [hg]; exact ⟨rfl, rfl⟩)
  rw [HN.out.1, HN.out.2]
  have HPUT : Hid (∀ W, Below w.heap.size w W → Calls Try.prog 47 #[.slice none 0 0, .int .u64 (L.length : Int), .int .i64 1] W fun e w' => ∃ v, e = .returned v ∧ w'.ownsRow w.heap.size 5 1 v (upR L 0).length (bcells (upR L 0)) ∧ Below w.heap.size w w') := Lib.hid (fun W hW => by
    refine (put_yes none 0 L.length 1 [] W (.inl rfl) (by simp) (by omega) (by omega) (by omega)).mono ?_
    rintro e w' ⟨v, rfl, ho, hb⟩
    have e0 : upR L 0 = [] ++ putB L.length 1 := by unfold upR; simp
    rw [e0]
    exact ⟨v, rfl, own_baseC ho hW.size, hW.trans (hb.mono hW.size)⟩)
  have HLD : Hid (∀ k, k < L.length → ∃ g off, A = some ⟨g, off, none⟩ ∧ ∀ W, Below w.heap.size w W → (loadVar 28 ⟨g, off + k * 28, none⟩).run Try.prog W = .ok (.agg (encI L[k]!).toArray) W) := Lib.hid (fun k hk => by
    rcases hA with e | ⟨g, off, e, hgl, hr⟩
    · rw [e] at hk; simp at hk
    · exact ⟨g, off, e, fun W hW => row_load hr hgl hW hk⟩)
  have HBY : Hid (∀ k, k < L.length → ∀ W, Calls Try.prog 12 #[.agg (encI L[k]!).toArray] W fun e w' => ∃ v, e = .returned (.tuple #[v, .int .i64 0]) ∧ IsB v (byI L[k]!) w' ∧ Below W.heap.size W w') := Lib.hid (fun k hk W => by
    have hgk : goodI L[k]! = true := by
      have := ((goodR_iff L).1 hg).2 k hk
      unfold okAt at this
      rw [Bool.and_eq_true] at this
      exact this.1
    have := ibytes_any L[k]! (ht _ (by rw [getElem!_pos L k hk]; exact List.getElem_mem hk)) W
    rw [byI_good hgk] at this
    exact this)
  have HUP : Hid (∀ k, k < L.length → upR L k ++ byI L[k]! = upR L (k + 1) ∧ (upR L k).length + (byI L[k]!).length ≤ 10000000) := Lib.hid (fun k hk => ⟨upR_succ L k hk, by have := upR_len L k; have := byI_len4 L[k]!; omega⟩)
  clear HN
  generalize hn : L.length = n at *
  have hnu : (n : Int) % 18446744073709551616 = (n : Int) := by omega
  clear hA ht hg
  go_enter Try.func45, Try.ntmps45
  go_upto_region 5 with (first
    | (go_at_call 40; (with_reducible refine HG.out.mono ?_); rintro e w1 ⟨rfl, hb1⟩)
    | (go_at_call 47; (with_reducible refine (HPUT.out _ hb1).mono ?_); rintro e2 w2 ⟨v, rfl, ho2, hb2⟩))
  have HO2 := Lib.hid ho2
  have HB2 := Lib.hid hb2
  clear ho2 hb2 hb1 HG HPUT
  go_loopw [4, 18] (fun v0 i wr => ∃ (k : Nat) (v : Value), v0 = v ∧ i = .int .i64 (k : Int) ∧ k ≤ n ∧ wr.ownsRow w.heap.size 5 1 v (upR L k).length (bcells (upR L k)) ∧ Below w.heap.size w wr) (fun _ i _ => n - (RowKit.intOf i).toNat)
  case atStart => exact ⟨0, _, rfl, rfl, by omega, HO2.out, HB2.out⟩
  case round =>
    obtain ⟨k, v4, hv4, rfl, hk, ho, hbr⟩ := hrel
    obtain rfl := hv4.symm
    clear HO2 HB2
    by_cases hlt : k < n
    · have hlt' : (k : Int) < (n : Int) := by omega
      obtain ⟨g, off, rfl, hld⟩ := HLD.out k hlt
      have HLV := Lib.hid (hld wr hbr)
      have HB := Lib.hid (HBY.out k hlt)
      obtain ⟨hup, hul⟩ := HUP.out k hlt
      obtain ⟨Y, hY⟩ : ∃ Y : Ins, Y = L[k]! := ⟨_, rfl⟩
      rw [← hY] at HLV HB hup hul
      have HUPk := Lib.hid hup
      have HULk := Lib.hid hul
      have hbn : Below wr.heap.size wr (wr.alloc (.cells (encI Y).toArray 28)) := (Below.refl _ wr).alloc (Nat.le_refl _) _
      have HLK : Hid ((loadVar 28 ⟨wr.heap.size, 0, none⟩).run Try.prog (wr.alloc (.cells (encI Y).toArray 28)) = .ok (.agg (encI Y).toArray) (wr.alloc (.cells (encI Y).toArray 28))) := Lib.hid (load28 (row_range (heap_alloc_new wr _)))
      have HOW : Hid (∀ W, Below (wr.alloc (.cells (encI Y).toArray 28)).heap.size (wr.alloc (.cells (encI Y).toArray 28)) W → W.ownsRow w.heap.size 5 1 v4 (upR L k).length (bcells (upR L k)) ∧ Below w.heap.size w W ∧ w.heap.size ≤ W.heap.size) := Lib.hid (fun W hW => by
        have h1 := hbn.trans (hW.mono hbn.size)
        exact ⟨ho.kept (grown_of_bel h1 none) (by cases v4.ownBlock <;> simp), hbr.trans (h1.mono hbr.size), Nat.le_trans hbr.size h1.size⟩)
      have HOB : Hid (∀ q, v4.ownBlock = some q → w.heap.size ≤ q) := Lib.hid (fun q hq => (ho.lt q hq).1)
      have HSRC : Hid (∀ W v, IsB v (byI Y) W → Src Try.prog 1 30 v (byI Y).length (bcells (byI Y)) W) := Lib.hid (fun W v hi => by
        obtain ⟨A', c', rfl, _, hA'⟩ := hi
        exact hA'.src Try.underlying30 c')
      have HNX : Hid (∀ W A' c' w', Below (wr.alloc (.cells (encI Y).toArray 28)).heap.size (wr.alloc (.cells (encI Y).toArray 28)) W → w'.ownsRow w.heap.size 5 1 (.slice A' (upR L (k + 1)).length c') (upR L (k + 1)).length (bcells (upR L (k + 1))) → W.grownBy w' v4.ownBlock → ∃ (k' : Nat) (v : Value), Value.slice A' (upR L (k + 1)).length c' = v ∧ Value.int .i64 ((k : Int) + 1) = .int .i64 (k' : Int) ∧ k' ≤ n ∧ w'.ownsRow w.heap.size 5 1 v (upR L k').length (bcells (upR L k')) ∧ Below w.heap.size w w') := Lib.hid (fun W A' c' w' hW ho' hg' => by
        obtain ⟨_, q2, q3⟩ := HOW.out W hW
        exact ⟨k + 1, _, rfl, by simp, by omega, ho', below_ownB q2 q3 hg' HOB.out⟩)
      clear hY hld hup hul hbn ho hbr HLD HBY HUP
      go_wp2_with (first
        | ((with_reducible refine wpList_loadV (op := ⟨some 21, _, _, _, _, _⟩) rfl 28 (.tmp 20) rfl _ ?_ _ HLV.out ?_); rfl)
        | (with_reducible refine wpList_alloc28 (o := ⟨some 6, _, _, _, _, _⟩) wr.heap.size rfl rfl 6 rfl rfl ?_)
        | ((with_reducible refine wpList_store28n (o := ⟨none, _, _, _, _, _⟩) rfl (.tmp 6) (.tmp 21) rfl wr.heap.size rfl zeroI Y ?_ ?_ ?_); rfl; rfl)
        | ((with_reducible refine wpList_loadV (op := ⟨some 23, _, _, _, _, _⟩) rfl 28 (.tmp 6) rfl _ ?_ _ HLK.out ?_); rfl)
        | (go_at_call 12; (with_reducible refine (HB.out _).mono ?_); rintro e5 w5 ⟨v5, rfl, hi5, hb5⟩)
        | (at_builtin; (refine wpList_appN (o := ⟨some 29, _, _, _, _, _⟩) rfl 29 rfl (.tmp 27) (.tmp 28) rfl w.heap.size v4 (upR L k) ?_ (HOW.out _ hb5).1 v5 (byI Y) ?_ (HSRC.out _ _ hi5) HULk.out (HOW.out _ hb5).2.2 (upR L (k + 1)) (upR L (k + 1)).length HUPk.out rfl ?_); rfl; rfl; intro A6 c6 w6 ho6 hg6))
      go_roundw
      case rel => exact HNX.out _ _ _ _ hb5 ho6 hg6
      case measure => simp [RowKit.intOf]; omega
    · obtain rfl : k = n := by omega
      have hlt' : ¬ (k : Int) < (k : Int) := by omega
      have HI := Lib.hid (IsB.of_own ho)
      have HBR := Lib.hid hbr
      clear HLD HBY HUP ho hbr
      go_wp2
      go_ret2
      exact ⟨_, rfl, HI.out, HBR.out⟩
/-- Bytes of the program. -/
theorem rosbytes_any (A : Option Addr) (c : Nat) (L : List Ins) (w : World) (ht : ∀ y ∈ L, y.tgt.length ≤ 100000) (hA : IAt w w.heap.size A L) :
    Calls Try.prog 45 #[.slice A L.length c] w fun e w' => ∃ v, e = .returned (.tuple #[v, .int .i64 (errR L)]) ∧ IsB v (byR L) w' ∧ Below w.heap.size w w' := by
  cases hg : goodR L with
  | false => exact rbytes_bad A c L w ht hA hg
  | true => exact rbytes_good A c L w ht hA hg
end Go.Proofs.Ytkceipkgebgigaa
end
section
namespace Go.Proofs.Ytkceipkgebgigaa
open Go.Shelf Go.RowKit Go.Lib Go.Great
set_option maxRecDepth 100000
set_option maxHeartbeats 400000
theorem byI_is {i : Ins} (h : goodI i = true) : byI i = bytesI i := by unfold byI; rw [if_pos h]
theorem rosN_back (L : List Ins) (ys : List UInt8) (hg : ∀ x ∈ L, goodI x = true) : ∀ k, k ≤ L.length → rosN k ⟨L.flatMap byI ++ ys, false⟩ = (L.take k, ⟨(L.drop k).flatMap byI ++ ys, false⟩)
  | 0, _ => by simp [rosN]
  | k + 1, hk => by
    have hk' : k < L.length := by omega
    rw [rosN, rosN_back L ys hg k (by omega)]
    have hx := hg _ (List.getElem_mem hk')
    have e : (L.drop k).flatMap byI ++ ys = bytesI L[k] ++ ((L.drop (k + 1)).flatMap byI ++ ys) := by
      rw [List.drop_eq_getElem_cons hk', List.flatMap_cons, byI_is hx, List.append_assoc]
    obtain ⟨h1, h2, _⟩ := read_back hx ((L.drop (k + 1)).flatMap byI ++ ys)
    simp only [e, h1, h2]
    rw [List.take_add_one, List.getElem?_eq_getElem hk']
    rfl
theorem roster_back {L : List Ins} (h : goodR L = true) (ys : List UInt8) : rosL ⟨byR L ++ ys, false⟩ = L ∧ rosS ⟨byR L ++ ys, false⟩ = ⟨ys, false⟩ := by
  have hl := ((goodR_iff L).1 h).1
  have e : byR L ++ ys = putB L.length 1 ++ (L.flatMap byI ++ ys) := by
    unfold byR upR
    rw [if_pos h, List.take_length, List.append_assoc]
  obtain ⟨n1, n2⟩ := num_back L.length 1 (L.flatMap byI ++ ys) (by omega) (by omega)
  have e1 : L.length % 256 ^ 1 = L.length := by omega
  rw [e1] at n1
  have hn := rosN_back L ys (goodR_all h) L.length (Nat.le_refl _)
  rw [List.take_length, List.drop_length] at hn
  have hG : rosG ⟨byR L ++ ys, false⟩ = true := by
    unfold rosG
    rw [e]
    have n1' : numV ⟨putB L.length 1 ++ (L.flatMap byI ++ ys), false⟩ 1 = L.length := n1
    have n2' : numS ⟨putB L.length 1 ++ (L.flatMap byI ++ ys), false⟩ 1 = ⟨L.flatMap byI ++ ys, false⟩ := n2
    rw [n1', n2', hn]
    exact h
  unfold rosL rosS
  rw [if_pos hG, if_pos hG, e]
  have n1' : numV ⟨putB L.length 1 ++ (L.flatMap byI ++ ys), false⟩ 1 = L.length := n1
  have n2' : numS ⟨putB L.length 1 ++ (L.flatMap byI ++ ys), false⟩ 1 = ⟨L.flatMap byI ++ ys, false⟩ := n2
  rw [n1', n2', hn]
  exact ⟨rfl, rfl⟩
theorem rosN_had (b : List UInt8) : ∀ n, (∀ x ∈ (rosN n ⟨b, false⟩).1, goodI x = true) → b = (rosN n ⟨b, false⟩).1.flatMap byI ++ (rosN n ⟨b, false⟩).2.ys ∧ (rosN n ⟨b, false⟩).2.bad = false
  | 0, _ => by simp [rosN]
  | n + 1, h => by
    rw [rosN] at h ⊢
    obtain ⟨h1, h2⟩ := rosN_had b n (fun x hx => h x (List.mem_append_left _ hx))
    have hg := h _ (List.mem_append_right _ (List.mem_singleton.2 rfl))
    obtain ⟨s, hs⟩ : ∃ s, s = (rosN n ⟨b, false⟩).2 := ⟨_, rfl⟩
    rw [← hs] at h1 h2 hg ⊢
    obtain ⟨ys, bd⟩ := s
    simp only at h1 h2
    subst h2
    have hgn : goodI (nextI ⟨ys, false⟩) = true := by
      cases hc : goodI (nextI ⟨ys, false⟩) with
      | true => rfl
      | false =>
        have hz : readI ⟨ys, false⟩ = zeroI := by unfold readI; rw [if_neg (by rw [hc]; decide)]
        rw [hz, zero_bad] at hg
        cases hg
    obtain ⟨q1, q2⟩ := next_bytes hgn
    have e1 : readI ⟨ys, false⟩ = nextI ⟨ys, false⟩ := by unfold readI; rw [if_pos hgn]
    have e2 : readS ⟨ys, false⟩ = nextS ⟨ys, false⟩ := by unfold readS; rw [if_pos hgn]
    simp only
    rw [e1, e2, List.flatMap_append, List.append_assoc]
    refine ⟨?_, q2⟩
    refine h1.trans ?_
    congr 1
    rw [List.flatMap_cons, List.flatMap_nil, List.append_nil, byI_is hgn]
    exact q1
theorem ros_had {b : List UInt8} (h : (rosS ⟨b, false⟩).bad = false) : goodR (rosL ⟨b, false⟩) = true ∧ b = byR (rosL ⟨b, false⟩) ++ (rosS ⟨b, false⟩).ys := by
  cases hG : rosG ⟨b, false⟩ with
  | false => unfold rosS at h; rw [hG] at h; cases h
  | true =>
    have hg : goodR (rosN (numV ⟨b, false⟩ 1) (numS ⟨b, false⟩ 1)).1 = true := hG
    have eL : rosL ⟨b, false⟩ = (rosN (numV ⟨b, false⟩ 1) (numS ⟨b, false⟩ 1)).1 := by unfold rosL; rw [if_pos hG]
    have eS : rosS ⟨b, false⟩ = (rosN (numV ⟨b, false⟩ 1) (numS ⟨b, false⟩ 1)).2 := by unfold rosS; rw [if_pos hG]
    rw [eS] at h
    have hok : numOk ⟨b, false⟩ 1 := by
      by_cases hc : numOk ⟨b, false⟩ 1
      · exact hc
      · have e1 : numV ⟨b, false⟩ 1 = 0 := by unfold numV; rw [if_neg hc]
        have e2 : numS ⟨b, false⟩ 1 = ⟨[], true⟩ := by unfold numS; rw [if_neg hc]
        rw [e1, e2] at h
        cases h
    have e1 : numV ⟨b, false⟩ 1 = getN (b.take 1) := by unfold numV; rw [if_pos hok]; rfl
    have e2 : numS ⟨b, false⟩ 1 = ⟨b.drop 1, false⟩ := by unfold numS; rw [if_pos hok]; rfl
    have h1 : 1 ≤ b.length := by
      unfold numOk at hok
      simp at hok
      omega
    have hall := goodR_all hg
    rw [e2] at hall
    obtain ⟨q1, _⟩ := rosN_had (b.drop 1) _ hall
    refine ⟨by rw [eL]; exact hg, ?_⟩
    have e4 : byR (rosL ⟨b, false⟩) = putB (getN (b.take 1)) 1 ++ (rosL ⟨b, false⟩).flatMap byI := by
      unfold byR upR
      rw [if_pos (by rw [eL]; exact hg), List.take_length]
      congr 2
      rw [eL, rosN_len, e1]
    rw [e4, putB_getN 1 (b.take 1) (by rw [List.length_take]; omega), eL, eS, e2, List.append_assoc, ← q1, List.take_append_drop]
theorem ros_none {b : List UInt8} (h : (rosS ⟨b, false⟩).bad = true) : rosL ⟨b, false⟩ = [] := by
  cases hG : rosG ⟨b, false⟩ with
  | false => unfold rosL; rw [hG]; rfl
  | true =>
    have hg : goodR (rosN (numV ⟨b, false⟩ 1) (numS ⟨b, false⟩ 1)).1 = true := hG
    have eL : rosL ⟨b, false⟩ = (rosN (numV ⟨b, false⟩ 1) (numS ⟨b, false⟩ 1)).1 := by unfold rosL; rw [if_pos hG]
    have eS : rosS ⟨b, false⟩ = (rosN (numV ⟨b, false⟩ 1) (numS ⟨b, false⟩ 1)).2 := by unfold rosS; rw [if_pos hG]
    by_cases hc : numOk ⟨b, false⟩ 1
    · have e2 : numS ⟨b, false⟩ 1 = ⟨b.drop 1, false⟩ := by unfold numS; rw [if_pos hc]; rfl
      have hall := goodR_all hg
      rw [e2] at hall
      obtain ⟨_, q2⟩ := rosN_had (b.drop 1) _ hall
      rw [eS, e2, q2] at h
      cases h
    · have e1 : numV ⟨b, false⟩ 1 = 0 := by unfold numV; rw [if_neg hc]
      rw [eL, e1]
      rfl
end Go.Proofs.Ytkceipkgebgigaa
end
section
namespace Go.Proofs.Ytkceipkgebgigaa
set_option maxRecDepth 100000
open Go.ChangeShapes Go.WideShapes Go.ChangeAt Go.RowKit Go.Deep
theorem addr_addI (b o i : Nat) : (⟨b, o, none⟩ : Addr).add i = ⟨b, o + i, none⟩ := by unfold Addr.add; split <;> simp_all
theorem und56 : Try.prog.underlying 56 = some (.slice 28) := by kernel_rfl
theorem open_inss {H : Type} {enc : TypeId × Value → H} {W : World} {base : Nat} {sp : Nat → Bool} {hd : Bool} {a : Option Addr} {len cap : Nat} {d : DataW H} {p : List MemPlace} (h : DataW.Trod enc Try.prog W base sp hd 56 (.slice a len cap) d p) :
    ∃ L : List Ins, L.length = len ∧ IAt W W.heap.size a L ∧ len ≤ cap ∧ len ≤ maxLen := by
  obtain ⟨fuel, hf⟩ := h
  have hc26 : Try.prog.cellsOf 28 = 28 := by kernel_rfl
  rcases open_slice und56 hf with ⟨hcs, _⟩ | ⟨x, l, c, m, n, D, Pl, hcs, _, hl, hm, hmm, hsp, hcell⟩
  · simp [Value.cells] at hcs
    obtain ⟨rfl, rfl, rfl⟩ := hcs
    exact ⟨[], rfl, .inl rfl, Nat.le_refl _, Nat.zero_le _⟩
  · simp [Value.cells] at hcs
    obtain ⟨rfl, rfl, rfl⟩ := hcs
    have hlm : len ≤ m := by rw [hmm]; split <;> omega
    obtain ⟨f, hf⟩ := choose_lt (α := Ins) (n := m) (p := fun i q => ∀ k, k < 28 → W.cell? ((x.add (i * 28)).add k) = (encI q)[k]?) (fun i hi => by
      obtain ⟨cs', c0, t0⟩ := hcell i hi
      rw [hc26] at c0
      obtain ⟨q, rfl, _⟩ := cells_ins t0
      exact ⟨q, (World.cells?_some c0).2.2⟩)
    refine ⟨(List.range len).map f, by simp, ?_, hl, Nat.le_trans hl hm⟩
    by_cases h0 : len = 0
    · left
      rw [h0]
      rfl
    · right
      have hget : ∀ i, i < len → ((List.range len).map f)[i]? = some (f i) := fun i hi => by simp [hi]
      obtain ⟨b, off, spot⟩ := x
      have hc0 : W.cell? (((⟨b, off, spot⟩ : Addr).add (0 * 28)).add 0) = some ((encI (f 0))[0]'(by rw [encI_length]; omega)) := by
        rw [hf 0 (by omega) 0 (by omega), List.getElem?_eq_getElem]
      have hspot : spot = none := by
        have := World.cell?_spot hc0
        simpa [Addr.add] using this
      subst hspot
      have e : ∀ i k, ((⟨b, off, none⟩ : Addr).add (i * 28)).add k = ⟨b, off + (i * 28 + k), none⟩ := fun i k => by rw [addr_addI, addr_addI, Nat.add_assoc]
      refine ⟨b, off, rfl, ?_, fun j v hv => ?_⟩
      · rw [e] at hc0
        exact World.block_lt_of_cell? W _ hc0
      · have hj : j < len * 28 := by
          have := (List.getElem?_eq_some_iff.1 hv).1
          rw [flatE_length encI_length] at this
          simpa using this
        have h1 := hf (j / 28) (by omega) (j % 28) (Nat.mod_lt _ (by omega))
        rw [e, show j / 28 * 28 + j % 28 = j by omega] at h1
        rw [h1]
        have h2 := flatE_get encI_length (by omega) ((List.range len).map f) (j / 28) _ (j % 28) (hget (j / 28) (by omega)) (Nat.mod_lt _ (by omega))
        rw [show j / 28 * 28 + j % 28 = j by omega, hv] at h2
        exact h2.symm
/-- A slice's address is none, or that of a row. -/
theorem okWide_spot {w : World} {r : Reach} {base : Nat} {t e : TypeId} {a : Option Addr} {len cap : Nat} (ht : Try.prog.underlying t = some (.slice e)) (h : Value.okWide Try.prog w r base t (.slice a len cap)) : a = none ∨ ∃ g off, a = some ⟨g, off, none⟩ := by
  cases a with
  | none => exact .inl rfl
  | some x =>
    simp only [Value.okWide, ht, Cell.okWide, Cell.ok, World.has] at h
    obtain ⟨g, off, spot⟩ := x
    obtain ⟨_, _, _, hs, _⟩ := h
    simp only at hs
    subst hs
    exact .inr ⟨g, off, rfl⟩
end Go.Proofs.Ytkceipkgebgigaa
end
section
namespace Go.Proofs.Ytkceipkgebgigaa
open Go.Shelf Go.RowKit Go.Lib Go.Great
set_option maxRecDepth 100000
set_option maxHeartbeats 400000
/-! The two orders. -/
theorem leI_refl (x : Ins) : cmpI x x ≤ 0 := by have := cmpI_ord.anti x x; omega
theorem leI_trans {x y z : Ins} (h1 : cmpI x y ≤ 0) (h2 : cmpI y z ≤ 0) : cmpI x z ≤ 0 := by
  have a1 := cmpI_ord.anti y x
  have a2 := cmpI_ord.anti z y
  have a3 := cmpI_ord.anti z x
  rcases cmpI_ord.three y x with e | e | e
  · omega
  · rw [← cmpI_ord.eq y x e]; exact h2
  · rcases cmpI_ord.three z y with e2 | e2 | e2
    · omega
    · rw [cmpI_ord.eq z y e2]; exact h1
    · have := cmpI_ord.trans z y x e2 e; omega
theorem leI_anti {x y : Ins} (h1 : cmpI x y ≤ 0) (h2 : cmpI y x ≤ 0) : x = y := by
  have := cmpI_ord.anti x y
  exact cmpI_ord.eq x y (by omega)
theorem gtI_le {x y : Ins} (h : cmpI x y > 0) : cmpI y x ≤ 0 := by have := cmpI_ord.anti x y; omega
theorem cmpP_anti (x y : Ins) : cmpP x y = - cmpP y x := compareBytes_anti _ _
theorem cmpP_zero {x y : Ins} : cmpP x y = 0 ↔ x.pub = y.pub := ⟨fun h => (less_cmp _ _).2.1.2 h, fun h => (less_cmp _ _).2.1.1 h⟩
theorem cmpP_irr (x : Ins) : ¬ cmpP x x < 0 := by have := cmpP_anti x x; omega
theorem cmpP_pub {x x' y : Ins} (h : x.pub = x'.pub) : cmpP x y = cmpP x' y ∧ cmpP y x = cmpP y x' := by unfold cmpP; rw [h]; exact ⟨rfl, rfl⟩
abbrev Asc (L : List Ins) : Prop := L.Pairwise (fun x y => cmpP x y < 0)
theorem srt_asc {L : List Ins} (h : SrtP L) : Asc L := by
  rw [Asc, List.pairwise_iff_getElem]
  intro i j hi hj hij
  have := h i j hij hj
  rwa [getElem!_pos L i hi, getElem!_pos L j hj] at this
theorem good_iff (L : List Ins) : goodR L = true ↔ L.length ≤ 16 ∧ (∀ x ∈ L, goodI x = true) ∧ Asc L := by
  constructor
  · intro h
    exact ⟨((goodR_iff L).1 h).1, goodR_all h, srt_asc (goodR_srt h)⟩
  · rintro ⟨h1, h2, h3⟩
    refine (goodR_iff L).2 ⟨h1, fun k hk => ?_⟩
    unfold okAt
    rw [Bool.and_eq_true, Bool.or_eq_true, decide_eq_true_eq, decide_eq_true_eq, getElem!_pos L k hk]
    refine ⟨h2 _ (List.getElem_mem hk), ?_⟩
    rcases Nat.eq_zero_or_pos k with e | e
    · exact .inl e
    · right
      rw [getElem!_pos L (k - 1) (by omega)]
      exact List.pairwise_iff_getElem.1 h3 (k - 1) k (by omega) hk (by omega)
/-- In order, one alone has a publisher. -/
theorem asc_one {L : List Ins} (h : Asc L) {x y : Ins} (hx : x ∈ L) (hy : y ∈ L) (e : x.pub = y.pub) : x = y := by
  obtain ⟨i, hi, rfl⟩ := List.getElem_of_mem hx
  obtain ⟨j, hj, rfl⟩ := List.getElem_of_mem hy
  rw [Asc, List.pairwise_iff_getElem] at h
  rcases Nat.lt_trichotomy i j with hij | rfl | hij
  · have := h i j hi hj hij; rw [cmpP_zero.2 e] at this; omega
  · rfl
  · have := h j i hj hi hij; rw [cmpP_zero.2 e.symm] at this; omega
/-- In order, and the same members: the same. -/
theorem asc_ext : ∀ {L M : List Ins}, Asc L → Asc M → (∀ y, y ∈ L ↔ y ∈ M) → L = M
  | [], [], _, _, _ => rfl
  | [], y :: M, _, _, h => absurd ((h y).2 (by simp)) (by simp)
  | x :: L, [], _, _, h => absurd ((h x).1 (by simp)) (by simp)
  | x :: L, y :: M, hL, hM, h => by
    rw [Asc, List.pairwise_cons] at hL hM
    have e : x = y := by
      rcases List.mem_cons.1 ((h x).1 (by simp)) with e | hx
      · exact e
      · rcases List.mem_cons.1 ((h y).2 (by simp)) with e | hy
        · exact e.symm
        · have h1 := hL.1 y hy
          have h2 := hM.1 x hx
          have := cmpP_anti x y
          omega
    subst e
    rw [asc_ext hL.2 hM.2 (fun z => ⟨fun hz => ?_, fun hz => ?_⟩)]
    · rcases List.mem_cons.1 ((h z).1 (by simp [hz])) with rfl | hz2
      · exact absurd (hL.1 _ hz) (cmpP_irr _)
      · exact hz2
    · rcases List.mem_cons.1 ((h z).2 (by simp [hz])) with rfl | hz2
      · exact absurd (hM.1 _ hz) (cmpP_irr _)
      · exact hz2
/-! Put. -/
theorem lowP_le (L : List Ins) (x : Ins) : lowR L x ≤ L.length := by
  induction L with
  | nil => exact Nat.le_refl _
  | cons y L ih => unfold lowR; split <;> simp <;> omega
theorem lowR_take : ∀ (L : List Ins) (x : Ins), ∀ y ∈ L.take (lowR L x), cmpP y x < 0
  | [], x, y, h => by simp at h
  | z :: L, x, y, h => by
    unfold lowR at h
    split at h
    · rename_i hz
      rw [List.take_succ_cons] at h
      rcases List.mem_cons.1 h with rfl | h
      · exact hz
      · exact lowR_take L x y h
    · simp at h
theorem lowR_drop : ∀ (L : List Ins) (x : Ins), Asc L → ∀ y ∈ L.drop (lowR L x), ¬ cmpP y x < 0
  | [], x, _, y, h => by simp at h
  | z :: L, x, ha, y, h => by
    rw [Asc, List.pairwise_cons] at ha
    unfold lowR at h
    split at h
    · rw [List.drop_succ_cons] at h
      exact lowR_drop L x ha.2 y h
    · rename_i hz
      rw [List.drop_zero] at h
      rcases List.mem_cons.1 h with rfl | h
      · exact hz
      · exact fun hy => hz (cmpP_lt_trans (ha.1 y h) hy)
/-- It is found just where its publisher is there. -/
theorem found_iff {L : List Ins} (ha : Asc L) (x : Ins) : foundAt L x (lowR L x) = true ↔ lowR L x < L.length ∧ L[lowR L x]!.pub = x.pub := by
  unfold foundAt
  rw [Bool.and_eq_true, decide_eq_true_eq, decide_eq_true_eq, cmpP_zero]
theorem found_none {L : List Ins} (ha : Asc L) (x : Ins) (h : ¬ foundAt L x (lowR L x) = true) : ∀ y ∈ L, y.pub ≠ x.pub := by
  intro y hy e
  rw [← List.take_append_drop (lowR L x) L, List.mem_append] at hy
  rcases hy with hy | hy
  · have := lowR_take L x y hy
    rw [cmpP_zero.2 e] at this
    omega
  · apply h
    rw [found_iff ha]
    have hl : lowR L x < L.length := Nat.lt_of_not_le fun hle => by rw [List.drop_of_length_le hle] at hy; cases hy
    refine ⟨hl, ?_⟩
    rw [getElem!_pos L _ hl]
    rw [List.drop_eq_getElem_cons hl] at hy
    rcases List.mem_cons.1 hy with rfl | hy
    · exact e
    · have h1 : cmpP L[lowR L x] y < 0 := by
        obtain ⟨j, hj, rfl⟩ := List.getElem_of_mem hy
        rw [List.getElem_drop]
        exact List.pairwise_iff_getElem.1 ha _ _ hl (by rw [List.length_drop] at hj; omega) (by omega)
      have hin : L[lowR L x] ∈ L.drop (lowR L x) := by rw [List.drop_eq_getElem_cons hl]; exact List.mem_cons_self
      have h2 : ¬ cmpP L[lowR L x] x < 0 := lowR_drop L x ha _ hin
      rw [(cmpP_pub e).2] at h1
      exact absurd h1 h2
theorem ins_asc {L : List Ins} (ha : Asc L) (x : Ins) (h : ¬ foundAt L x (lowR L x) = true) : Asc (L.take (lowR L x) ++ x :: L.drop (lowR L x)) := by
  have hne := found_none ha x h
  have hlow : ∀ y ∈ L.take (lowR L x), cmpP y x < 0 := lowR_take L x
  have hup : ∀ y ∈ L.drop (lowR L x), cmpP x y < 0 := fun y hy => by
    have h1 := lowR_drop L x ha y hy
    have h2 := cmpP_anti x y
    have h3 : cmpP y x ≠ 0 := fun e => hne y (List.mem_of_mem_drop hy) (cmpP_zero.1 e)
    omega
  rw [Asc, List.pairwise_append, List.pairwise_cons]
  refine ⟨ha.sublist (List.take_sublist _ _), ⟨hup, ha.sublist (List.drop_sublist _ _)⟩, fun y hy z hz => ?_⟩
  rcases List.mem_cons.1 hz with rfl | hz
  · exact hlow y hy
  · exact cmpP_lt_trans (hlow y hy) (hup z hz)
theorem set_asc {L : List Ins} (ha : Asc L) (x : Ins) (k : Nat) (hk : k < L.length) (e : L[k]!.pub = x.pub) : Asc (L.set k x) := by
  have h1 : ∀ M : List Ins, Asc M ↔ (M.map Ins.pub).Pairwise (fun a b => compareBytes a b < 0) := fun M => by rw [List.pairwise_map]; rfl
  rw [h1] at ha ⊢
  have e2 : (L.set k x).map Ins.pub = L.map Ins.pub := by
    apply List.ext_getElem
    · simp
    · intro i hi hi'
      simp only [List.getElem_map, List.getElem_set]
      split
      · rename_i hki
        subst hki
        rw [← e, getElem!_pos L k hk]
      · rfl
  rw [e2]
  exact ha
theorem set_mem {L : List Ins} (ha : Asc L) (x : Ins) (k : Nat) (hk : k < L.length) (e : L[k]!.pub = x.pub) (y : Ins) : y ∈ L.set k x ↔ y = x ∨ (y ∈ L ∧ y.pub ≠ x.pub) := by
  have hs := set_asc ha x k hk e
  constructor
  · intro h
    rcases List.mem_or_eq_of_mem_set h with h1 | h1
    · by_cases hp : y.pub = x.pub
      · left
        exact asc_one hs h (List.mem_set hk x) hp
      · exact .inr ⟨h1, hp⟩
    · exact .inl h1
  · rintro (rfl | ⟨h1, h2⟩)
    · exact List.mem_set hk _
    · obtain ⟨j, hj, rfl⟩ := List.getElem_of_mem h1
      have hne : k ≠ j := by
        rintro rfl
        rw [getElem!_pos L k hk] at e
        exact h2 e
      have : (L.set k x)[j]'(by simpa using hj) = L[j] := by rw [List.getElem_set, if_neg hne]
      rw [← this]
      exact List.getElem_mem _
theorem put_good {L : List Ins} (h : goodR L = true) {x : Ins} (hx : goodI x = true) : goodR (putL L x) = true := by
  obtain ⟨h1, h2, h3⟩ := (good_iff L).1 h
  unfold putL
  rw [h, hx]
  simp only [Bool.and_self, if_true]
  unfold putG
  split
  · rename_i hf
    obtain ⟨hl, he⟩ := (found_iff h3 x).1 hf
    split
    · refine (good_iff _).2 ⟨by rw [List.length_set]; exact h1, fun y hy => ?_, set_asc h3 x _ hl he⟩
      rcases List.mem_or_eq_of_mem_set hy with hy | rfl
      · exact h2 y hy
      · exact hx
    · exact h
  · rename_i hf
    have ha := ins_asc h3 x hf
    have hle := lowP_le L x
    have hlen : (L.take (lowR L x) ++ x :: L.drop (lowR L x)).length = L.length + 1 := by simp; omega
    have hall : ∀ y ∈ L.take (lowR L x) ++ x :: L.drop (lowR L x), goodI y = true := fun y hy => by
      rcases List.mem_append.1 hy with hy | hy
      · exact h2 y (List.mem_of_mem_take hy)
      · rcases List.mem_cons.1 hy with rfl | hy
        · exact hx
        · exact h2 y (List.mem_of_mem_drop hy)
    refine (good_iff _).2 ⟨fitL_len _ (by rw [hlen]; omega), fun y hy => ?_, ?_⟩
    · unfold fitL at hy
      split at hy
      · exact hall y hy
      · exact hall y (List.mem_of_mem_eraseIdx hy)
    · unfold fitL
      split
      · exact ha
      · exact ha.sublist (List.eraseIdx_sublist _ _)
/-- Who is there when one has been put, where there is room. -/
theorem put_mem {L : List Ins} (h : goodR L = true) {x : Ins} (hx : goodI x = true) (hr : (∀ y ∈ L, y.pub ≠ x.pub) → L.length < 16) (y : Ins) :
    y ∈ putL L x ↔ (y = x ∧ ∀ z ∈ L, z.pub = x.pub → cmpI z x ≤ 0) ∨ (y ∈ L ∧ (y.pub = x.pub → cmpI x y ≤ 0)) := by
  obtain ⟨h1, h2, h3⟩ := (good_iff L).1 h
  unfold putL
  rw [h, hx]
  simp only [Bool.and_self, if_true]
  unfold putG
  split
  · rename_i hf
    obtain ⟨hl, he⟩ := (found_iff h3 x).1 hf
    have hm : L[lowR L x]! ∈ L := by rw [getElem!_pos L _ hl]; exact List.getElem_mem hl
    generalize hz : L[lowR L x]! = z at *
    split
    · rename_i hc
      rw [set_mem h3 x _ hl (by rw [hz]; exact he)]
      constructor
      · rintro (rfl | ⟨a, b⟩)
        · left
          refine ⟨rfl, fun u hu e => ?_⟩
          rw [asc_one h3 hu hm (e.trans he.symm)]
          exact gtI_le hc
        · exact .inr ⟨a, fun e => absurd e b⟩
      · rintro (⟨rfl, _⟩ | ⟨a, b⟩)
        · exact .inl rfl
        · right
          refine ⟨a, fun e => ?_⟩
          have := b e
          rw [asc_one h3 a hm (e.trans he.symm)] at this
          omega
    · rename_i hc
      constructor
      · intro hy
        right
        refine ⟨hy, fun e => ?_⟩
        rw [asc_one h3 hy hm (e.trans he.symm)]
        omega
      · rintro (⟨rfl, b⟩ | ⟨a, _⟩)
        · have h4 := b z hm he
          rw [← leI_anti h4 (by omega)]
          exact hm
        · exact a
  · rename_i hf
    have hne := found_none h3 x hf
    have hlt := hr hne
    have hle := lowP_le L x
    have hlen : (L.take (lowR L x) ++ x :: L.drop (lowR L x)).length = L.length + 1 := by simp; omega
    unfold fitL
    rw [if_pos (by rw [hlen]; omega)]
    have e : y ∈ L.take (lowR L x) ++ x :: L.drop (lowR L x) ↔ y = x ∨ y ∈ L := by
      conv => rhs; rhs; rw [← List.take_append_drop (lowR L x) L]
      simp only [List.mem_append, List.mem_cons]
      constructor
      · rintro (a | a | a)
        · exact .inr (.inl a)
        · exact .inl a
        · exact .inr (.inr a)
      · rintro (a | a | a)
        · exact .inr (.inl a)
        · exact .inl a
        · exact .inr (.inr a)
    rw [e]
    constructor
    · rintro (rfl | a)
      · exact .inl ⟨rfl, fun z hz e => absurd e (hne z hz)⟩
      · exact .inr ⟨a, fun e => absurd e (hne y a)⟩
    · rintro (⟨rfl, _⟩ | ⟨a, _⟩)
      · exact .inl rfl
      · exact .inr a
end Go.Proofs.Ytkceipkgebgigaa
end
