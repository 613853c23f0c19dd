/- roster.Bytes of the program. Conditions: at most 10,000 instances, targets of at most 100,000 bytes. A good roster is read from its bytes, and what is read has them: plain. No condition. Slices of instances that come in. No condition. -/
import Derived.Test.YtkceipkgebgigaaXObc
import Derived.Test.YtkceipkgebgigaaXIye
import Derived.Test.YtkceipkgebgigaaXIyn
import Derived.Test.YtkceipkgebgigaaXIpm
import Derived.Test.YtkceipkgebgigaaXInq
import Derived.Test.YtkceipkgebgigaaXIiq
section
namespace Go.Proofs.Ytkceipkgebgigaa
open Go.Shelf Go.RowKit Go.Lib Go.Great
set_option maxRecDepth 100000
set_option maxHeartbeats 400000
/-- The bytes of the first k of a roster. -/
def upR (L : List Ins) (k : Nat) : List UInt8 := putB L.length 1 ++ (L.take k).flatMap byI
/-- The bytes of a roster. -/
def byR (L : List Ins) : List UInt8 := if goodR L then upR L L.length else []
def errR (L : List Ins) : Int := if goodR L then 0 else 2
theorem upR_succ (L : List Ins) (k : Nat) (h : k < L.length) : upR L k ++ byI L[k]! = upR L (k + 1) := by
  unfold upR
  have e : L.take (k + 1) = L.take k ++ [L[k]] := by rw [List.take_add_one, List.getElem?_eq_getElem h]; rfl
  rw [e, getElem!_pos L k h, List.flatMap_append]
  simp
theorem byI_len4 (i : Ins) : (byI i).length ≤ 400 := by
  unfold byI
  split
  · rename_i h
    have := goodI_len h
    unfold bytesI headB
    split <;> simp [putB_length, i.hp] <;> omega
  · simp
theorem upR_len (L : List Ins) (k : Nat) : (upR L k).length ≤ 1 + k * 400 := by
  unfold upR
  rw [List.length_append, putB_length]
  have : ∀ M : List Ins, (M.flatMap byI).length ≤ M.length * 400 := fun M => by
    induction M with
    | nil => simp
    | cons y M ih => rw [List.flatMap_cons, List.length_append, List.length_cons]; have := byI_len4 y; omega
  have h := this (L.take k)
  rw [List.length_take] at h
  have : min k L.length * 400 ≤ k * 400 := Nat.mul_le_mul_right _ (Nat.min_le_left _ _)
  omega
theorem rbytes_bad (A : Option Addr) (c : Nat) (L : List Ins) (w : World) (ht : ∀ y ∈ L, y.tgt.length ≤ 100000) (hA : IAt w w.heap.size A L) (hg : goodR L = false) :
    Calls Try.prog 45 #[.slice A L.length c] w fun e w' => ∃ v, e = .returned (.tuple #[v, .int .i64 (errR L)]) ∧ IsB v (byR L) w' ∧ Below w.heap.size w w' := by
  have HG := Lib.hid (gd_any A c L w ht hA)
  rw [hg] at HG
  have HN : Hid (errR L = 2 ∧ byR L = []) := Lib.hid (by unfold errR byR; rw [hg]; exact ⟨rfl, rfl⟩)
  rw [HN.out.1, HN.out.2]
  clear ht hA hg
  go_enter Try.func45, Try.ntmps45
  go_wp2_with (first | (go_at_call 40; (with_reducible refine HG.out.mono ?_); rintro e w1 ⟨rfl, hb1⟩))
  go_ret2
  exact ⟨_, rfl, IsB.nil _, hb1⟩
theorem byI_good {i : Ins} (h : goodI i = true) : errI i = 0 := by unfold errI; rw [if_pos h]
theorem rbytes_good (A : Option Addr) (c : Nat) (L : List Ins) (w : World) (ht : ∀ y ∈ L, y.tgt.length ≤ 100000) (hA : IAt w w.heap.size A L) (hg : goodR L = true) :
    Calls Try.prog 45 #[.slice A L.length c] w fun e w' => ∃ v, e = .returned (.tuple #[v, .int .i64 (errR L)]) ∧ IsB v (byR L) w' ∧ Below w.heap.size w w' := by
  have hl := ((goodR_iff L).1 hg).1
  have HG := Lib.hid (gd_any A c L w ht hA)
  rw [hg] at HG
  have HN : Hid (errR L = 0 ∧ byR L = upR L L.length) := Lib.hid (by unfold errR byR; rw [hg]; exact ⟨rfl, rfl⟩)
  rw [HN.out.1, HN.out.2]
  have HPUT : Hid (∀ W, Below w.heap.size w W → Calls Try.prog 47 #[.slice none 0 0, .int .u64 (L.length : Int), .int .i64 1] W fun e w' => ∃ v, e = .returned v ∧ w'.ownsRow w.heap.size 5 1 v (upR L 0).length (bcells (upR L 0)) ∧ Below w.heap.size w w') := Lib.hid (fun W hW => by
    refine (put_yes none 0 L.length 1 [] W (.inl rfl) (by simp) (by omega) (by omega) (by omega)).mono ?_
    rintro e w' ⟨v, rfl, ho, hb⟩
    have e0 : upR L 0 = [] ++ putB L.length 1 := by unfold upR; simp
    rw [e0]
    exact ⟨v, rfl, own_baseC ho hW.size, hW.trans (hb.mono hW.size)⟩)
  have HLD : Hid (∀ k, k < L.length → ∃ g off, A = some ⟨g, off, none⟩ ∧ ∀ W, Below w.heap.size w W → (loadVar 28 ⟨g, off + k * 28, none⟩).run Try.prog W = .ok (.agg (encI L[k]!).toArray) W) := Lib.hid (fun k hk => by
    rcases hA with e | ⟨g, off, e, hgl, hr⟩
    · rw [e] at hk; simp at hk
    · exact ⟨g, off, e, fun W hW => row_load hr hgl hW hk⟩)
  have HBY : Hid (∀ k, k < L.length → ∀ W, Calls Try.prog 12 #[.agg (encI L[k]!).toArray] W fun e w' => ∃ v, e = .returned (.tuple #[v, .int .i64 0]) ∧ IsB v (byI L[k]!) w' ∧ Below W.heap.size W w') := Lib.hid (fun k hk W => by
    have hgk : goodI L[k]! = true := by
      have := ((goodR_iff L).1 hg).2 k hk
      unfold okAt at this
      rw [Bool.and_eq_true] at this
      exact this.1
    have := ibytes_any L[k]! (ht _ (by rw [getElem!_pos L k hk]; exact List.getElem_mem hk)) W
    rw [byI_good hgk] at this
    exact this)
  have HUP : Hid (∀ k, k < L.length → upR L k ++ byI L[k]! = upR L (k + 1) ∧ (upR L k).length + (byI L[k]!).length ≤ 10000000) := Lib.hid (fun k hk => ⟨upR_succ L k hk, by have := upR_len L k; have := byI_len4 L[k]!; omega⟩)
  clear HN
  generalize hn : L.length = n at *
  have hnu : (n : Int) % 18446744073709551616 = (n : Int) := by omega
  clear hA ht hg
  go_enter Try.func45, Try.ntmps45
  go_upto_region 5 with (first
    | (go_at_call 40; (with_reducible refine HG.out.mono ?_); rintro e w1 ⟨rfl, hb1⟩)
    | (go_at_call 47; (with_reducible refine (HPUT.out _ hb1).mono ?_); rintro e2 w2 ⟨v, rfl, ho2, hb2⟩))
  have HO2 := Lib.hid ho2
  have HB2 := Lib.hid hb2
  clear ho2 hb2 hb1 HG HPUT
  go_loopw [4, 18] (fun v0 i wr => ∃ (k : Nat) (v : Value), v0 = v ∧ i = .int .i64 (k : Int) ∧ k ≤ n ∧ wr.ownsRow w.heap.size 5 1 v (upR L k).length (bcells (upR L k)) ∧ Below w.heap.size w wr) (fun _ i _ => n - (RowKit.intOf i).toNat)
  case atStart => exact ⟨0, _, rfl, rfl, by omega, HO2.out, HB2.out⟩
  case round =>
    obtain ⟨k, v4, hv4, rfl, hk, ho, hbr⟩ := hrel
    obtain rfl := hv4.symm
    clear HO2 HB2
    by_cases hlt : k < n
    · have hlt' : (k : Int) < (n : Int) := by omega
      obtain ⟨g, off, rfl, hld⟩ := HLD.out k hlt
      have HLV := Lib.hid (hld wr hbr)
      have HB := Lib.hid (HBY.out k hlt)
      obtain ⟨hup, hul⟩ := HUP.out k hlt
      obtain ⟨Y, hY⟩ : ∃ Y : Ins, Y = L[k]! := ⟨_, rfl⟩
      rw [← hY] at HLV HB hup hul
      have HUPk := Lib.hid hup
      have HULk := Lib.hid hul
      have hbn : Below wr.heap.size wr (wr.alloc (.cells (encI Y).toArray 28)) := (Below.refl _ wr).alloc (Nat.le_refl _) _
      have HLK : Hid ((loadVar 28 ⟨wr.heap.size, 0, none⟩).run Try.prog (wr.alloc (.cells (encI Y).toArray 28)) = .ok (.agg (encI Y).toArray) (wr.alloc (.cells (encI Y).toArray 28))) := Lib.hid (load28 (row_range (heap_alloc_new wr _)))
      have HOW : Hid (∀ W, Below (wr.alloc (.cells (encI Y).toArray 28)).heap.size (wr.alloc (.cells (encI Y).toArray 28)) W → W.ownsRow w.heap.size 5 1 v4 (upR L k).length (bcells (upR L k)) ∧ Below w.heap.size w W ∧ w.heap.size ≤ W.heap.size) := Lib.hid (fun W hW => by
        have h1 := hbn.trans (hW.mono hbn.size)
        exact ⟨ho.kept (grown_of_bel h1 none) (by cases v4.ownBlock <;> simp), hbr.trans (h1.mono hbr.size), Nat.le_trans hbr.size h1.size⟩)
      have HOB : Hid (∀ q, v4.ownBlock = some q → w.heap.size ≤ q) := Lib.hid (fun q hq => (ho.lt q hq).1)
      have HSRC : Hid (∀ W v, IsB v (byI Y) W → Src Try.prog 1 30 v (byI Y).length (bcells (byI Y)) W) := Lib.hid (fun W v hi => by
        obtain ⟨A', c', rfl, _, hA'⟩ := hi
        exact hA'.src Try.underlying30 c')
      have HNX : Hid (∀ W A' c' w', Below (wr.alloc (.cells (encI Y).toArray 28)).heap.size (wr.alloc (.cells (encI Y).toArray 28)) W → w'.ownsRow w.heap.size 5 1 (.slice A' (upR L (k + 1)).length c') (upR L (k + 1)).length (bcells (upR L (k + 1))) → W.grownBy w' v4.ownBlock → ∃ (k' : Nat) (v : Value), Value.slice A' (upR L (k + 1)).length c' = v ∧ Value.int .i64 ((k : Int) + 1) = .int .i64 (k' : Int) ∧ k' ≤ n ∧ w'.ownsRow w.heap.size 5 1 v (upR L k').length (bcells (upR L k')) ∧ Below w.heap.size w w') := Lib.hid (fun W A' c' w' hW ho' hg' => by
        obtain ⟨_, q2, q3⟩ := HOW.out W hW
        exact ⟨k + 1, _, rfl, by simp, by omega, ho', below_ownB q2 q3 hg' HOB.out⟩)
      clear hY hld hup hul hbn ho hbr HLD HBY HUP
      go_wp2_with (first
        | ((with_reducible refine wpList_loadV (op := ⟨some 21, _, _, _, _, _⟩) rfl 28 (.tmp 20) rfl _ ?_ _ HLV.out ?_); rfl)
        | (with_reducible refine wpList_alloc28 (o := ⟨some 6, _, _, _, _, _⟩) wr.heap.size rfl rfl 6 rfl rfl ?_)
        | ((with_reducible refine wpList_store28n (o := ⟨none, _, _, _, _, _⟩) rfl (.tmp 6) (.tmp 21) rfl wr.heap.size rfl zeroI Y ?_ ?_ ?_); rfl; rfl)
        | ((with_reducible refine wpList_loadV (op := ⟨some 23, _, _, _, _, _⟩) rfl 28 (.tmp 6) rfl _ ?_ _ HLK.out ?_); rfl)
        | (go_at_call 12; (with_reducible refine (HB.out _).mono ?_); rintro e5 w5 ⟨v5, rfl, hi5, hb5⟩)
        | (at_builtin; (refine wpList_appN (o := ⟨some 29, _, _, _, _, _⟩) rfl 29 rfl (.tmp 27) (.tmp 28) rfl w.heap.size v4 (upR L k) ?_ (HOW.out _ hb5).1 v5 (byI Y) ?_ (HSRC.out _ _ hi5) HULk.out (HOW.out _ hb5).2.2 (upR L (k + 1)) (upR L (k + 1)).length HUPk.out rfl ?_); rfl; rfl; intro A6 c6 w6 ho6 hg6))
      go_roundw
      case rel => exact HNX.out _ _ _ _ hb5 ho6 hg6
      case measure => simp [RowKit.intOf]; omega
    · obtain rfl : k = n := by omega
      have hlt' : ¬ (k : Int) < (k : Int) := by omega
      have HI := Lib.hid (IsB.of_own ho)
      have HBR := Lib.hid hbr
      clear HLD HBY HUP ho hbr
      go_wp2
      go_ret2
      exact ⟨_, rfl, HI.out, HBR.out⟩
/-- Bytes of the program. -/
theorem rosbytes_any (A : Option Addr) (c : Nat) (L : List Ins) (w : World) (ht : ∀ y ∈ L, y.tgt.length ≤ 100000) (hA : IAt w w.heap.size A L) :
    Calls Try.prog 45 #[.slice A L.length c] w fun e w' => ∃ v, e = .returned (.tuple #[v, .int .i64 (errR L)]) ∧ IsB v (byR L) w' ∧ Below w.heap.size w w' := by
  cases hg : goodR L with
  | false => exact rbytes_bad A c L w ht hA hg
  | true => exact rbytes_good A c L w ht hA hg
end Go.Proofs.Ytkceipkgebgigaa
end
section
namespace Go.Proofs.Ytkceipkgebgigaa
open Go.Shelf Go.RowKit Go.Lib Go.Great
set_option maxRecDepth 100000
set_option maxHeartbeats 400000
theorem byI_is {i : Ins} (h : goodI i = true) : byI i = bytesI i := by unfold byI; rw [if_pos h]
theorem rosN_back (L : List Ins) (ys : List UInt8) (hg : ∀ x ∈ L, goodI x = true) : ∀ k, k ≤ L.length → rosN k ⟨L.flatMap byI ++ ys, false⟩ = (L.take k, ⟨(L.drop k).flatMap byI ++ ys, false⟩)
  | 0, _ => by simp [rosN]
  | k + 1, hk => by
    have hk' : k < L.length := by omega
    rw [rosN, rosN_back L ys hg k (by omega)]
    have hx := hg _ (List.getElem_mem hk')
    have e : (L.drop k).flatMap byI ++ ys = bytesI L[k] ++ ((L.drop (k + 1)).flatMap byI ++ ys) := by
      rw [List.drop_eq_getElem_cons hk', List.flatMap_cons, byI_is hx, List.append_assoc]
    obtain ⟨h1, h2, _⟩ := read_back hx ((L.drop (k + 1)).flatMap byI ++ ys)
    simp only [e, h1, h2]
    rw [List.take_add_one, List.getElem?_eq_getElem hk']
    rfl
theorem roster_back {L : List Ins} (h : goodR L = true) (ys : List UInt8) : rosL ⟨byR L ++ ys, false⟩ = L ∧ rosS ⟨byR L ++ ys, false⟩ = ⟨ys, false⟩ := by
  have hl := ((goodR_iff L).1 h).1
  have e : byR L ++ ys = putB L.length 1 ++ (L.flatMap byI ++ ys) := by
    unfold byR upR
    rw [if_pos h, List.take_length, List.append_assoc]
  obtain ⟨n1, n2⟩ := num_back L.length 1 (L.flatMap byI ++ ys) (by omega) (by omega)
  have e1 : L.length % 256 ^ 1 = L.length := by omega
  rw [e1] at n1
  have hn := rosN_back L ys (goodR_all h) L.length (Nat.le_refl _)
  rw [List.take_length, List.drop_length] at hn
  have hG : rosG ⟨byR L ++ ys, false⟩ = true := by
    unfold rosG
    rw [e]
    have n1' : numV ⟨putB L.length 1 ++ (L.flatMap byI ++ ys), false⟩ 1 = L.length := n1
    have n2' : numS ⟨putB L.length 1 ++ (L.flatMap byI ++ ys), false⟩ 1 = ⟨L.flatMap byI ++ ys, false⟩ := n2
    rw [n1', n2', hn]
    exact h
  unfold rosL rosS
  rw [if_pos hG, if_pos hG, e]
  have n1' : numV ⟨putB L.length 1 ++ (L.flatMap byI ++ ys), false⟩ 1 = L.length := n1
  have n2' : numS ⟨putB L.length 1 ++ (L.flatMap byI ++ ys), false⟩ 1 = ⟨L.flatMap byI ++ ys, false⟩ := n2
  rw [n1', n2', hn]
  exact ⟨rfl, rfl⟩
theorem rosN_had (b : List UInt8) : ∀ n, (∀ x ∈ (rosN n ⟨b, false⟩).1, goodI x = true) → b = (rosN n ⟨b, false⟩).1.flatMap byI ++ (rosN n ⟨b, false⟩).2.ys ∧ (rosN n ⟨b, false⟩).2.bad = false
  | 0, _ => by simp [rosN]
  | n + 1, h => by
    rw [rosN] at h ⊢
    obtain ⟨h1, h2⟩ := rosN_had b n (fun x hx => h x (List.mem_append_left _ hx))
    have hg := h _ (List.mem_append_right _ (List.mem_singleton.2 rfl))
    obtain ⟨s, hs⟩ : ∃ s, s = (rosN n ⟨b, false⟩).2 := ⟨_, rfl⟩
    rw [← hs] at h1 h2 hg ⊢
    obtain ⟨ys, bd⟩ := s
    simp only at h1 h2
    subst h2
    have hgn : goodI (nextI ⟨ys, false⟩) = true := by
      cases hc : goodI (nextI ⟨ys, false⟩) with
      | true => rfl
      | false =>
        have hz : readI ⟨ys, false⟩ = zeroI := by unfold readI; rw [if_neg (by rw [hc]; decide)]
        rw [hz, zero_bad] at hg
        cases hg
    obtain ⟨q1, q2⟩ := next_bytes hgn
    have e1 : readI ⟨ys, false⟩ = nextI ⟨ys, false⟩ := by unfold readI; rw [if_pos hgn]
    have e2 : readS ⟨ys, false⟩ = nextS ⟨ys, false⟩ := by unfold readS; rw [if_pos hgn]
    simp only
    rw [e1, e2, List.flatMap_append, List.append_assoc]
    refine ⟨?_, q2⟩
    refine h1.trans ?_
    congr 1
    rw [List.flatMap_cons, List.flatMap_nil, List.append_nil, byI_is hgn]
    exact q1
theorem ros_had {b : List UInt8} (h : (rosS ⟨b, false⟩).bad = false) : goodR (rosL ⟨b, false⟩) = true ∧ b = byR (rosL ⟨b, false⟩) ++ (rosS ⟨b, false⟩).ys := by
  cases hG : rosG ⟨b, false⟩ with
  | false => unfold rosS at h; rw [hG] at h; cases h
  | true =>
    have hg : goodR (rosN (numV ⟨b, false⟩ 1) (numS ⟨b, false⟩ 1)).1 = true := hG
    have eL : rosL ⟨b, false⟩ = (rosN (numV ⟨b, false⟩ 1) (numS ⟨b, false⟩ 1)).1 := by unfold rosL; rw [if_pos hG]
    have eS : rosS ⟨b, false⟩ = (rosN (numV ⟨b, false⟩ 1) (numS ⟨b, false⟩ 1)).2 := by unfold rosS; rw [if_pos hG]
    rw [eS] at h
    have hok : numOk ⟨b, false⟩ 1 := by
      by_cases hc : numOk ⟨b, false⟩ 1
      · exact hc
      · have e1 : numV ⟨b, false⟩ 1 = 0 := by unfold numV; rw [if_neg hc]
        have e2 : numS ⟨b, false⟩ 1 = ⟨[], true⟩ := by unfold numS; rw [if_neg hc]
        rw [e1, e2] at h
        cases h
    have e1 : numV ⟨b, false⟩ 1 = getN (b.take 1) := by unfold numV; rw [if_pos hok]; rfl
    have e2 : numS ⟨b, false⟩ 1 = ⟨b.drop 1, false⟩ := by unfold numS; rw [if_pos hok]; rfl
    have h1 : 1 ≤ b.length := by
      unfold numOk at hok
      simp at hok
      omega
    have hall := goodR_all hg
    rw [e2] at hall
    obtain ⟨q1, _⟩ := rosN_had (b.drop 1) _ hall
    refine ⟨by rw [eL]; exact hg, ?_⟩
    have e4 : byR (rosL ⟨b, false⟩) = putB (getN (b.take 1)) 1 ++ (rosL ⟨b, false⟩).flatMap byI := by
      unfold byR upR
      rw [if_pos (by rw [eL]; exact hg), List.take_length]
      congr 2
      rw [eL, rosN_len, e1]
    rw [e4, putB_getN 1 (b.take 1) (by rw [List.length_take]; omega), eL, eS, e2, List.append_assoc, ← q1, List.take_append_drop]
theorem ros_none {b : List UInt8} (h : (rosS ⟨b, false⟩).bad = true) : rosL ⟨b, false⟩ = [] := by
  cases hG : rosG ⟨b, false⟩ with
  | false => unfold rosL; rw [hG]; rfl
  | true =>
    have hg : goodR (rosN (numV ⟨b, false⟩ 1) (numS ⟨b, false⟩ 1)).1 = true := hG
    have eL : rosL ⟨b, false⟩ = (rosN (numV ⟨b, false⟩ 1) (numS ⟨b, false⟩ 1)).1 := by unfold rosL; rw [if_pos hG]
    have eS : rosS ⟨b, false⟩ = (rosN (numV ⟨b, false⟩ 1) (numS ⟨b, false⟩ 1)).2 := by unfold rosS; rw [if_pos hG]
    by_cases hc : numOk ⟨b, false⟩ 1
    · have e2 : numS ⟨b, false⟩ 1 = ⟨b.drop 1, false⟩ := by unfold numS; rw [if_pos hc]; rfl
      have hall := goodR_all hg
      rw [e2] at hall
      obtain ⟨_, q2⟩ := rosN_had (b.drop 1) _ hall
      rw [eS, e2, q2] at h
      cases h
    · have e1 : numV ⟨b, false⟩ 1 = 0 := by unfold numV; rw [if_neg hc]
      rw [eL, e1]
      rfl
end Go.Proofs.Ytkceipkgebgigaa
end
section
namespace Go.Proofs.Ytkceipkgebgigaa
set_option maxRecDepth 100000
open Go.ChangeShapes Go.WideShapes Go.ChangeAt Go.RowKit Go.Deep
theorem addr_addI (b o i : Nat) : (⟨b, o, none⟩ : Addr).add i = ⟨b, o + i, none⟩ := by unfold Addr.add; split <;> simp_all
theorem und56 : Try.prog.underlying 56 = some (.slice 28) := by kernel_rfl
theorem open_inss {H : Type} {enc : TypeId × Value → H} {W : World} {base : Nat} {sp : Nat → Bool} {hd : Bool} {a : Option Addr} {len cap : Nat} {d : DataW H} {p : List MemPlace} (h : DataW.Trod enc Try.prog W base sp hd 56 (.slice a len cap) d p) :
    ∃ L : List Ins, L.length = len ∧ IAt W W.heap.size a L ∧ len ≤ cap ∧ len ≤ maxLen := by
  obtain ⟨fuel, hf⟩ := h
  have hc26 : Try.prog.cellsOf 28 = 28 := by kernel_rfl
  rcases open_slice und56 hf with ⟨hcs, _⟩ | ⟨x, l, c, m, n, D, Pl, hcs, _, hl, hm, hmm, hsp, hcell⟩
  · simp [Value.cells] at hcs
    obtain ⟨rfl, rfl, rfl⟩ := hcs
    exact ⟨[], rfl, .inl rfl, Nat.le_refl _, Nat.zero_le _⟩
  · simp [Value.cells] at hcs
    obtain ⟨rfl, rfl, rfl⟩ := hcs
    have hlm : len ≤ m := by rw [hmm]; split <;> omega
    obtain ⟨f, hf⟩ := choose_lt (α := Ins) (n := m) (p := fun i q => ∀ k, k < 28 → W.cell? ((x.add (i * 28)).add k) = (encI q)[k]?) (fun i hi => by
      obtain ⟨cs', c0, t0⟩ := hcell i hi
      rw [hc26] at c0
      obtain ⟨q, rfl, _⟩ := cells_ins t0
      exact ⟨q, (World.cells?_some c0).2.2⟩)
    refine ⟨(List.range len).map f, by simp, ?_, hl, Nat.le_trans hl hm⟩
    by_cases h0 : len = 0
    · left
      rw [h0]
      rfl
    · right
      have hget : ∀ i, i < len → ((List.range len).map f)[i]? = some (f i) := fun i hi => by simp [hi]
      obtain ⟨b, off, spot⟩ := x
      have hc0 : W.cell? (((⟨b, off, spot⟩ : Addr).add (0 * 28)).add 0) = some ((encI (f 0))[0]'(by rw [encI_length]; omega)) := by
        rw [hf 0 (by omega) 0 (by omega), List.getElem?_eq_getElem]
      have hspot : spot = none := by
        have := World.cell?_spot hc0
        simpa [Addr.add] using this
      subst hspot
      have e : ∀ i k, ((⟨b, off, none⟩ : Addr).add (i * 28)).add k = ⟨b, off + (i * 28 + k), none⟩ := fun i k => by rw [addr_addI, addr_addI, Nat.add_assoc]
      refine ⟨b, off, rfl, ?_, fun j v hv => ?_⟩
      · rw [e] at hc0
        exact World.block_lt_of_cell? W _ hc0
      · have hj : j < len * 28 := by
          have := (List.getElem?_eq_some_iff.1 hv).1
          rw [flatE_length encI_length] at this
          simpa using this
        have h1 := hf (j / 28) (by omega) (j % 28) (Nat.mod_lt _ (by omega))
        rw [e, show j / 28 * 28 + j % 28 = j by omega] at h1
        rw [h1]
        have h2 := flatE_get encI_length (by omega) ((List.range len).map f) (j / 28) _ (j % 28) (hget (j / 28) (by omega)) (Nat.mod_lt _ (by omega))
        rw [show j / 28 * 28 + j % 28 = j by omega, hv] at h2
        exact h2.symm
/-- A slice's address is none, or that of a row. -/
theorem okWide_spot {w : World} {r : Reach} {base : Nat} {t e : TypeId} {a : Option Addr} {len cap : Nat} (ht : Try.prog.underlying t = some (.slice e)) (h : Value.okWide Try.prog w r base t (.slice a len cap)) : a = none ∨ ∃ g off, a = some ⟨g, off, none⟩ := by
  cases a with
  | none => exact .inl rfl
  | some x =>
    simp only [Value.okWide, ht, Cell.okWide, Cell.ok, World.has] at h
    obtain ⟨g, off, spot⟩ := x
    obtain ⟨_, _, _, hs, _⟩ := h
    simp only at hs
    subst hs
    exact .inr ⟨g, off, rfl⟩
end Go.Proofs.Ytkceipkgebgigaa
end
