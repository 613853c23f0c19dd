/- fitting of the program. Conditions: a row of one's own, at most 17 instances. What is read of the bytes of a good instance, and what is read has them; newer is an order: plain. No condition. slices.BinarySearchFunc at instances, by their publishers. Conditions: at most 16 instances, in order. -/
import Derived.Test.YtkceipkgebgigaaGreatProg
import Derived.Test.YtkceipkgebgigaaGreatXOed
import Derived.Test.YtkceipkgebgigaaGreatXIil
import Derived.Test.YtkceipkgebgigaaGreatXOaa
import Derived.Test.YtkceipkgebgigaaGreatXObc
section
namespace Go.Proofs.YtkceipkgebgigaaGreat
open Go.Shelf Go.RowKit Go.Lib Go.Great
set_option maxRecDepth 100000
set_option maxHeartbeats 1000000
/-- The last one of those that end first, among the first k. -/
def lastMin (L : List Ins) : Nat → Nat
  | 0 => 0
  | k + 1 => if endI L[k]! ≤ endI L[lastMin L k]! then k else lastMin L k
theorem lastMin_lt (L : List Ins) : ∀ k, 0 < k → lastMin L k < k
  | 0, h => by omega
  | k + 1, _ => by
    unfold lastMin
    split
    · omega
    · rcases Nat.eq_zero_or_pos k with rfl | h
      · unfold lastMin; omega
      · have := lastMin_lt L k h; omega
theorem lastMin_le (L : List Ins) (k n : Nat) (h : k ≤ n) (hn : 0 < n) : lastMin L k < n := by
  rcases Nat.eq_zero_or_pos k with rfl | h0
  · unfold lastMin; exact hn
  · have := lastMin_lt L k h0; omega
/-- As many as a roster may have. -/
def fitL (L : List Ins) : List Ins := if L.length ≤ 16 then L else L.eraseIdx (lastMin L L.length)
theorem fit_few (A : Option Addr) (n c : Nat) (w : World) (hn : n ≤ 16) : Calls Tryz.prog 26 #[.slice A n c] w fun e w' => e = .returned (.slice A n c) ∧ w' = w := by
  have hn' : (n : Int) ≤ 16 := by omega
  go_enter Tryz.func26, Tryz.ntmps26
  go_wp2
  go_ret
  exact ⟨rfl, rfl⟩
theorem fit_many (g n c base : Nat) (L : List Ins) (w : World) (hn : L.length = n) (h16 : 16 < n) (h17 : n ≤ 17) (hbase : base ≤ g)
    (ho : w.ownsRow base 29 28 (.slice (some ⟨g, 0, none⟩) n c) n (flatE encI L)) :
    Calls Tryz.prog 26 #[.slice (some ⟨g, 0, none⟩) n c] w fun e w' => ∃ v, e = .returned v ∧ w'.ownsRow base 29 28 v (n - 1) (flatE encI (L.eraseIdx (lastMin L n))) ∧ w.grownBy w' (some g) := by
  obtain ⟨A0, c0, hv0, hn0, hc0, hm0, hform⟩ := own_formI ho
  obtain ⟨hgl, hr⟩ : g < w.heap.size ∧ w.rangeAt g 0 (flatE encI L) := by
    rcases hform with ⟨e, _⟩ | ⟨g', e, _, h1, h2⟩
    · rw [e] at hv0; cases hv0
    · rw [e] at hv0
      injection hv0 with e1
      injection e1 with e1
      injection e1 with e1
      subst e1
      exact ⟨h1, h2⟩
  have HLD : Hid (∀ k, k < n → ∀ W, Below w.heap.size w W → (loadVar 29 ⟨g, k * 28, none⟩).run Tryz.prog W = .ok (.agg (encI L[k]!).toArray) W) := Lib.hid (fun k hk W hW => by have := row_load hr hgl hW (k := k) (by omega); rwa [Nat.zero_add] at this)
  have HEN : Hid (∀ (k : Nat) (W : World), Calls Tryz.prog 50 #[.agg (encI L[k]!).toArray] W fun e w' => e = .returned (.int .u64 (endI L[k]! : Int)) ∧ Below W.heap.size W w') := Lib.hid (fun k W => (end_any L[k]! W).mono (by rintro e w' ⟨rfl, rfl⟩; exact ⟨rfl, (Below.refl _ W).alloc (Nat.le_refl _) _⟩))
  have HLM : Hid (∀ k, k ≤ n → lastMin L k < n) := Lib.hid (fun k hk => lastMin_le L k n hk (by omega))
  have HDEL : Hid (∀ W, Below w.heap.size w W → Calls Tryz.prog 51 #[.slice (some ⟨g, 0, none⟩) n c, .int .i64 (lastMin L n : Int), .int .i64 ((lastMin L n : Int) + 1)] W fun e w' => ∃ v, e = .returned v ∧ w'.ownsRow base 29 28 v (n - 1) (flatE encI (L.eraseIdx (lastMin L n))) ∧ w.grownBy w' (some g)) := by
    refine Lib.hid (fun W hW => ?_)
    have hf := lastMin_le L n n (Nat.le_refl _) (by omega)
    generalize lastMin L n = f at hf ⊢
    rcases ho.2 with ⟨e, _⟩ | ⟨g', cap, cur, e, hb, hg, hc, hm, hs, ht⟩
    · cases e
    · injection e with e1 _ e3
      injection e1 with e1
      injection e1 with e1
      subst e1 e3
      obtain ⟨l, rfl⟩ : ∃ l : List Value, cur = l.toArray := ⟨cur.toList, by simp⟩
      have hsplit : L = L.take f ++ L[f]! :: L.drop (f + 1) := by
        rw [getElem!_pos L f (by omega), ← List.drop_eq_getElem_cons (by omega), List.take_append_drop]
      have hlen : (flatE encI L).length = n * 28 := by rw [flatE_length encI_length, hn]
      have ht' : l.take (n * 28) = flatE encI L := by simpa using ht
      have he : L.eraseIdx f = L.take f ++ L.drop (f + 1) := List.eraseIdx_eq_take_drop_succ L f
      have := del_some g f (n - 1 - f) (n - 1) c base l (L.take f) (L.drop (f + 1)) L[f]! W (by rw [List.length_take]; omega) (by rw [List.length_drop]; omega) (by omega) (by omega) (by omega) hm hbase (by rw [hW.block g hgl]; exact hg) (by rw [← hsplit, show n - 1 + 1 = n by omega]; exact ht') (by simpa using hs)
      rw [show n - 1 + 1 = n by omega] at this
      refine this.mono ?_
      rintro e w' ⟨v, rfl, h1, h2⟩
      rw [he]
      exact ⟨v, rfl, h1, grownBy_trans (grown_of_bel hW (some g)) h2⟩
  have hln : ¬ (n : Int) ≤ 16 := by omega
  have hwl : IntKind.i64.wrap ((lastMin L n : Int) + 1) = (lastMin L n : Int) + 1 := by
    have := lastMin_le L n n (Nat.le_refl _) (by omega)
    rw [IntKind.wrap_i64]; omega
  clear ho hform hr hv0 hn0 hc0 hm0
  go_enter Tryz.func26, Tryz.ntmps26
  go_wp2
  go_loopw [3, 12] (fun f i wr => ∃ k : Nat, f = .int .i64 (lastMin L k : Int) ∧ i = .int .i64 (k : Int) ∧ k ≤ n ∧ Below w.heap.size w wr) (fun _ i _ => n - (RowKit.intOf i).toNat)
  case atStart => exact ⟨0, rfl, rfl, by omega, Below.refl _ _⟩
  case round =>
    obtain ⟨k, rfl, rfl, hk, hbr⟩ := hrel
    by_cases hlt : k < n
    · have hlt' : (k : Int) < (n : Int) := by omega
      have hfn := HLM.out k hk
      have hnew := heap_alloc_new wr (.cells (encI L[k]!).toArray 29)
      have hbn : Below w.heap.size w (wr.alloc (.cells (encI L[k]!).toArray 29)) := hbr.alloc hbr.size _
      have HBN := Lib.hid hbn
      have HQ5 : Hid (∀ q : Kept (wr.alloc (.cells (encI L[k]!).toArray 29)).heap.size (wr.alloc (.cells (encI L[k]!).toArray 29)), (loadVar 29 ⟨wr.heap.size, 0, none⟩).run Tryz.prog q.val = .ok (.agg (encI L[k]!).toArray) q.val) := Lib.hid (fun q =>
        load28 (row_range (by rw [q.property.block _ (Array.getElem?_eq_some_iff.1 hnew).1]; exact hnew)))
      have HLDV := Lib.hid (HLD.out k hlt wr hbr)
      have HQ21 : Hid (∀ q : Kept (wr.alloc (.cells (encI L[k]!).toArray 29)).heap.size (wr.alloc (.cells (encI L[k]!).toArray 29)), (loadVar 29 ⟨g, lastMin L k * 28, none⟩).run Tryz.prog q.val = .ok (.agg (encI L[lastMin L k]!).toArray) q.val) := Lib.hid (fun q => HLD.out _ hfn _ (hbn.trans (q.property.mono hbn.size)))
      have HE1 := Lib.hid (HEN.out k)
      have HE2 := Lib.hid (HEN.out (lastMin L k))
      have HNX : Hid (∀ wx, Below w.heap.size w wx → ∃ k' : Nat, Value.int .i64 (if endI L[k]! ≤ endI L[lastMin L k]! then (k : Int) else (lastMin L k : Int)) = .int .i64 (lastMin L k' : Int) ∧ Value.int .i64 ((k : Int) + 1) = .int .i64 (k' : Int) ∧ k' ≤ n ∧ Below w.heap.size w wx) := Lib.hid (fun wx hx => ⟨k + 1, by
        congr 1
        rw [show lastMin L (k + 1) = if endI L[k]! ≤ endI L[lastMin L k]! then k else lastMin L k from rfl]
        split <;> rfl, by simp, by omega, hx⟩)
      obtain ⟨Y, hY⟩ : ∃ Y : Ins, Y = L[k]! := ⟨_, rfl⟩
      rw [← hY] at HNX HE1 HQ5 HBN HLDV HQ21
      obtain ⟨f, hf⟩ : ∃ f, f = lastMin L k := ⟨_, rfl⟩
      rw [← hf] at HNX HE2 HQ21 hfn ⊢
      obtain ⟨Z, hZ⟩ : ∃ Z : Ins, Z = L[f]! := ⟨_, rfl⟩
      rw [← hZ] at HNX HE2 HQ21
      have hfi : (f : Int) < (n : Int) := by omega
      clear hbn hnew hY hf hZ HLD HEN HLM HDEL hbr hwl
      by_cases hle : endI Y ≤ endI Z
      · have hle' : (endI Y : Int) ≤ (endI Z : Int) := by omega
        rw [if_pos hle] at HNX
        clear hle
        go_upto_region 7 with (first
          | ((with_reducible refine wpList_loadV (op := ⟨some 16, _, _, _, _, _⟩) rfl 29 (.tmp 15) rfl _ ?_ _ HLDV.out ?_); rfl)
          | (with_reducible refine wpList_alloc28 (o := ⟨some 5, _, _, _, _, _⟩) wr.heap.size rfl rfl 5 rfl rfl ?_)
          | ((with_reducible refine wpList_store28n (o := ⟨none, _, _, _, _, _⟩) rfl (.tmp 5) (.tmp 16) rfl wr.heap.size rfl zeroI Y ?_ ?_ ?_); rfl; rfl))
        generalize (encI Y).toArray = YA at *
        generalize (encI Z).toArray = ZA at *
        generalize wr.alloc (.cells YA 29) = W2 at *
        simp only [Act.put, List.setIfInBounds_toArray, List.set_cons_zero, List.set_cons_succ]
        refine wp_region_kept W2.heap.size W2 (Below.refl _ _) (by kernel_rfl) (by kernel_rfl) ?_
        repeat (first
          | (go_big_quiet_want; (with_reducible refine quiet_loadV 29 (.tmp 5) rfl _ ?_ _ HQ5.out ?_); rfl; simp only [Act.put, List.setIfInBounds_toArray, List.set_cons_zero, List.set_cons_succ]; go_big_quiet_on)
          | (go_big_quiet_want; (with_reducible refine quiet_loadV 29 (.tmp 21) rfl _ ?_ _ HQ21.out ?_); rfl; simp only [Act.put, List.setIfInBounds_toArray, List.set_cons_zero, List.set_cons_succ]; go_big_quiet_on)
          | go_big_quiet_step (first | (go_at_call 50; with_reducible exact kept_of (Nat.le_refl _) HE1.out _) | (go_at_call 50; with_reducible exact kept_of (Nat.le_refl _) HE2.out _)))
        refine wpQuiet_nil ?_
        rintro wk ⟨⟨_, hwk⟩, rfl⟩
        have HBW := Lib.hid (HNX.out _ (HBN.out.trans (hwk.mono HBN.out.size)))
        clear hwk
        go_wp2
        go_roundw
        case rel => exact HBW.out
        case measure => simp [RowKit.intOf]; omega
      · have hle' : ¬ (endI Y : Int) ≤ (endI Z : Int) := by omega
        rw [if_neg hle] at HNX
        clear hle
        go_upto_region 7 with (first
          | ((with_reducible refine wpList_loadV (op := ⟨some 16, _, _, _, _, _⟩) rfl 29 (.tmp 15) rfl _ ?_ _ HLDV.out ?_); rfl)
          | (with_reducible refine wpList_alloc28 (o := ⟨some 5, _, _, _, _, _⟩) wr.heap.size rfl rfl 5 rfl rfl ?_)
          | ((with_reducible refine wpList_store28n (o := ⟨none, _, _, _, _, _⟩) rfl (.tmp 5) (.tmp 16) rfl wr.heap.size rfl zeroI Y ?_ ?_ ?_); rfl; rfl))
        generalize (encI Y).toArray = YA at *
        generalize (encI Z).toArray = ZA at *
        generalize wr.alloc (.cells YA 29) = W2 at *
        simp only [Act.put, List.setIfInBounds_toArray, List.set_cons_zero, List.set_cons_succ]
        refine wp_region_kept W2.heap.size W2 (Below.refl _ _) (by kernel_rfl) (by kernel_rfl) ?_
        repeat (first
          | (go_big_quiet_want; (with_reducible refine quiet_loadV 29 (.tmp 5) rfl _ ?_ _ HQ5.out ?_); rfl; simp only [Act.put, List.setIfInBounds_toArray, List.set_cons_zero, List.set_cons_succ]; go_big_quiet_on)
          | (go_big_quiet_want; (with_reducible refine quiet_loadV 29 (.tmp 21) rfl _ ?_ _ HQ21.out ?_); rfl; simp only [Act.put, List.setIfInBounds_toArray, List.set_cons_zero, List.set_cons_succ]; go_big_quiet_on)
          | go_big_quiet_step (first | (go_at_call 50; with_reducible exact kept_of (Nat.le_refl _) HE1.out _) | (go_at_call 50; with_reducible exact kept_of (Nat.le_refl _) HE2.out _)))
        refine wpQuiet_nil ?_
        rintro wk ⟨⟨_, hwk⟩, rfl⟩
        have HBW := Lib.hid (HNX.out _ (HBN.out.trans (hwk.mono HBN.out.size)))
        clear hwk
        go_wp2
        go_roundw
        case rel => exact HBW.out
        case measure => simp [RowKit.intOf]; omega
    · obtain rfl : k = n := by omega
      have hlt' : ¬ (k : Int) < (k : Int) := by omega
      have HD := Lib.hid (HDEL.out _ hbr)
      clear HDEL HLD HEN HLM hbr
      go_wp2_with (first | (go_at_call 51; (with_reducible refine HD.out.mono ?_); rintro e5 w5 ⟨v5, rfl, ho5, hg5⟩))
      go_ret
      exact ⟨v5, rfl, ho5, hg5⟩
/-- fitting of the program. -/
theorem fit_any (v : Value) (base : Nat) (L : List Ins) (w : World) (h17 : L.length ≤ 17) (ho : w.ownsRow base 29 28 v L.length (flatE encI L)) :
    Calls Tryz.prog 26 #[v] w fun e w' => ∃ v', e = .returned v' ∧ w'.ownsRow base 29 28 v' (fitL L).length (flatE encI (fitL L)) ∧ w.grownBy w' v.ownBlock := by
  by_cases h16 : L.length ≤ 16
  · have he : fitL L = L := if_pos h16
    obtain ⟨A, c, hv, hn, hc, hm, hform⟩ := own_formI ho
    rw [he]
    subst hv
    refine (fit_few A L.length c w h16).mono ?_
    rintro e w' ⟨rfl, rfl⟩
    exact ⟨_, rfl, ho, World.grownBy.refl _ _⟩
  · have he : fitL L = L.eraseIdx (lastMin L L.length) := if_neg h16
    have hf := lastMin_le L L.length L.length (Nat.le_refl _) (by omega)
    have hl : (fitL L).length = L.length - 1 := by rw [he, List.length_eraseIdx, if_pos hf]
    rcases id ho.2 with ⟨_, h0⟩ | ⟨g, cap, cur, rfl, hb, hg, hc, hm, hs, ht⟩
    · omega
    · rw [hl, he]
      exact fit_many g L.length cap base L w rfl (by omega) h17 hb ho
end Go.Proofs.YtkceipkgebgigaaGreat
end
section
namespace Go.Proofs.YtkceipkgebgigaaGreat
open Go.Shelf Go.RowKit Go.Lib Go.Great
set_option maxRecDepth 100000
set_option maxHeartbeats 1000000
/-- Three numbers that tell an order: -1, 0 or 1. -/
structure Ord3 (α : Type) (f : α → α → Int) : Prop where
  three : ∀ a b, f a b = -1 ∨ f a b = 0 ∨ f a b = 1
  anti : ∀ a b, f a b = - f b a
  eq : ∀ a b, f a b = 0 → a = b
  trans : ∀ a b c, f a b = 1 → f b c = 1 → f a c = 1
theorem cmpN_ord : Ord3 Nat cmpN where
  three a b := by
    unfold cmpN
    split
    · exact .inl rfl
    · split
      · exact .inr (.inr rfl)
      · exact .inr (.inl rfl)
  anti a b := by unfold cmpN; split <;> split <;> (try split) <;> omega
  eq a b h := by unfold cmpN at h; split at h; simp at h; split at h; simp at h; omega
  trans a b c h1 h2 := by
    unfold cmpN at *
    split at h1 <;> simp at h1
    split at h2 <;> simp at h2
    rw [if_neg (by omega), if_pos (by omega)]
theorem compareBytes_anti : ∀ a b : List UInt8, compareBytes a b = - compareBytes b a
  | [], [] => rfl
  | [], _ :: _ => rfl
  | _ :: _, [] => rfl
  | x :: a, y :: b => by
    have ih := compareBytes_anti a b
    unfold compareBytes
    by_cases hxy : x < y
    · have hyx : ¬ y < x := fun h => by rw [UInt8.lt_iff_toNat_lt] at *; omega
      rw [if_pos hxy, if_neg hyx, if_pos hxy]
    · rw [if_neg hxy]
      by_cases hyx : y < x
      · rw [if_pos hyx, if_pos hyx]; rfl
      · rw [if_neg hyx, if_neg hyx, if_neg hxy]; exact ih
theorem compareBytes_trans : ∀ a b c : List UInt8, compareBytes a b = 1 → compareBytes b c = 1 → compareBytes a c = 1
  | [], [], _, h, _ => absurd h (by simp [compareBytes])
  | [], _ :: _, _, h, _ => absurd h (by simp [compareBytes])
  | _ :: _, [], [], _, h => absurd h (by simp [compareBytes])
  | _ :: _, [], _ :: _, _, h => absurd h (by simp [compareBytes])
  | _ :: _, _ :: _, [], _, _ => rfl
  | x :: a, y :: b, z :: c, h1, h2 => by
    have ih := compareBytes_trans a b c
    simp only [compareBytes, UInt8.lt_iff_toNat_lt] at h1 h2 ⊢
    by_cases hxy : x.toNat < y.toNat
    · rw [if_pos hxy] at h1; simp at h1
    · rw [if_neg hxy] at h1
      by_cases hyz : y.toNat < z.toNat
      · rw [if_pos hyz] at h2; simp at h2
      · rw [if_neg hyz] at h2
        rw [if_neg (by omega)]
        by_cases hzx : z.toNat < x.toNat
        · rw [if_pos hzx]
        · rw [if_neg hzx]
          rw [if_neg (by omega)] at h1 h2
          exact ih h1 h2
theorem bytes_ord : Ord3 (List UInt8) compareBytes where
  three a b := (less_cmp a b).2.2
  anti := compareBytes_anti
  eq a b h := (less_cmp a b).2.1.2 h
  trans := compareBytes_trans
/-- The order of what is told first, then by the next. -/
theorem lex_ord {α β : Type} {f : α → α → Int} {g : β → β → Int} (hf : Ord3 α f) (hg : Ord3 β g) : Ord3 (α × β) (fun x y => if f x.1 y.1 = 0 then g x.2 y.2 else f x.1 y.1) where
  three a b := by
    have := hf.three a.1 b.1
    have := hg.three a.2 b.2
    split <;> assumption
  anti a b := by
    have h1 := hf.anti a.1 b.1
    have h2 := hg.anti a.2 b.2
    by_cases h : f a.1 b.1 = 0
    · rw [if_pos h, if_pos (by omega)]; exact h2
    · rw [if_neg h, if_neg (by omega)]; exact h1
  eq a b h := by
    split at h
    · rename_i h0
      exact Prod.ext (hf.eq _ _ h0) (hg.eq _ _ h)
    · rename_i h0
      exact absurd h h0
  trans a b c h1 h2 := by
    split at h1
    · rename_i e1
      have e1' := hf.eq _ _ e1
      split at h2
      · rename_i e2
        rw [e1', if_pos e2]
        exact hg.trans _ _ _ h1 h2
      · rename_i e2
        rw [e1', if_neg e2]
        exact h2
    · rename_i e1
      split at h2
      · rename_i e2
        have e2' := hf.eq _ _ e2
        rw [← e2', if_neg e1]
        exact h1
      · have := hf.trans _ _ _ h1 h2
        rw [this]
        rfl
theorem pull_ord {α β : Type} {f : α → α → Int} (hf : Ord3 α f) (p : β → α) (hp : ∀ x y, p x = p y → x = y) : Ord3 β (fun x y => f (p x) (p y)) where
  three a b := hf.three _ _
  anti a b := hf.anti _ _
  eq a b h := hp _ _ (hf.eq _ _ h)
  trans a b c := hf.trans _ _ _
theorem flagN_inj {a b : Bool} (h : flagN a = flagN b) : a = b := by cases a <;> cases b <;> simp [flagN] at * 
abbrev KeyI : Type := Nat × Bool × Nat × Nat × List UInt8 × Nat × Nat × Nat × List UInt8
def keyI (x : Ins) : KeyI := (x.seq, x.gone, x.born, x.life, x.pub, x.pri, x.wei, x.port, x.tgt)
theorem cmpI_ord : Ord3 Ins cmpI := by
  have hb : Ord3 Bool (fun a b => cmpN (flagN a) (flagN b)) := pull_ord cmpN_ord flagN (fun _ _ => flagN_inj)
  have H := lex_ord cmpN_ord (lex_ord hb (lex_ord cmpN_ord (lex_ord cmpN_ord (lex_ord bytes_ord (lex_ord cmpN_ord (lex_ord cmpN_ord (lex_ord cmpN_ord bytes_ord)))))))
  have H2 := pull_ord H keyI (fun x y h => by
    simp only [keyI, Prod.mk.injEq] at h
    obtain ⟨a, b, c, d, e, f, g, h, i⟩ := h
    exact Ins.same e a c d b f g h i)
  have e : cmpI = fun x y => (fun x y : KeyI => if cmpN x.1 y.1 = 0 then (if cmpN (flagN x.2.1) (flagN y.2.1) = 0 then (if cmpN x.2.2.1 y.2.2.1 = 0 then (if cmpN x.2.2.2.1 y.2.2.2.1 = 0 then (if compareBytes x.2.2.2.2.1 y.2.2.2.2.1 = 0 then (if cmpN x.2.2.2.2.2.1 y.2.2.2.2.2.1 = 0 then (if cmpN x.2.2.2.2.2.2.1 y.2.2.2.2.2.2.1 = 0 then (if cmpN x.2.2.2.2.2.2.2.1 y.2.2.2.2.2.2.2.1 = 0 then compareBytes x.2.2.2.2.2.2.2.2 y.2.2.2.2.2.2.2.2 else cmpN x.2.2.2.2.2.2.2.1 y.2.2.2.2.2.2.2.1) else cmpN x.2.2.2.2.2.2.1 y.2.2.2.2.2.2.1) else cmpN x.2.2.2.2.2.1 y.2.2.2.2.2.1) else compareBytes x.2.2.2.2.1 y.2.2.2.2.1) else cmpN x.2.2.2.1 y.2.2.2.1) else cmpN x.2.2.1 y.2.2.1) else cmpN (flagN x.2.1) (flagN y.2.1)) else cmpN x.1 y.1) (keyI x) (keyI y) := by
    funext x y
    unfold cmpI listI keyI
    simp only [firstZ]
    by_cases hz : compareBytes x.tgt y.tgt = 0
    · rw [if_pos hz, hz]
    · rw [if_neg hz]
  rw [e]
  exact H2
end Go.Proofs.YtkceipkgebgigaaGreat
end
section
namespace Go.Proofs.YtkceipkgebgigaaGreat
open Go.Shelf Go.RowKit Go.Lib Go.Great
set_option maxRecDepth 100000
set_option maxHeartbeats 2000000
theorem cmpP_lt_trans {x y z : Ins} (h1 : cmpP x y < 0) (h2 : cmpP y z < 0) : cmpP x z < 0 := by
  unfold cmpP at *
  have a1 := compareBytes_anti x.pub y.pub
  have a2 := compareBytes_anti y.pub z.pub
  have a3 := compareBytes_anti x.pub z.pub
  have b1 := (less_cmp x.pub y.pub).2.2
  have b2 := (less_cmp y.pub z.pub).2.2
  have := compareBytes_trans z.pub y.pub x.pub (by omega) (by omega)
  omega
/-- In order, by publishers. -/
def SrtP (L : List Ins) : Prop := ∀ i j, i < j → j < L.length → cmpP L[i]! L[j]! < 0
theorem goodR_srt {L : List Ins} (h : goodR L = true) : SrtP L := by
  have hk := ((goodR_iff L).1 h).2
  have hs : ∀ k, k + 1 < L.length → cmpP L[k]! L[k + 1]! < 0 := fun k hk1 => by
    have := hk (k + 1) hk1
    unfold okAt at this
    rw [Bool.and_eq_true, Bool.or_eq_true, decide_eq_true_eq, decide_eq_true_eq] at this
    rcases this.2 with e | e
    · omega
    · simpa using e
  intro i j hij hj
  induction j with
  | zero => omega
  | succ j ih =>
    by_cases e : i = j
    · subst e; exact hs i hj
    · exact cmpP_lt_trans (ih (by omega) (by omega)) (hs j hj)
/-- Where one belongs. -/
structure LowAt (L : List Ins) (x : Ins) (a : Nat) : Prop where
  le : a ≤ L.length
  lt : ∀ q, q < a → cmpP L[q]! x < 0
  ge : ∀ q, a ≤ q → q < L.length → ¬ cmpP L[q]! x < 0
def foundAt (L : List Ins) (x : Ins) (a : Nat) : Bool := decide (a < L.length) && decide (cmpP L[a]! x = 0)
def BsRel (W : World) (L : List Ins) (x : Ins) (i j : Value) (wr : World) : Prop := ∃ a b : Nat, i = .int .i64 (a : Int) ∧ j = .int .i64 (b : Int) ∧ a ≤ b ∧ b ≤ L.length ∧ (∀ q, q < a → cmpP L[q]! x < 0) ∧ (∀ q, b ≤ q → q < L.length → ¬ cmpP L[q]! x < 0) ∧ Below W.heap.size W wr
def BsPost (L : List Ins) (x : Ins) (e : Ending) : Prop := ∃ a : Nat, e = .returned (.tuple #[.int .i64 (a : Int), .bool (foundAt L x a)]) ∧ LowAt L x a
theorem search_any (x : Ins) (A : Option Addr) (c : Nat) (L : List Ins) (w : World) (hL : L.length ≤ 16) (hS : SrtP L) (hA : IAt w w.heap.size A L) :
    Calls Tryz.prog 24 #[.slice A L.length c, .agg (encI x).toArray, .func (.func 25) #[] #[]] w fun e w' => BsPost L x e ∧ Below w.heap.size w w' := by
  obtain ⟨X, hX⟩ : ∃ X, X = (encI x).toArray := ⟨_, rfl⟩
  rw [← hX]
  have hb0 : Below w.heap.size w (w.alloc (.cells X 29)) := (Below.refl _ w).alloc (Nat.le_refl _) _
  obtain ⟨W0, hW0⟩ : ∃ W0, W0 = w.alloc (.cells X 29) := ⟨_, rfl⟩
  have h0 := heap_alloc_new w (.cells X 29)
  rw [← hW0] at hb0 h0
  have HA := Lib.hid ((hA.below hb0).more hb0.size)
  have HB0 := Lib.hid hb0
  have HW := Lib.hid hW0
  have HS := Lib.hid hS
  have HH : Hid (W0.heap[w.heap.size]? = some (.cells (encI x).toArray 29 (0, 0))) := Lib.hid (by rw [← hX]; exact h0)
  have HX := Lib.hid hX
  obtain ⟨n, hn⟩ : ∃ n, n = L.length := ⟨_, rfl⟩
  have R0 : Hid (BsRel W0 L x (.int .i64 0) (.int .i64 (n : Int)) W0) := Lib.hid ⟨0, n, rfl, rfl, by omega, by omega, fun q hq => by omega, fun q hq hy => by omega, Below.refl _ _⟩
  rw [← hn] at hL ⊢
  have HN := Lib.hid hn
  clear hA hX hb0 h0 hW0 hn hS
  go_enter Tryz.func24, Tryz.ntmps24
  go_upto_region 3 with fail
  rw [← HW.out]
  go_loopw [9, 10] (BsRel W0 L x) (fun i j _ => (RowKit.intOf j - RowKit.intOf i).toNat)
  case atStart => exact R0.out
  case round =>
    obtain ⟨a, b, rfl, rfl, hab, hbn, ha, hb2, hb⟩ := hrel
    clear R0
    rw [← HN.out] at hbn
    have HQ1 := Lib.hid ha
    have HQ2 := Lib.hid hb2
    have HB := Lib.hid hb
    clear ha hb2
    by_cases hlt : a < b
    · go_upto_region 5 with fail
      obtain ⟨h, hh⟩ : ∃ h : Nat, h = (a + b) / 2 := ⟨_, rfl⟩
      have he : ((a : Int) + (b : Int)) / 2 = (h : Int) := by omega
      have h1 : a ≤ h := by omega
      have h2 : h < b := by omega
      rw [he]
      clear he hh
      have hhn : h < n := by omega
      rcases HA.out.below hb with e | ⟨g, off, rfl, hg, hr⟩
      · rw [e] at HN; have := HN.out; simp at this; omega
      have HLY : Hid (∀ q : Kept wr.heap.size wr, (loadVar 29 ⟨g, off + h * 28, none⟩).run Tryz.prog q.val = .ok (.agg (encI L[h]!).toArray) q.val) := Lib.hid (fun q => row_load hr (Nat.lt_of_lt_of_le hg hb.size) q.property (by have := HN.out; omega))
      have hgx : w.heap.size < W0.heap.size := (Array.getElem?_eq_some_iff.1 HH.out).1
      have hLX : ∀ q : Kept wr.heap.size wr, (loadVar 29 ⟨w.heap.size, 0, none⟩).run Tryz.prog q.val = .ok (.agg (encI x).toArray) q.val := fun q =>
        load28 (row_range (by rw [q.property.block _ (Nat.lt_of_lt_of_le hgx hb.size), hb.block _ hgx]; exact HH.out))
      have hC := fun W => byp_any L[h]! x W
      rw [← HX.out] at hLX hC
      have HLX := Lib.hid hLX
      have HC := Lib.hid hC
      obtain ⟨cv, hcv⟩ : ∃ cv, cv = cmpP L[h]! x := ⟨_, rfl⟩
      rw [← hcv] at HC
      have HCV := Lib.hid hcv
      generalize (encI L[h]!).toArray = Y at *
      clear hr hg hgx hLX hb hC hcv
      by_cases hc : cv < 0
      · refine wp_region_kept wr.heap.size wr (Below.refl _ _) (by kernel_rfl) (by kernel_rfl) ?_
        repeat (first
          | (go_big_quiet_want; (with_reducible refine quiet_loadV 29 (.tmp 27) rfl _ ?_ _ HLY.out ?_); rfl; simp only [Act.put, List.setIfInBounds_toArray, List.set_cons_zero, List.set_cons_succ]; go_big_quiet_on)
          | (go_big_quiet_want; (with_reducible refine quiet_loadV 29 (.tmp 4) rfl _ ?_ _ HLX.out ?_); rfl; simp only [Act.put, List.setIfInBounds_toArray, List.set_cons_zero, List.set_cons_succ]; go_big_quiet_on)
          | go_big_quiet_step (first | (go_at_call 25; with_reducible exact kept_of (Nat.le_refl _) HC.out _)))
        refine wpQuiet_nil ?_
        rintro wk ⟨⟨_, hwk⟩, rfl⟩
        have HREL : Hid (BsRel W0 L x (.int .i64 ((h : Int) + 1)) (.int .i64 (b : Int)) wk) := Lib.hid ⟨h + 1, b, by go_num, rfl, by omega, by have := HN.out; omega, fun q hq => by
          by_cases e : q = h
          · subst e
            rw [← HCV.out]
            exact hc
          · exact cmpP_lt_trans (HS.out q h (by omega) (by have := HN.out; omega)) (by rw [← HCV.out]; exact hc), HQ2.out, HB.out.trans (hwk.mono HB.out.size)⟩
        clear hwk HLX HLY HQ1 HQ2 HB HC HCV
        go_wp2
        go_roundw
        case rel => exact HREL.out
        case measure => simp [RowKit.intOf]; omega
      · refine wp_region_kept wr.heap.size wr (Below.refl _ _) (by kernel_rfl) (by kernel_rfl) ?_
        repeat (first
          | (go_big_quiet_want; (with_reducible refine quiet_loadV 29 (.tmp 27) rfl _ ?_ _ HLY.out ?_); rfl; simp only [Act.put, List.setIfInBounds_toArray, List.set_cons_zero, List.set_cons_succ]; go_big_quiet_on)
          | (go_big_quiet_want; (with_reducible refine quiet_loadV 29 (.tmp 4) rfl _ ?_ _ HLX.out ?_); rfl; simp only [Act.put, List.setIfInBounds_toArray, List.set_cons_zero, List.set_cons_succ]; go_big_quiet_on)
          | go_big_quiet_step (first | (go_at_call 25; with_reducible exact kept_of (Nat.le_refl _) HC.out _)))
        refine wpQuiet_nil ?_
        rintro wk ⟨⟨_, hwk⟩, rfl⟩
        have HREL : Hid (BsRel W0 L x (.int .i64 (a : Int)) (.int .i64 (h : Int)) wk) := Lib.hid ⟨a, h, rfl, rfl, h1, by have := HN.out; omega, HQ1.out, fun q hq hz hlo => by
          have hno : ¬ cmpP L[h]! x < 0 := by rw [← HCV.out]; exact hc
          by_cases e : q = h
          · subst e
            exact hno hlo
          · exact hno (cmpP_lt_trans (HS.out h q (by omega) hz) hlo), HB.out.trans (hwk.mono HB.out.size)⟩
        clear hwk HLX HLY HQ1 HQ2 HB HC HCV
        go_wp2
        go_roundw
        case rel => exact HREL.out
        case measure => simp [RowKit.intOf]; omega
    · obtain rfl : a = b := by omega
      have HR : Hid (LowAt L x a) := Lib.hid ⟨by have := HN.out; omega, HQ1.out, HQ2.out⟩
      by_cases hat : a < n
      · have hat' : (a : Int) < (n : Int) := by omega
        rcases HA.out.below hb with e | ⟨g, off, rfl, hg, hr⟩
        · rw [e] at HN; have := HN.out; simp at this; omega
        have HLY : Hid (∀ q : Kept wr.heap.size wr, (loadVar 29 ⟨g, off + a * 28, none⟩).run Tryz.prog q.val = .ok (.agg (encI L[a]!).toArray) q.val) := Lib.hid (fun q => row_load hr (Nat.lt_of_lt_of_le hg hb.size) q.property (by have := HN.out; omega))
        have hgx : w.heap.size < W0.heap.size := (Array.getElem?_eq_some_iff.1 HH.out).1
        have hLX : ∀ q : Kept wr.heap.size wr, (loadVar 29 ⟨w.heap.size, 0, none⟩).run Tryz.prog q.val = .ok (.agg (encI x).toArray) q.val := fun q =>
          load28 (row_range (by rw [q.property.block _ (Nat.lt_of_lt_of_le hgx hb.size), hb.block _ hgx]; exact HH.out))
        have hC := fun W => byp_any L[a]! x W
        rw [← HX.out] at hLX hC
        have HLX := Lib.hid hLX
        have HC := Lib.hid hC
        have HFD : Hid (foundAt L x a = decide (cmpP L[a]! x = 0)) := Lib.hid (by unfold foundAt; rw [decide_eq_true (show a < L.length by have := HN.out; omega), Bool.true_and])
        obtain ⟨cv, hcv⟩ : ∃ cv, cv = cmpP L[a]! x := ⟨_, rfl⟩
        rw [← hcv] at HC HFD
        generalize (encI L[a]!).toArray = Y at *
        clear hr hg hgx hLX hb hC hcv
        have hcd : decide (cv = 0) = (cv == 0) := Bool.eq_iff_iff.2 (by simp)
        rw [hcd] at HFD
        clear hcd
        go_upto_region 8 with fail
        refine wp_region_kept wr.heap.size wr (Below.refl _ _) (by kernel_rfl) (by kernel_rfl) ?_
        repeat (first
          | (go_big_quiet_want; (with_reducible refine quiet_loadV 29 (.tmp 43) rfl _ ?_ _ HLY.out ?_); rfl; simp only [Act.put, List.setIfInBounds_toArray, List.set_cons_zero, List.set_cons_succ]; go_big_quiet_on)
          | (go_big_quiet_want; (with_reducible refine quiet_loadV 29 (.tmp 4) rfl _ ?_ _ HLX.out ?_); rfl; simp only [Act.put, List.setIfInBounds_toArray, List.set_cons_zero, List.set_cons_succ]; go_big_quiet_on)
          | go_big_quiet_step (first | (go_at_call 25; with_reducible exact kept_of (Nat.le_refl _) HC.out _)))
        refine wpQuiet_nil ?_
        rintro wk ⟨⟨_, hwk⟩, rfl⟩
        have HF := Lib.hid (HB0.out.trans ((HB.out.trans (hwk.mono HB.out.size)).mono HB0.out.size))
        clear hwk HLX HLY HB HC HQ1 HQ2
        go_wp2
        go_ret2
        exact ⟨⟨a, by rw [HFD.out]; rfl, HR.out⟩, HF.out⟩
      · have hat' : ¬ (a : Int) < (n : Int) := by omega
        have HFD : Hid (foundAt L x a = false) := Lib.hid (by unfold foundAt; rw [decide_eq_false (show ¬ a < L.length by have := HN.out; omega), Bool.false_and])
        clear hb HQ1 HQ2
        go_upto_region 8 with fail
        refine wp_region_kept wr.heap.size wr (Below.refl _ _) (by kernel_rfl) (by kernel_rfl) ?_
        repeat (first | go_big_quiet_step (fail))
        refine wpQuiet_nil ?_
        rintro wk ⟨⟨_, hwk⟩, rfl⟩
        have HF := Lib.hid (HB0.out.trans ((HB.out.trans (hwk.mono HB.out.size)).mono HB0.out.size))
        clear hwk HB
        go_wp2
        go_ret2
        exact ⟨⟨a, by rw [HFD.out]; rfl, HR.out⟩, HF.out⟩
end Go.Proofs.YtkceipkgebgigaaGreat
end
