/- What is read of the bytes of a good instance, and what is read has them; newer is an order: plain. No condition. -/
import Derived.Test.YtkceipkgebgigaaXIiq
import Derived.Test.YtkceipkgebgigaaXIik
import Derived.Test.YtkceipkgebgigaaXIis
import Derived.Test.YtkceipkgebgigaaXIiu
namespace Go.Proofs.Ytkceipkgebgigaa
open Go.Shelf Go.RowKit Go.Lib Go.Great
set_option maxRecDepth 100000
set_option maxHeartbeats 1000000
/-- Three numbers that tell an order: -1, 0 or 1. -/
structure Ord3 (α : Type) (f : α → α → Int) : Prop where
  three : ∀ a b, f a b = -1 ∨ f a b = 0 ∨ f a b = 1
  anti : ∀ a b, f a b = - f b a
  eq : ∀ a b, f a b = 0 → a = b
  trans : ∀ a b c, f a b = 1 → f b c = 1 → f a c = 1
theorem cmpN_ord : Ord3 Nat cmpN where
  three a b := by
    unfold cmpN
    split
    · exact .inl rfl
    · split
      · exact .inr (.inr rfl)
      · exact .inr (.inl rfl)
  anti a b := by unfold cmpN; split <;> split <;> (try split) <;> omega
  eq a b h := by unfold cmpN at h; split at h; simp at h; split at h; simp at h; omega
  trans a b c h1 h2 := by
    unfold cmpN at *
    split at h1 <;> simp at h1
    split at h2 <;> simp at h2
    rw [if_neg (by omega), if_pos (by omega)]
theorem compareBytes_anti : ∀ a b : List UInt8, compareBytes a b = - compareBytes b a
  | [], [] => rfl
  | [], _ :: _ => rfl
  | _ :: _, [] => rfl
  | x :: a, y :: b => by
    have ih := compareBytes_anti a b
    unfold compareBytes
    by_cases hxy : x < y
    · have hyx : ¬ y < x := fun h => by rw [UInt8.lt_iff_toNat_lt] at *; omega
      rw [if_pos hxy, if_neg hyx, if_pos hxy]
    · rw [if_neg hxy]
      by_cases hyx : y < x
      · rw [if_pos hyx, if_pos hyx]; rfl
      · rw [if_neg hyx, if_neg hyx, if_neg hxy]; exact ih
theorem compareBytes_trans : ∀ a b c : List UInt8, compareBytes a b = 1 → compareBytes b c = 1 → compareBytes a c = 1
  | [], [], _, h, _ => absurd h (by simp [compareBytes])
  | [], _ :: _, _, h, _ => absurd h (by simp [compareBytes])
  | _ :: _, [], [], _, h => absurd h (by simp [compareBytes])
  | _ :: _, [], _ :: _, _, h => absurd h (by simp [compareBytes])
  | _ :: _, _ :: _, [], _, _ => rfl
  | x :: a, y :: b, z :: c, h1, h2 => by
    have ih := compareBytes_trans a b c
    simp only [compareBytes, UInt8.lt_iff_toNat_lt] at h1 h2 ⊢
    by_cases hxy : x.toNat < y.toNat
    · rw [if_pos hxy] at h1; simp at h1
    · rw [if_neg hxy] at h1
      by_cases hyz : y.toNat < z.toNat
      · rw [if_pos hyz] at h2; simp at h2
      · rw [if_neg hyz] at h2
        rw [if_neg (by omega)]
        by_cases hzx : z.toNat < x.toNat
        · rw [if_pos hzx]
        · rw [if_neg hzx]
          rw [if_neg (by omega)] at h1 h2
          exact ih h1 h2
theorem bytes_ord : Ord3 (List UInt8) compareBytes where
  three a b := (less_cmp a b).2.2
  anti := compareBytes_anti
  eq a b h := (less_cmp a b).2.1.2 h
  trans := compareBytes_trans
/-- The order of what is told first, then by the next. -/
theorem lex_ord {α β : Type} {f : α → α → Int} {g : β → β → Int} (hf : Ord3 α f) (hg : Ord3 β g) : Ord3 (α × β) (fun x y => if f x.1 y.1 = 0 then g x.2 y.2 else f x.1 y.1) where
  three a b := by
    have := hf.three a.1 b.1
    have := hg.three a.2 b.2
    split <;> assumption
  anti a b := by
    have h1 := hf.anti a.1 b.1
    have h2 := hg.anti a.2 b.2
    by_cases h : f a.1 b.1 = 0
    · rw [if_pos h, if_pos (by omega)]; exact h2
    · rw [if_neg h, if_neg (by omega)]; exact h1
  eq a b h := by
    split at h
    · rename_i h0
      exact Prod.ext (hf.eq _ _ h0) (hg.eq _ _ h)
    · rename_i h0
      exact absurd h h0
  trans a b c h1 h2 := by
    split at h1
    · rename_i e1
      have e1' := hf.eq _ _ e1
      split at h2
      · rename_i e2
        rw [e1', if_pos e2]
        exact hg.trans _ _ _ h1 h2
      · rename_i e2
        rw [e1', if_neg e2]
        exact h2
    · rename_i e1
      split at h2
      · rename_i e2
        have e2' := hf.eq _ _ e2
        rw [← e2', if_neg e1]
        exact h1
      · have := hf.trans _ _ _ h1 h2
        rw [this]
        rfl
theorem pull_ord {α β : Type} {f : α → α → Int} (hf : Ord3 α f) (p : β → α) (hp : ∀ x y, p x = p y → x = y) : Ord3 β (fun x y => f (p x) (p y)) where
  three a b := hf.three _ _
  anti a b := hf.anti _ _
  eq a b h := hp _ _ (hf.eq _ _ h)
  trans a b c := hf.trans _ _ _
theorem flagN_inj {a b : Bool} (h : flagN a = flagN b) : a = b := by cases a <;> cases b <;> simp [flagN] at * 
abbrev KeyI : Type := Nat × Bool × Nat × Nat × List UInt8 × Nat × Nat × Nat × List UInt8
def keyI (x : Ins) : KeyI := (x.seq, x.gone, x.born, x.life, x.pub, x.pri, x.wei, x.port, x.tgt)
theorem cmpI_ord : Ord3 Ins cmpI := by
  have hb : Ord3 Bool (fun a b => cmpN (flagN a) (flagN b)) := pull_ord cmpN_ord flagN (fun _ _ => flagN_inj)
  have H := lex_ord cmpN_ord (lex_ord hb (lex_ord cmpN_ord (lex_ord cmpN_ord (lex_ord bytes_ord (lex_ord cmpN_ord (lex_ord cmpN_ord (lex_ord cmpN_ord bytes_ord)))))))
  have H2 := pull_ord H keyI (fun x y h => by
    simp only [keyI, Prod.mk.injEq] at h
    obtain ⟨a, b, c, d, e, f, g, h, i⟩ := h
    exact Ins.same e a c d b f g h i)
  have e : cmpI = fun x y => (fun x y : KeyI => if cmpN x.1 y.1 = 0 then (if cmpN (flagN x.2.1) (flagN y.2.1) = 0 then (if cmpN x.2.2.1 y.2.2.1 = 0 then (if cmpN x.2.2.2.1 y.2.2.2.1 = 0 then (if compareBytes x.2.2.2.2.1 y.2.2.2.2.1 = 0 then (if cmpN x.2.2.2.2.2.1 y.2.2.2.2.2.1 = 0 then (if cmpN x.2.2.2.2.2.2.1 y.2.2.2.2.2.2.1 = 0 then (if cmpN x.2.2.2.2.2.2.2.1 y.2.2.2.2.2.2.2.1 = 0 then compareBytes x.2.2.2.2.2.2.2.2 y.2.2.2.2.2.2.2.2 else cmpN x.2.2.2.2.2.2.2.1 y.2.2.2.2.2.2.2.1) else cmpN x.2.2.2.2.2.2.1 y.2.2.2.2.2.2.1) else cmpN x.2.2.2.2.2.1 y.2.2.2.2.2.1) else compareBytes x.2.2.2.2.1 y.2.2.2.2.1) else cmpN x.2.2.2.1 y.2.2.2.1) else cmpN x.2.2.1 y.2.2.1) else cmpN (flagN x.2.1) (flagN y.2.1)) else cmpN x.1 y.1) (keyI x) (keyI y) := by
    funext x y
    unfold cmpI listI keyI
    simp only [firstZ]
    by_cases hz : compareBytes x.tgt y.tgt = 0
    · rw [if_pos hz, hz]
    · rw [if_neg hz]
  rw [e]
  exact H2
theorem cmpI_stone {i : Ins} (h : i.seq < 18446744073709551615) : cmpI (stoneI i) i = 1 := by
  have e : (stoneI i).seq = i.seq + 1 := by show plusN i.seq 1 = _; unfold plusN; rw [if_neg (by omega)]
  have h1 : cmpN (i.seq + 1) i.seq = 1 := by unfold cmpN; rw [if_neg (by omega), if_pos (by omega)]
  unfold cmpI listI
  rw [e, firstZ, h1]
  rfl
theorem stone_good {i : Ins} (h : goodI i = true) : goodI (stoneI i) = true := by
  unfold goodI at *
  simp only [Bool.and_eq_true, decide_eq_true_eq] at h ⊢
  refine ⟨h.1, ?_⟩
  rw [if_pos (show (stoneI i).gone = true from rfl), eq_bare _ rfl]
  simp [stoneI]
theorem stone_end (i : Ins) : endI (stoneI i) = endI i := rfl
theorem over_later {i : Ins} {n m : Nat} (h : n < m) (ho : overI i n = true) : overI i m = true := by
  unfold overI at *
  rw [decide_eq_true_eq] at *
  omega
theorem left_pos (i : Ins) (n : Nat) : decide (0 < leftI i n) = aliveI i n := by
  rw [Bool.eq_iff_iff, decide_eq_true_eq]
  unfold leftI
  cases h : aliveI i n
  · simp
  · simp only [if_true, iff_true]
    unfold aliveI overI at h
    simp only [Bool.and_eq_true, decide_eq_true_eq, Bool.not_eq_true', decide_eq_false_iff_not] at h
    omega
end Go.Proofs.Ytkceipkgebgigaa
