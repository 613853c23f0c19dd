/- Contract of strings.Cut at a mark of one byte. Conditions: at most 100,000 bytes. The function that yields the texts between points, and what makes it. Conditions: at most 100,000 bytes. Contract of between, and of Part. Conditions: at most 100,000 bytes. Contract of Part. Conditions: at most 100,000 bytes. Contract of Good of package label. Conditions: at most 100,000 bytes. Contract of Parts of package label. Conditions: at most 100,000 bytes. -/
import Derived.Test.YtehgpnnfjgmiiaaGreatProg
import Derived.Test.YtehgpnnfjgmiiaaGreatXJPWords
import Derived.Deep.QuietTactic
import Derived.Deep.RegionHeld3
import Derived.LoopTactic
import Derived.Deep.Cut
import Derived.RangeFuncNested
import Derived.RangeFuncBound
import Derived.RangeFuncCalls
import Derived.RangeFuncLeaves
import Derived.OwnWalkIn
import Derived.TacticsInMore
import Derived.LoopNIn
import Derived.LoopIn
import Derived.RangeFuncFrom
section
namespace Go.Proofs.YtehgpnnfjgmiiaaGreat
open Go.RowKit Go.Lib Go.Great
set_option maxRecDepth 100000
set_option maxHeartbeats 1000000
theorem bstr_size (s : List UInt8) : (bstr s).size = s.length := by simp [bstr, ByteArray.size]
/-- What Cut tells at a mark. -/
def CutP (r : List UInt8) (c : UInt8) (e : Ending) : Prop := (∃ a b, r = a ++ c :: b ∧ c ∉ a ∧ e = .returned (.tuple #[.string (bstr a), .string (bstr b), .bool true])) ∨ (c ∉ r ∧ e = .returned (.tuple #[.string (bstr r), .string ⟨#[]⟩, .bool false]))
theorem index_facts (r : List UInt8) (c : UInt8) : (Lib.indexByte r c = -1 ∧ c ∉ r) ∨ ∃ k : Nat, Lib.indexByte r c = (k : Int) ∧ k < r.length ∧ r = r.take k ++ c :: r.drop (k + 1) ∧ c ∉ r.take k := by
  have hge := Lib.indexByte_ge r c
  by_cases h : Lib.indexByte r c = -1
  · left
    refine ⟨h, fun hm => ?_⟩
    obtain ⟨k, hk⟩ := List.mem_iff_getElem?.1 hm
    exact Lib.indexByte_none h k hk
  · right
    obtain ⟨k, hk⟩ : ∃ k : Nat, Lib.indexByte r c = (k : Int) := ⟨(Lib.indexByte r c).toNat, by omega⟩
    obtain ⟨h1, h2⟩ := Lib.indexByte_some hk
    obtain ⟨hlt, he⟩ := List.getElem?_eq_some_iff.1 h1
    refine ⟨k, hk, hlt, ?_, fun hm => ?_⟩
    · rw [← he, ← List.drop_eq_getElem_cons hlt, List.take_append_drop]
    · obtain ⟨j, hj⟩ := List.mem_iff_getElem?.1 hm
      rw [List.getElem?_take] at hj
      split at hj
      · exact h2 j (by assumption) hj
      · cases hj
theorem bstr_take (r : List UInt8) (k : Nat) (hk : k ≤ r.length) : (bstr r).extract 0 k = bstr (r.take k) := by
  apply ByteArray.ext
  apply Array.ext'
  simp [bstr, ByteArray.data_extract]
theorem bstr_drop (r : List UInt8) (k : Nat) : (bstr r).extract k r.length = bstr (r.drop k) := by
  apply ByteArray.ext
  apply Array.ext'
  simp [bstr, ByteArray.data_extract]
  exact List.take_of_length_le (by simp)
theorem results_3 {fn : Func} {p q r : Tmp} (h : fn.results = #[.tmp p, .tmp q, .tmp r]) {P : Program} (tmps : Array Value) (w : World) (u v x : Value) (hp : tmps.getD p undef = u) (hq : tmps.getD q undef = v) (hr : tmps.getD r undef = x) : (results fn tmps).run P w = .ok (.tuple #[u, v, x]) w := by
  have hp' : tmps[p]?.getD undef = u := by simpa using hp
  have hq' : tmps[q]?.getD undef = v := by simpa using hq
  have hr' : tmps[r]?.getD undef = x := by simpa using hr
  simp [results, h, hp', hq', hr']
theorem cutS_any (r : List UInt8) (c : UInt8) (hr : r.length ≤ 100000) (w : World) : Calls Tryz.prog 138 #[.string (bstr r), .string ⟨#[c]⟩] w fun e w' => CutP r c e ∧ Below w.heap.size w w' := by
  have HI := Lib.hid (fun W => Tryz.stringslite_Index_one (bstr r) c W)
  have hd : (bstr r).data.toList = r := by simp [bstr]
  rw [hd] at HI
  have hsz := bstr_size r
  have hs1 : (⟨#[c]⟩ : ByteArray).size = 1 := rfl
  rcases index_facts r c with ⟨h1, h2⟩ | ⟨k, h1, h2, h3, h4⟩
  · rw [h1] at HI
    have HM := Lib.hid h2
    clear h1 h2 hd
    go_enter Tryz.func138, Tryz.ntmps138
    go_wp2_with (go_at_call 145; (with_reducible refine (HI.out _).mono ?_); rintro e w1 ⟨rfl, rfl⟩)
    refine bodyPost_ret (v := .tuple #[.string (bstr r), .string ⟨#[]⟩, .bool false]) (results_3 (p := 4) (q := 5) (r := 6) rfl _ _ _ _ _ rfl rfl rfl) rfl ?_
    exact ⟨.inr ⟨HM.out, rfl⟩, Below.refl _ _⟩
  · rw [h1] at HI
    have H3 := Lib.hid h3
    have H4 := Lib.hid h4
    have hkl : (k : Int) ≤ ((bstr r).size : Int) := by omega
    have hkl2 : (k : Int) + 1 ≤ ((bstr r).size : Int) := by omega
    clear h1 h3 h4 hd
    go_enter Tryz.func138, Tryz.ntmps138
    go_upto_region 3 with (go_at_call 145; (with_reducible refine (HI.out _).mono ?_); rintro e w1 ⟨rfl, rfl⟩)
    go_quiet (fail)
    go_wp2
    refine bodyPost_ret (v := .tuple #[.string ((bstr r).extract 0 k), .string ((bstr r).extract (k + 1) r.length), .bool true]) (results_3 (p := 4) (q := 5) (r := 6) rfl _ _ _ _ _ rfl rfl rfl) rfl ?_
    rw [bstr_take r k (by omega), bstr_drop r (k + 1)]
    exact ⟨.inl ⟨_, _, H3.out, H4.out, rfl⟩, below_drewN (Below.refl _ _) _⟩
theorem cut_any (r : List UInt8) (c : UInt8) (hr : r.length ≤ 100000) (w : World) : Calls Tryz.prog 131 #[.string (bstr r), .string ⟨#[c]⟩] w fun e w' => CutP r c e ∧ Below w.heap.size w w' := by
  have HC := Lib.hid (cutS_any r c hr w)
  go_enter Tryz.func131, Tryz.ntmps131
  go_upto_region 1 with fail
  go_wp2_with (go_at_call 138; refine Hid.out ?_)
  refine Lib.hid ?_
  refine HC.out.mono ?_
  rintro e w1 ⟨⟨a, b, h1, h2, rfl⟩ | ⟨h1, rfl⟩, hb1⟩
  · have HP : Hid (CutP r c (.returned (.tuple #[.string (bstr a), .string (bstr b), .bool true]))) := Lib.hid (.inl ⟨a, b, h1, h2, rfl⟩)
    have HB := Lib.hid hb1
    clear h1 h2 hb1 HC
    go_wp2
    refine bodyPost_ret (v := .tuple #[.string (bstr a), .string (bstr b), .bool true]) (results_3 (p := 4) (q := 5) (r := 6) rfl _ _ _ _ _ rfl rfl rfl) rfl ?_
    exact ⟨HP.out, HB.out⟩
  · have HP : Hid (CutP r c (.returned (.tuple #[.string (bstr r), .string ⟨#[]⟩, .bool false]))) := Lib.hid (.inr ⟨h1, rfl⟩)
    have HB := Lib.hid hb1
    clear h1 hb1 HC
    go_wp2
    refine bodyPost_ret (v := .tuple #[.string (bstr r), .string ⟨#[]⟩, .bool false]) (results_3 (p := 4) (q := 5) (r := 6) rfl _ _ _ _ _ rfl rfl rfl) rfl ?_
    exact ⟨HP.out, HB.out⟩
end Go.Proofs.YtehgpnnfjgmiiaaGreat
end
section
namespace Go.Proofs.YtehgpnnfjgmiiaaGreat
open Go.Shelf Go.RowKit Go.Lib Go.Great
set_option maxRecDepth 100000
set_option maxHeartbeats 1000000
theorem below_grown {W W' : World} (h : Below W.heap.size W W') : W.grownBy W' none := ⟨h.os, h.tape, h.output, h.size, fun k hk _ => h.block k hk⟩
def encT (p : List UInt8) : Value := .string (bstr p)
theorem cut_uniq {c : UInt8} : ∀ {a a' b b' : List UInt8}, a ++ c :: b = a' ++ c :: b' → c ∉ a → c ∉ a' → a = a' ∧ b = b'
  | [], [], b, b', h, _, _ => by simpa using h
  | [], y :: a', b, b', h, _, h2 => by
    simp only [List.nil_append, List.cons_append, List.cons.injEq] at h
    exact absurd (by simp [h.1]) h2
  | x :: a, [], b, b', h, h1, _ => by
    simp only [List.nil_append, List.cons_append, List.cons.injEq] at h
    exact absurd (by simp [h.1]) h1
  | x :: a, y :: a', b, b', h, h1, h2 => by
    simp only [List.cons_append, List.cons.injEq] at h
    obtain ⟨e1, e2⟩ := cut_uniq h.2 (fun hm => h1 (by simp [hm])) (fun hm => h2 (by simp [hm]))
    exact ⟨by rw [h.1, e1], e2⟩
theorem cut_hit {n : Nat} (a b : List UInt8) (ha : (46 : UInt8) ∉ a) (hr : (a ++ 46 :: b).length ≤ 100000) (w : World) : CallsIn Fence.wide n Tryz.prog 131 #[.string (bstr (a ++ 46 :: b)), .string ⟨#[46]⟩] w fun e w' => e = .returned (.tuple #[.string (bstr a), .string (bstr b), .bool true]) ∧ Below w.heap.size w w' := by
  refine callsIn_wide.2 ((cut_any _ 46 hr w).mono ?_)
  rintro e w' ⟨⟨a', b', h1, h2, rfl⟩ | ⟨h1, rfl⟩, hb⟩
  · obtain ⟨rfl, rfl⟩ := cut_uniq h1 ha h2
    exact ⟨rfl, hb⟩
  · exact absurd (by simp) h1
theorem cut_miss {n : Nat} (r : List UInt8) (ha : (46 : UInt8) ∉ r) (hr : r.length ≤ 100000) (w : World) : CallsIn Fence.wide n Tryz.prog 131 #[.string (bstr r), .string ⟨#[46]⟩] w fun e w' => e = .returned (.tuple #[.string (bstr r), .string ⟨#[]⟩, .bool false]) ∧ Below w.heap.size w w' := by
  refine callsIn_wide.2 ((cut_any _ 46 hr w).mono ?_)
  rintro e w' ⟨⟨a', b', rfl, h2, rfl⟩ | ⟨h1, rfl⟩, hb⟩
  · exact absurd (by simp) ha
  · exact ⟨rfl, hb⟩
/-- Where the closure's loop stands. -/
def BtwR (s : List UInt8) (J : List (List UInt8) → World → Prop) (re mo : Value) (wr : World) : Prop :=
  (∃ pre r, re = .string (bstr r) ∧ mo = .bool true ∧ pre ++ splitD r = splitD s ∧ r.length ≤ s.length ∧ J pre wr) ∨ (∃ r, re = .string (bstr r) ∧ mo = .bool false ∧ J (splitD s) wr)
def btwM (re mo : Value) : Nat := match re, mo with
  | .string b, .bool true => b.size + 1
  | _, _ => 0
theorem btw_stops (n : Nat) (hn : 2 ≤ n) (s : List UInt8) (hs : s.length ≤ 100000) (Bs : Nat) (w : World) (hBs : Bs < w.heap.size) (hc : w.cell? ⟨Bs, 0, none⟩ = some (.string (bstr s))) :
    SeqStops Fence.wide n Tryz.prog 130 #[.pointer (some ⟨Bs, 0, none⟩)] encT (fun xs => xs = splitD s) (fun pre => pre <+: splitD s) (splitD s).length w := fun l J Jx W hW hJ hJx hY h0 => by
  have hcW := (hW.cell (p := ⟨Bs, 0, none⟩) hBs).trans hc
  have R0 : Hid (BtwR s J (.string (bstr s)) (.bool true) W) := Lib.hid (.inl ⟨[], s, rfl, rfl, rfl, Nat.le_refl _, h0⟩)
  have HY := Lib.hid hY
  have HJ := Lib.hid hJ
  have HJX := Lib.hid hJx
  have HS := Lib.hid hs
  clear hY hJ hJx hs h0
  refine callsIn_of_wp Tryz.func130 rfl trivial ?_ rfl
  simp only [Tryz.ntmps130, List.size_toArray, List.length_cons, List.length_nil, Nat.reduceAdd, Nat.reduceSub, Array.replicate_succ, Array.replicate_zero, List.push_toArray, List.append_toArray, List.nil_append, List.cons_append]
  gi_wp2
  gi_loopw [3, 4] (BtwR s J) (fun re mo _ => btwM re mo)
  case atStart => exact R0.out
  case round =>
    rcases hrel with ⟨pre, r, rfl, rfl, hp, hr, hJw⟩ | ⟨r, rfl, rfl, hJw⟩
    · have hsr := HS.out
      have hlen : pre.length < (splitD s).length := by rw [← hp, List.length_append]; have := splitD_pos r; omega
      have HP := Lib.hid hp
      have HR := Lib.hid hr
      have hn1 : 1 ≤ n := by omega
      clear R0
      rcases index_facts r 46 with ⟨_, hno⟩ | ⟨k, _, _, hk, hno⟩
      · have HC := Lib.hid (cut_miss (n := n - 1) r hno (by omega) wr)
        have HJ2 : Hid (∀ w1, Below wr.heap.size wr w1 → J pre w1) := Lib.hid (fun w1 hb => HJ.out _ _ _ _ hJw (below_grown hb) (fun r e => by cases e))
        have HE : Hid (pre ++ [r] = splitD s) := Lib.hid (by rw [← hp, splitD_none r (fun c hc e => hno (e ▸ hc))])
        clear hno hp hr hJw HP HR
        gi_wp2_with (refine ⟨trivial, ?_⟩; gi_at_call 131; (with_reducible refine HC.out.mono ?_); rintro e w1 ⟨rfl, hb1⟩; have hj1 := HJ2.out _ hb1; obtain ⟨fn, tmps, assign, body, hy, hR⟩ := HY.out pre r w1 hj1 hlen; dsimp only [encT] at hy)
        refine hR.mono ?_
        rintro e W3 (⟨rfl, hJ3, hk3⟩ | ⟨rfl, hJx3⟩)
        · gi_wp2
          go_roundw
          case rel => exact .inr ⟨[], rfl, rfl, HE.out ▸ hJ3⟩
          case measure => simp [btwM]
        · gi_wp2
          refine bodyPost_ret (results_none rfl _ _ _) rfl ?_
          exact ⟨⟨_, rfl⟩, .inr ⟨pre ++ [r], by rw [HE.out]; exact List.prefix_refl _, hJx3⟩⟩
      · obtain ⟨a, ha⟩ : ∃ a, r.take k = a := ⟨_, rfl⟩
        obtain ⟨b, hb⟩ : ∃ b, r.drop (k + 1) = b := ⟨_, rfl⟩
        rw [ha, hb] at hk
        rw [ha] at hno
        subst hk
        have HC := Lib.hid (cut_hit (n := n - 1) a b hno (by omega) wr)
        have HJ2 : Hid (∀ w1, Below wr.heap.size wr w1 → J pre w1) := Lib.hid (fun w1 hb => HJ.out _ _ _ _ hJw (below_grown hb) (fun r e => by cases e))
        have HE : Hid ((pre ++ [a]) ++ splitD b = splitD s) := Lib.hid (by rw [← hp, splitD_dot a b (fun c hc e => hno (e ▸ hc))]; simp)
        have HL : Hid (b.length ≤ s.length ∧ b.length < (a ++ 46 :: b).length) := Lib.hid (by simp at hr ⊢; omega)
        clear hno hp hr hJw HP HR ha hb
        generalize a ++ 46 :: b = r at HC HL ⊢
        gi_wp2_with (refine ⟨trivial, ?_⟩; gi_at_call 131; (with_reducible refine HC.out.mono ?_); rintro e w1 ⟨rfl, hb1⟩; have hj1 := HJ2.out _ hb1; obtain ⟨fn, tmps, assign, body, hy, hR⟩ := HY.out pre a w1 hj1 hlen; dsimp only [encT] at hy)
        refine hR.mono ?_
        rintro e W3 (⟨rfl, hJ3, hk3⟩ | ⟨rfl, hJx3⟩)
        · gi_wp2
          go_roundw
          case rel => exact .inl ⟨pre ++ [a], b, rfl, rfl, HE.out, HL.out.1, hJ3⟩
          case measure => simp only [btwM, bstr_size]; have := HL.out.2; omega
        · gi_wp2
          refine bodyPost_ret (results_none rfl _ _ _) rfl ?_
          exact ⟨⟨_, rfl⟩, .inr ⟨pre ++ [a], ⟨splitD b, HE.out⟩, hJx3⟩⟩
    · clear R0
      gi_wp2
      go_end0
      exact ⟨⟨_, rfl⟩, .inl ⟨splitD s, rfl, hJw⟩⟩
end Go.Proofs.YtehgpnnfjgmiiaaGreat
end
section
namespace Go.Proofs.YtehgpnnfjgmiiaaGreat
open Go.Shelf Go.RowKit Go.Lib Go.Great
set_option maxRecDepth 100000
set_option maxHeartbeats 1000000
theorem btw_any (s : List UInt8) (w : World) : Calls Tryz.prog 120 #[.string (bstr s)] w fun e w' => e = .returned (.func (.func 130) #[] #[.pointer (some ⟨w.heap.size, 0, none⟩)]) ∧ w' = w.alloc (.cells #[.string (bstr s)] 9) := by
  go_enter Tryz.func120, Tryz.ntmps120
  go_wp2
  go_ret
  exact ⟨rfl, rfl⟩
theorem bstr_empty (s : List UInt8) : (bstr s).toList.isEmpty = decide (s.length = 0) := by
  rw [← decide_eq_emptyBytes]
  by_cases h : s.length = 0
  · obtain rfl := List.length_eq_zero_iff.1 h
    rfl
  · rw [decide_eq_false h, decide_eq_false]
    intro e
    have := congrArg ByteArray.size e
    rw [bstr_size] at this
    exact h this
theorem part_long (s : List UInt8) (h : s.length = 0 ∨ 63 < s.length) (w : World) : Calls Tryz.prog 121 #[.string (bstr s)] w fun e w' => e = .returned (.bool false) ∧ Below w.heap.size w w' := by
  have hsz := bstr_size s
  have he := bstr_empty s
  rcases h with h | h
  · rw [decide_eq_true h] at he
    generalize bstr s = B at *
    clear hsz h
    go_enter Tryz.func121, Tryz.ntmps121
    go_wp2
    go_ret
    exact ⟨rfl, Below.refl _ _⟩
  · rw [decide_eq_false (by omega)] at he
    have hgt : (63 : Int) < ((bstr s).size : Int) := by omega
    generalize bstr s = B at *
    clear hsz h
    go_enter Tryz.func121, Tryz.ntmps121
    go_wp2
    go_ret
    exact ⟨rfl, Below.refl _ _⟩
/-- The bytes ahead of a place fit. -/
def fitsTo (s : List UInt8) (i : Nat) : Prop := ∀ j, j < i → fitsB s[j]! (decide (j = 0) || decide (j = s.length - 1)) = true
def PartR (s : List UInt8) (B : Nat) (w : World) (i : Value) (wr : World) : Prop := ∃ k : Nat, i = .int .i64 (k : Int) ∧ k ≤ s.length ∧ fitsTo s k ∧ Below B w wr
theorem bstr_get (s : List UInt8) (k : Nat) (hk : k < (bstr s).size) : (bstr s)[k] = s[k]! := by
  have : k < s.length := by rw [← bstr_size s]; exact hk
  simp [bstr, ByteArray.getElem_eq_getElem_data, this]
theorem part_short (s : List UInt8) (h1 : 1 ≤ s.length) (h2 : s.length ≤ 63) (w : World) : Calls Tryz.prog 121 #[.string (bstr s)] w fun e w' => (∃ b, e = .returned (.bool b) ∧ (b = true ↔ fitsTo s s.length)) ∧ Below w.heap.size w w' := by
  have hsz := bstr_size s
  have he := bstr_empty s
  rw [decide_eq_false (by omega)] at he
  have HB := Lib.hid (bstr_get s)
  have R0 : Hid (PartR s w.heap.size w (.int .i64 0) w) := Lib.hid ⟨0, rfl, by omega, fun j hj => absurd hj (by omega), Below.refl _ _⟩
  obtain ⟨n, hn⟩ : ∃ n, n = s.length := ⟨_, rfl⟩
  rw [← hn] at hsz h1 h2 ⊢
  have HN := Lib.hid hn
  clear hn
  generalize bstr s = B at *
  have hgt : ¬ (63 : Int) < (n : Int) := by omega
  go_enter Tryz.func121, Tryz.ntmps121
  go_upto_region 4 with fail
  go_loopw [13] (PartR s w.heap.size w) (fun i _ => n - (RowKit.intOf i).toNat)
  case atStart => exact R0.out
  case round =>
    obtain ⟨k, rfl, hk, hF, hb⟩ := hrel
    rw [← HN.out] at hk
    clear R0
    have HF := Lib.hid hF
    have HBW := Lib.hid hb
    clear hF hb
    by_cases hlt : k < n
    · have hlt' : (k : Int) < (n : Int) := by omega
      have hget := HB.out k (by omega)
      have hbyte := B[k].toNat_lt
      obtain ⟨q, hq⟩ : ∃ q, q = (decide (k = 0) || decide (k = n - 1)) := ⟨_, rfl⟩
      have HFI := Lib.hid (fun W => fits_any s[k]! q W)
      have HNEXT : Hid (fitsB s[k]! q = true → PartR s w.heap.size w (.int .i64 ((k : Int) + 1)) wr) := Lib.hid (fun h => ⟨k + 1, by simp, by rw [← HN.out]; omega, fun j hj => by
        by_cases e : j = k
        · subst e
          rw [← HN.out, ← hq]
          exact h
        · exact HF.out j (by omega), HBW.out⟩)
      have HSTOP : Hid (fitsB s[k]! q = false → ¬ fitsTo s n) := Lib.hid (fun h hf => by
        have := hf k hlt
        rw [← HN.out, ← hq, h] at this
        cases this)
      clear HB HF hbyte
      generalize s[k]! = ch at *
      generalize fitsB ch q = r at *
      by_cases k0 : k = 0
      · subst k0
        obtain rfl : q = true := by simpa using hq
        clear hq
        cases r
        · go_wp2_with (go_at_call 132; (with_reducible refine (HFI.out _).mono ?_); rintro e w1 ⟨rfl, rfl⟩)
          go_ret
          exact ⟨⟨false, rfl, fun h => (by cases h), fun h => absurd h (HSTOP.out (by trivial))⟩, HBW.out⟩
        · go_wp2_with (go_at_call 132; (with_reducible refine (HFI.out _).mono ?_); rintro e w1 ⟨rfl, rfl⟩)
          go_roundw
          case rel => exact HNEXT.out (by trivial)
          case measure => simp [RowKit.intOf]; omega
      · have k0' : ((k : Int) == 0) = false := by simp; omega
        by_cases kn : k = n - 1
        · obtain rfl : q = true := by simpa [kn] using hq
          clear hq
          have kn' : ((k : Int) == (n : Int) - 1) = true := by simp; omega
          clear kn
          cases r
          · go_wp2_with (go_at_call 132; (with_reducible refine (HFI.out _).mono ?_); rintro e w1 ⟨rfl, rfl⟩)
            go_ret
            exact ⟨⟨false, rfl, fun h => (by cases h), fun h => absurd h (HSTOP.out (by trivial))⟩, HBW.out⟩
          · go_wp2_with (go_at_call 132; (with_reducible refine (HFI.out _).mono ?_); rintro e w1 ⟨rfl, rfl⟩)
            go_roundw
            case rel => exact HNEXT.out (by trivial)
            case measure => simp [RowKit.intOf]; omega
        · have kn' : ((k : Int) == (n : Int) - 1) = false := by simp; omega
          obtain rfl : q = false := by simpa [k0, kn] using hq
          clear hq kn
          cases r
          · go_wp2_with (go_at_call 132; go_loud ((with_reducible refine (HFI.out _).mono ?_); rintro e w1 ⟨rfl, rfl⟩))
            go_ret
            exact ⟨⟨false, rfl, fun h => (by cases h), fun h => absurd h (HSTOP.out (by trivial))⟩, HBW.out⟩
          · go_wp2_with (go_at_call 132; (with_reducible refine (HFI.out _).mono ?_); rintro e w1 ⟨rfl, rfl⟩)
            go_roundw
            case rel => exact HNEXT.out (by trivial)
            case measure => simp [RowKit.intOf]; omega
    · obtain rfl : k = n := by omega
      have HT : Hid (fitsTo s k) := HF
      clear HF HB
      go_wp2
      go_ret
      exact ⟨⟨true, rfl, fun _ => HT.out, fun _ => rfl⟩, HBW.out⟩
end Go.Proofs.YtehgpnnfjgmiiaaGreat
end
section
namespace Go.Proofs.YtehgpnnfjgmiiaaGreat
open Go.Shelf Go.RowKit Go.Lib Go.Great
set_option maxRecDepth 100000
set_option maxHeartbeats 1000000
theorem fitsB_iff (c : UInt8) (b : Bool) : fitsB c b = true ↔ nameB c = true ∧ (c = 45 → b = false) := by
  have hc : (c = 45) ↔ c.toNat = 45 := ⟨fun h => by rw [h]; rfl, fun h => UInt8.toNat_inj.1 (by rw [h]; rfl)⟩
  rw [hc]
  unfold fitsB nameB letB capB digitB
  by_cases h : c.toNat = 45
  · rw [if_pos h]
    simp [h]
  · rw [if_neg h]
    simp only [Bool.or_eq_true, Bool.and_eq_true, decide_eq_true_iff, beq_iff_eq]
    omega
theorem fits_part (s : List UInt8) (h1 : 1 ≤ s.length) (h2 : s.length ≤ 63) : fitsTo s s.length ↔ partL s = true := by
  rw [partL_iff]
  constructor
  · intro h
    refine ⟨⟨h1, h2⟩, fun c hc => ?_, ?_, ?_⟩
    · obtain ⟨i, hi, rfl⟩ := List.mem_iff_getElem.1 hc
      have := ((fitsB_iff _ _).1 (h i hi)).1
      rwa [getElem!_pos s i hi] at this
    · intro e
      have := ((fitsB_iff _ _).1 (h 0 (by omega))).2 e
      simp at this
    · intro e
      have := ((fitsB_iff _ _).1 (h (s.length - 1) (by omega))).2 e
      simp at this
  · rintro ⟨_, h3, h4, h5⟩ j hj
    refine (fitsB_iff _ _).2 ⟨by rw [getElem!_pos s j hj]; exact h3 _ (List.getElem_mem hj), fun e => ?_⟩
    rw [Bool.or_eq_false_iff, decide_eq_false_iff_not, decide_eq_false_iff_not]
    exact ⟨fun e0 => h4 (e0 ▸ e), fun e0 => h5 (e0 ▸ e)⟩
theorem part_any (s : List UInt8) (w : World) : Calls Tryz.prog 121 #[.string (bstr s)] w fun e w' => e = .returned (.bool (partL s)) ∧ Below w.heap.size w w' := by
  by_cases h : s.length = 0 ∨ 63 < s.length
  · have : partL s = false := by
      rw [← Bool.not_eq_true, partL_iff]
      omega
    rw [this]
    exact part_long s h w
  · refine (part_short s (by omega) (by omega) w).mono ?_
    rintro e w' ⟨⟨b, rfl, hb⟩, hw⟩
    refine ⟨?_, hw⟩
    rw [Bool.eq_iff_iff.2 (hb.trans (fits_part s (by omega) (by omega)))]
end Go.Proofs.YtehgpnnfjgmiiaaGreat
end
section
namespace Go.Proofs.YtehgpnnfjgmiiaaGreat
open Go.Shelf Go.RowKit Go.Lib Go.Great
set_option maxRecDepth 100000
set_option maxHeartbeats 1000000
theorem cell_new_l (W : World) (v : Value) (t : TypeId) : (W.alloc (.cells #[v] t)).cell? ⟨W.heap.size, 0, none⟩ = some v ∧ (W.alloc (.cells #[v] t)).frozen? ⟨W.heap.size, 0, none⟩ = false :=
  ⟨by simp, by simp⟩
theorem cell_alloc_l {W : World} {a : Addr} {v : Value} (o : Obj) (h : W.cell? a = some v) : (W.alloc o).cell? a = some v := cell_kept h (World.grownBy_alloc W o none) (fun r e => by cases e)
theorem frozen_alloc_l {W : World} {a : Addr} {v : Value} (o : Obj) (h : W.cell? a = some v) (hf : W.frozen? a = false) : (W.alloc o).frozen? a = false := (frozen_kept h (World.grownBy_alloc W o none) (fun r e => by cases e)).trans hf
theorem below_others {W W' : World} (h : Below W.heap.size W W') : KeepsOthers W W' := ⟨h.size, fun k o hk _ => (h.block k (Array.getElem?_eq_some_iff.1 hk).1).trans hk⟩
theorem below_walks {W W' : World} (h : Below W.heap.size W W') : KeepsWalks W W' := ⟨h.size, fun k o hk _ => (h.block k (Array.getElem?_eq_some_iff.1 hk).1).trans hk⟩
theorem good_long (s : List UInt8) (h : 253 < s.length) (w : World) : Calls Tryz.prog 103 #[.string (bstr s)] w fun e w' => e = .returned (.bool false) ∧ Below w.heap.size w w' := by
  have hsz := bstr_size s
  obtain ⟨n, hn⟩ : ∃ n, n = s.length := ⟨_, rfl⟩
  rw [← hn] at hsz h
  have hgt : (253 : Int) < (n : Int) := by omega
  clear hn
  generalize bstr s = B at *
  have HB := Lib.hid ((Below.refl _ w).alloc (Nat.le_refl w.heap.size) (.cells #[.bool false] 4))
  have c0 := cell_new_l w (.bool false) 4
  have HC := Lib.hid c0.1
  go_enter Tryz.func103, Tryz.ntmps103
  go_wp2
  refine bodyPost_ret (v := .bool false) ?_ rfl ⟨rfl, HB.out⟩
  have hc := HC.out
  simp [results, Tryz.f103, go_sem, hc]
theorem good_short (s : List UInt8) (h : s.length ≤ 253) (w : World) : Calls Tryz.prog 103 #[.string (bstr s)] w fun e w' => e = .returned (.bool ((splitD s).all partL)) ∧ Below w.heap.size w w' := by
  have hsz := bstr_size s
  have hgt : ¬ (253 : Int) < (s.length : Int) := by omega
  have HBT := Lib.hid (fun W => btw_any s W)
  refine (callsIn_wide (n := 20)).1 ?_
  refine callsIn_of_wp_marks Tryz.func103 rfl trivial ?_ rfl
  simp only [Tryz.ntmps103, List.size_toArray, List.length_cons, List.length_nil, Nat.reduceAdd, Nat.reduceSub, Array.replicate_succ, Array.replicate_zero, List.push_toArray, List.append_toArray, List.nil_append, List.cons_append]
  gi_wp2_with (refine ⟨trivial, ?_⟩; gi_at_call 120; (with_reducible refine (callsIn_wide.2 (HBT.out _)).mono ?_); rintro e w' ⟨rfl, rfl⟩)
  have c0 := cell_new_l w (.bool false) 4
  have c1 := cell_new_l (w.alloc (.cells #[.bool false] 4)) (.string (bstr s)) 9
  simp only [World.size_alloc] at c1
  have hB0 : Below w.heap.size w ((w.alloc (.cells #[.bool false] 4)).alloc (.cells #[.string (bstr s)] 9)) := ((Below.refl _ w).alloc (Nat.le_refl _) _).alloc (by simp) _
  refine wpIn_rangeFunc_ownF (encs := fun p => #[encT p]) rfl (by omega) (gf := 130) (lb := #[.pointer (some ⟨w.heap.size + 1, 0, none⟩)]) rfl trivial (enters_of Tryz.func130 (by kernel_rfl) rfl)
    (btw_stops (20 - 1) (by omega) s (by omega) (w.heap.size + 1) ((w.alloc (.cells #[.bool false] 4)).alloc (.cells #[.string (bstr s)] 9)) (by simp) c1.1) walksK_t (fun W l o o' hl h1 h2 h3 => walksK_b (w := w) W l o o' (by simp at hl; omega) h1 h2 h3) (Below.refl _ _) (fun _ => rfl)
    (fun pre W => (pre.all partL = true ∧ W.cell? ⟨w.heap.size, 0, none⟩ = some (.bool false) ∧ W.frozen? ⟨w.heap.size, 0, none⟩ = false) ∧ Below w.heap.size w W)
    (fun c pre W => (c = .ret ∧ pre.all partL = false ∧ W.cell? ⟨w.heap.size, 0, none⟩ = some (.bool false)) ∧ Below w.heap.size w W)
    (OwnFrom.and (Own.from (fun s A B row hs hg hr => ⟨hs.1, cell_kept hs.2.1 hg hr, (frozen_kept hs.2.1 hg hr).trans hs.2.2⟩) _) (ownFrom_below (Nat.le_refl _) (by simp; omega)))
    (fun c => OwnFrom.and (Own.from (fun s A B row hs hg hr => ⟨hs.1, hs.2.1, cell_kept hs.2.2 hg hr⟩) _) (ownFrom_below (Nat.le_refl _) (by simp; omega)))
    ⟨⟨rfl, cell_alloc_l _ c0.1, frozen_alloc_l _ c0.1 c0.2⟩, hB0⟩
    (fun x => { tmps := #[.string (bstr s), undef, .pointer (some ⟨w.heap.size, 0, none⟩), encT x, .string (bstr s), .int .i64 s.length, .bool false, .string (bstr s), .func (.func 130) #[] #[.pointer (some ⟨w.heap.size + 1, 0, none⟩)], encT x, undef, undef, undef], defers := [] }) ?assign ?body ?done ?stop
  case assign =>
    intro l x W K hK
    have hsem := Oper.semAt_some l
    unfold encT at hK ⊢
    gi_wp2
    exact hK
  case body =>
    rintro l pre x W ⟨⟨hp, hc, hf⟩, hB⟩ _
    have HPA := Lib.hid (part_any x W)
    have hsem := Oper.semAt_some l
    have c10 : ∀ W1, Below W.heap.size W W1 → W1.cell? ⟨w.heap.size, 0, none⟩ = some (.bool false) ∧ W1.frozen? ⟨w.heap.size, 0, none⟩ = false := fun W1 h1 => ⟨cell_kept hc (below_grown h1) (fun r e => by cases e), (frozen_kept hc (below_grown h1) (fun r e => by cases e)).trans hf⟩
    have HC := Lib.hid c10
    have HBW := Lib.hid hB
    clear c10 hc hf hB
    unfold encT
    cases hx : partL x
    · rw [hx] at HPA
      gi_wp2_with (refine ⟨trivial, ?_⟩; gi_at_call 121; (with_reducible refine (CallsIn.inRound l (callsIn_wide.2 HPA.out)).mono ?_); rintro e w1 ⟨rfl, hb1⟩; obtain ⟨k1, k2⟩ := HC.out _ hb1)
      exact ⟨(below_others hb1).trans (KeepsOthers.setCell _ _ _), ⟨rfl, by simp [hx], World.cell?_setCell_same' _ _ _ (by rw [k1]; rfl)⟩, (HBW.out.trans (hb1.mono HBW.out.size)).setCell (p := ⟨w.heap.size, 0, none⟩) (by simp) _⟩
    · rw [hx] at HPA
      gi_wp2_with (refine ⟨trivial, ?_⟩; gi_at_call 121; (with_reducible refine (CallsIn.inRound l (callsIn_wide.2 HPA.out)).mono ?_); rintro e w1 ⟨rfl, hb1⟩; obtain ⟨k1, k2⟩ := HC.out _ hb1)
      exact ⟨below_others hb1, below_walks hb1, ⟨by simp [hx, hp], k1, k2⟩, HBW.out.trans (hb1.mono HBW.out.size)⟩
  case done =>
    rintro D ys W hD rfl ⟨⟨hp, hc, hf⟩, hB⟩ hK
    gi_wp2
    have hK' := (KeepsOthers.setCell W ⟨w.heap.size, 0, none⟩ (.bool true)).same D _ hK rfl
    refine ⟨by simp, .inl ⟨_, _, rfl, run_takeDeferred hK', ?_⟩⟩
    have hc5 := cell_kept (World.cell?_setCell_same' W ⟨w.heap.size, 0, none⟩ (.bool true) (by rw [hc]; rfl)) (grownBy_putObj' _ D (.deferred none)) (fun r e => by cases e; exact ⟨_, hK', rfl⟩)
    refine ⟨.bool true, ?_, by rw [hp], (hB.setCell (p := ⟨w.heap.size, 0, none⟩) (by simp) _).trans (belowK_b (w := w) (Nat.le_refl _) _ D _ _ (by simp at hD; omega) hK' rfl rfl)⟩
    simp [results, Tryz.f103, go_sem, hc5]
  case stop =>
    rintro D c pre W hD hpre ⟨⟨rfl, hp, hc⟩, hB⟩ hK
    gi_wp2
    refine ⟨by simp, .inl ⟨_, _, rfl, run_takeDeferred hK, ?_⟩⟩
    have hc5 := cell_kept hc (grownBy_putObj' _ D (.deferred none)) (fun r e => by cases e; exact ⟨_, hK, rfl⟩)
    refine ⟨.bool false, ?_, ?_, hB.trans (belowK_b (w := w) (Nat.le_refl _) W D _ _ (by simp at hD; omega) hK rfl rfl)⟩
    · simp [results, Tryz.f103, go_sem, hc5]
    · have : (splitD s).all partL = false := by
        obtain ⟨t, ht⟩ := hpre
        rw [← ht, List.all_append, hp, Bool.false_and]
      rw [this]
end Go.Proofs.YtehgpnnfjgmiiaaGreat
end
section
namespace Go.Proofs.YtehgpnnfjgmiiaaGreat
open Go.Shelf Go.RowKit Go.Lib Go.Great
set_option maxRecDepth 100000
set_option maxHeartbeats 1000000
/-- A slice of texts of its own. -/
def OwnT (B : Nat) (v : Value) (L : List (List UInt8)) (w : World) : Prop := w.ownsRow B 9 1 v L.length (L.map encT)
end Go.Proofs.YtehgpnnfjgmiiaaGreat
end
