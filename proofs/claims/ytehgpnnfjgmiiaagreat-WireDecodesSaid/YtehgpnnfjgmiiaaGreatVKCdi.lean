/- Contacts in blocks of their own: making one, storing into it. No condition. What an instance's functions answer, plain; End, Over, Alive, Left, flag, plus, bare, of the program. No condition. Names and their parts: plain: splitting at points, joining, good parts and names, folding. No condition. Contracts of isCapital, isLetter, isDigit, fits of package label. No condition. DERIVED: THE SHELF's CONTRACTS AT THIS DUMP, IN PLAIN WORDS (tools/lay-plain.mjs out of 'YtjShelfSrc.lean', which tools/lay-shelf.mjs wrote): THE SAME DECLARATIONS UNDER THE SAME NAMES: 'import', 'namespace', 'open', 'def', 'theorem' AND NOTHING ELSE: no command of the shelf's: FOR A HAND-IN. Each laying: the table of numbers ('.._ren') and one theorem, a field a fact of the dump's own or the kernel's comparison; each contract: ONE APPLICATION. Contract of strings.Cut at a mark of one byte. Conditions: at most 100,000 bytes. The function that yields the texts between points, and what makes it. Conditions: at most 100,000 bytes. -/
import Derived.Test.YtehgpnnfjgmiiaaGreatProg
import Derived.Test.YtehgpnnfjgmiiaaGreatVJPWords
import Derived.RegionTactic
import Derived.RegionCalls
import Derived.WalkKit
import Derived.Deep.RegionHeld3
import Derived.Deep.QuietTactic
import Derived.BigQuiet
import Derived.Test.YtehgpnnfjgmiiaaGreatVIia
import Derived.Lib.Join
import Derived.StillTailTactics
import Derived.Great.BuildSlice
import Derived.Shelf.Abstract
import Derived.Shelf.SlGeneric
import Derived.Shelf.Strings.Search1
import Derived.Shelf.Strings.Search2
import Derived.Ground.GgzProg
import Derived.LoopTactic
import Derived.Deep.Cut
import Derived.RangeFuncNested
import Derived.RangeFuncBound
import Derived.RangeFuncCalls
import Derived.RangeFuncLeaves
import Derived.OwnWalkIn
import Derived.TacticsInMore
import Derived.LoopNIn
import Derived.LoopIn
section
namespace Go.Proofs.YtehgpnnfjgmiiaaGreat
open Go.Shelf Go.RowKit Go.Lib Go.Sort Go.Great
set_option maxRecDepth 100000
set_option maxHeartbeats 1000000
theorem setCells_top (w : World) (ty : TypeId) : ∀ (vs pre rest : List Value), vs.length ≤ rest.length → (w.alloc (.cells (pre ++ rest).toArray ty)).setCells w.heap.size pre.length vs = w.alloc (.cells (pre ++ vs ++ rest.drop vs.length).toArray ty) := by
  intro vs
  induction vs with
  | nil => intro pre rest _; simp [World.setCells]
  | cons v vs ih =>
    intro pre rest h
    cases rest with
    | nil => simp at h
    | cons r rest =>
      rw [World.setCells, World.setCell_alloc_new]
      have e : (pre ++ r :: rest).toArray.setIfInBounds pre.length v = (pre ++ [v] ++ rest).toArray := by
        rw [List.setIfInBounds_toArray, List.set_append_right _ _ (Nat.le_refl _), Nat.sub_self, List.set_cons_zero, List.append_assoc]
        rfl
      rw [e]
      have := ih (pre ++ [v]) rest (by simpa using h)
      rw [List.length_append, List.length_singleton] at this
      rw [this]
      simp
theorem setCells_all (w : World) (ty : TypeId) (Z vs : List Value) (h : vs.length = Z.length) : (w.alloc (.cells Z.toArray ty)).setCells w.heap.size 0 vs = w.alloc (.cells vs.toArray ty) := by
  have := setCells_top w ty vs [] Z (by omega)
  simp only [List.nil_append, List.length_nil] at this
  rw [this, List.drop_of_length_le (by omega), List.append_nil]
theorem there_new (w : World) (ty : TypeId) (Z : List Value) : (w.alloc (.cells Z.toArray ty)).there w.heap.size 0 Z.length := fun j hj => by
  have h := heap_alloc_new w (.cells Z.toArray ty)
  refine ⟨?_, frozen_of_row _ _ _ _ _ h⟩
  rw [Nat.zero_add, cell_of_row _ _ j _ ty (0, 0) h, List.getElem?_toArray, List.getElem?_eq_getElem hj]
  rfl
end Go.Proofs.YtehgpnnfjgmiiaaGreat
end
section
namespace Go.Proofs.YtehgpnnfjgmiiaaGreat
open Go.Shelf Go.RowKit Go.Lib Go.Great
set_option maxRecDepth 100000
set_option maxHeartbeats 1000000
def bareI (i : Ins) : Ins := ⟨i.pub, i.seq, i.born, i.life, true, 0, 0, 0, [], i.hp, i.hs, i.hb, i.hl, by omega, by omega, by omega⟩
def flagN (b : Bool) : Nat := if b then 1 else 0
theorem flag_any (b : Bool) (w : World) : Calls Tryz.prog 101 #[.bool b] w fun e w' => e = .returned (.int .u64 (flagN b : Int)) ∧ w' = w := by
  cases b
  · go_enter Tryz.func101, Tryz.ntmps101
    go_wp2
    go_ret
    exact ⟨rfl, rfl⟩
  · go_enter Tryz.func101, Tryz.ntmps101
    go_wp2
    go_ret
    exact ⟨rfl, rfl⟩
end Go.Proofs.YtehgpnnfjgmiiaaGreat
end
section
namespace Go.Proofs.YtehgpnnfjgmiiaaGreat
open Go.Lib
set_option maxRecDepth 100000
/-- The texts between points. -/
def splitD : List UInt8 → List (List UInt8)
  | [] => [[]]
  | c :: r => if c = 46 then [] :: splitD r else match splitD r with
    | [] => [[c]]
    | h :: t => (c :: h) :: t
theorem splitD_ne (l : List UInt8) : splitD l ≠ [] := by
  cases l with
  | nil => simp [splitD]
  | cons c r =>
    rw [splitD]
    split
    · simp
    · split <;> simp
theorem splitD_pos (l : List UInt8) : 0 < (splitD l).length := List.length_pos_iff.2 (splitD_ne l)
theorem splitD_none (a : List UInt8) (h : ∀ c ∈ a, c ≠ 46) : splitD a = [a] := by
  induction a with
  | nil => rfl
  | cons c a ih =>
    rw [splitD, if_neg (h c (by simp)), ih (fun x hx => h x (by simp [hx]))]
theorem splitD_dot (a r : List UInt8) (h : ∀ c ∈ a, c ≠ 46) : splitD (a ++ 46 :: r) = a :: splitD r := by
  induction a with
  | nil => rw [List.nil_append, splitD, if_pos rfl]
  | cons c a ih => rw [List.cons_append, splitD, if_neg (h c (by simp)), ih (fun x hx => h x (by simp [hx]))]
/-- Joined by points. -/
def joinD : List (List UInt8) → List UInt8
  | [] => []
  | [x] => x
  | x :: y :: r => x ++ 46 :: joinD (y :: r)
theorem joinD_cons {x : List UInt8} {r : List (List UInt8)} (h : r ≠ []) : joinD (x :: r) = x ++ 46 :: joinD r := by
  cases r with
  | nil => exact absurd rfl h
  | cons y r => rfl
theorem joinD_split (l : List UInt8) : joinD (splitD l) = l := by
  induction l with
  | nil => rfl
  | cons c r ih =>
    rw [splitD]
    split
    · rename_i h
      subst h
      rw [joinD_cons (splitD_ne r), ih]
      rfl
    · split
      · rename_i he
        exact absurd he (splitD_ne r)
      · rename_i h t he
        rw [he] at ih
        cases t with
        | nil => simp only [joinD] at ih ⊢; rw [ih]
        | cons y t => rw [joinD_cons (by simp)] at ih ⊢; rw [← ih]; rfl
theorem splitD_length_le (l : List UInt8) : (splitD l).length ≤ l.length + 1 := by
  induction l with
  | nil => simp [splitD]
  | cons c r ih =>
    rw [splitD]
    split
    · simp; omega
    · split
      · simp
      · rename_i h t he
        rw [he] at ih
        simp at ih ⊢
        omega
/-- How many bytes parts have, with one byte more for each. -/
def sizeD (L : List (List UInt8)) : Nat := (L.map fun p => p.length + 1).sum
theorem sizeD_cons (x : List UInt8) (r : List (List UInt8)) : sizeD (x :: r) = x.length + 1 + sizeD r := by simp [sizeD]
theorem sizeD_append (a b : List (List UInt8)) : sizeD (a ++ b) = sizeD a + sizeD b := by simp [sizeD]
theorem joinD_length : ∀ (L : List (List UInt8)), L ≠ [] → (joinD L).length + 1 = sizeD L
  | [], h => absurd rfl h
  | [x], _ => by simp [joinD, sizeD]
  | x :: y :: r, _ => by
    rw [joinD_cons (by simp), sizeD_cons, ← joinD_length (y :: r) (by simp)]
    simp; omega
theorem sizeD_split (l : List UInt8) : sizeD (splitD l) = l.length + 1 := by rw [← joinD_length _ (splitD_ne l), joinD_split]
/-- A letter, a digit, a hyphen, or a low line. -/
def nameB (c : UInt8) : Bool := (97 ≤ c.toNat && c.toNat ≤ 122) || (65 ≤ c.toNat && c.toNat ≤ 90) || (48 ≤ c.toNat && c.toNat ≤ 57) || c.toNat == 45 || c.toNat == 95
/-- A part. -/
def partL (p : List UInt8) : Bool := decide (1 ≤ p.length ∧ p.length ≤ 63) && p.all nameB && decide (p[0]! ≠ 45 ∧ p[p.length - 1]! ≠ 45)
theorem partL_iff (p : List UInt8) : partL p = true ↔ (1 ≤ p.length ∧ p.length ≤ 63) ∧ (∀ c ∈ p, nameB c = true) ∧ p[0]! ≠ 45 ∧ p[p.length - 1]! ≠ 45 := by
  rw [partL, Bool.and_eq_true, Bool.and_eq_true, decide_eq_true_iff, decide_eq_true_iff, List.all_eq_true, and_assoc]
/-- A name. -/
def goodL (s : List UInt8) : Bool := (splitD s).all partL && decide (s.length ≤ 253)
theorem goodL_iff (s : List UInt8) : goodL s = true ↔ (∀ p ∈ splitD s, partL p = true) ∧ s.length ≤ 253 := by rw [goodL, Bool.and_eq_true, List.all_eq_true, decide_eq_true_iff]
/-- A small letter for a capital. -/
def foldC (c : UInt8) : UInt8 := if 65 ≤ c.toNat ∧ c.toNat ≤ 90 then c + 32 else c
def foldL (s : List UInt8) : List UInt8 := s.map foldC
theorem foldL_length (s : List UInt8) : (foldL s).length = s.length := by simp [foldL]
end Go.Proofs.YtehgpnnfjgmiiaaGreat
end
section
namespace Go.Proofs.YtehgpnnfjgmiiaaGreat
open Go.Shelf Go.RowKit Go.Lib Go.Great
set_option maxRecDepth 100000
set_option maxHeartbeats 1000000
def capB (c : UInt8) : Bool := decide (65 ≤ c.toNat) && decide (c.toNat ≤ 90)
def letB (c : UInt8) : Bool := (decide (97 ≤ c.toNat) && decide (c.toNat ≤ 122)) || capB c
def digitB (c : UInt8) : Bool := decide (48 ≤ c.toNat) && decide (c.toNat ≤ 57)
theorem cap_any (c : UInt8) (w : World) : Calls Tryz.prog 122 #[.int .u8 (c.toNat : Int)] w fun e w' => e = .returned (.bool (capB c)) ∧ w' = w := by
  unfold capB
  generalize c.toNat = n
  by_cases h1 : 65 ≤ n
  · have h1' : (65 : Int) ≤ (n : Int) := by omega
    by_cases h2 : n ≤ 90
    · have h2' : (n : Int) ≤ 90 := by omega
      go_enter Tryz.func122, Tryz.ntmps122
      go_wp2
      go_ret
      simp [h1, h2]
    · have h2' : ¬ (n : Int) ≤ 90 := by omega
      go_enter Tryz.func122, Tryz.ntmps122
      go_wp2
      go_ret
      simp [h2]
  · have h1' : ¬ (65 : Int) ≤ (n : Int) := by omega
    go_enter Tryz.func122, Tryz.ntmps122
    go_wp2
    go_ret
    simp [h1]
theorem digit_any (c : UInt8) (w : World) : Calls Tryz.prog 140 #[.int .u8 (c.toNat : Int)] w fun e w' => e = .returned (.bool (digitB c)) ∧ w' = w := by
  unfold digitB
  generalize c.toNat = n
  by_cases h1 : 48 ≤ n
  · have h1' : (48 : Int) ≤ (n : Int) := by omega
    by_cases h2 : n ≤ 57
    · have h2' : (n : Int) ≤ 57 := by omega
      go_enter Tryz.func140, Tryz.ntmps140
      go_wp2
      go_ret
      simp [h1, h2]
    · have h2' : ¬ (n : Int) ≤ 57 := by omega
      go_enter Tryz.func140, Tryz.ntmps140
      go_wp2
      go_ret
      simp [h2]
  · have h1' : ¬ (48 : Int) ≤ (n : Int) := by omega
    go_enter Tryz.func140, Tryz.ntmps140
    go_wp2
    go_ret
    simp [h1]
theorem let_any (c : UInt8) (w : World) : Calls Tryz.prog 139 #[.int .u8 (c.toNat : Int)] w fun e w' => e = .returned (.bool (letB c)) ∧ w' = w := by
  have HC := Lib.hid (cap_any c w)
  unfold letB
  generalize capB c = q at HC ⊢
  generalize c.toNat = n at HC ⊢
  by_cases h1 : 97 ≤ n
  · have h1' : (97 : Int) ≤ (n : Int) := by omega
    by_cases h2 : n ≤ 122
    · have h2' : (n : Int) ≤ 122 := by omega
      go_enter Tryz.func139, Tryz.ntmps139
      go_wp2
      go_ret
      simp [h1, h2]
    · have h2' : ¬ (n : Int) ≤ 122 := by omega
      go_enter Tryz.func139, Tryz.ntmps139
      go_wp2_with (go_at_call 122; (with_reducible refine HC.out.mono ?_); rintro e w1 ⟨rfl, rfl⟩)
      go_ret
      simp [h2]
  · have h1' : ¬ (97 : Int) ≤ (n : Int) := by omega
    go_enter Tryz.func139, Tryz.ntmps139
    go_wp2_with (go_at_call 122; (with_reducible refine HC.out.mono ?_); rintro e w1 ⟨rfl, rfl⟩)
    go_ret
    simp [h1]
/-- What fits at a place, an end or none. -/
def fitsB (c : UInt8) (atEnd : Bool) : Bool := if c.toNat = 45 then !atEnd else decide (c.toNat = 95) || letB c || digitB c
theorem fits_any (c : UInt8) (b : Bool) (w : World) : Calls Tryz.prog 132 #[.int .u8 (c.toNat : Int), .bool b] w fun e w' => e = .returned (.bool (fitsB c b)) ∧ w' = w := by
  have HL := Lib.hid (let_any c w)
  have HD := Lib.hid (digit_any c w)
  unfold fitsB
  generalize letB c = q at HL ⊢
  generalize digitB c = r at HD ⊢
  generalize c.toNat = n at HL HD ⊢
  by_cases h1 : n = 45
  · subst h1
    cases b
    · go_enter Tryz.func132, Tryz.ntmps132
      go_wp2
      go_ret
      simp
    · go_enter Tryz.func132, Tryz.ntmps132
      go_wp2
      go_ret
      simp
  · have h1' : ¬ (n : Int) = 45 := by omega
    rw [if_neg h1]
    by_cases h2 : n = 95
    · subst h2
      go_enter Tryz.func132, Tryz.ntmps132
      go_wp2
      go_ret
      simp
    · have h2' : ¬ (n : Int) = 95 := by omega
      rw [decide_eq_false h2]
      cases q
      · cases r
        · go_enter Tryz.func132, Tryz.ntmps132
          go_wp2_with (first | (go_at_call 139; (with_reducible refine HL.out.mono ?_); rintro e w1 ⟨rfl, rfl⟩) | (go_at_call 140; (with_reducible refine HD.out.mono ?_); rintro e w1 ⟨rfl, rfl⟩))
          go_ret
          simp
        · go_enter Tryz.func132, Tryz.ntmps132
          go_wp2_with (first | (go_at_call 139; (with_reducible refine HL.out.mono ?_); rintro e w1 ⟨rfl, rfl⟩) | (go_at_call 140; (with_reducible refine HD.out.mono ?_); rintro e w1 ⟨rfl, rfl⟩))
          go_ret
          simp
      · go_enter Tryz.func132, Tryz.ntmps132
        go_wp2_with (first | (go_at_call 139; (with_reducible refine HL.out.mono ?_); rintro e w1 ⟨rfl, rfl⟩) | (go_at_call 140; (with_reducible refine HD.out.mono ?_); rintro e w1 ⟨rfl, rfl⟩))
        go_ret
        simp
end Go.Proofs.YtehgpnnfjgmiiaaGreat
end
section
namespace Go.Proofs
set_option maxRecDepth 100000
open Go.Shelf
def Tryz.lays219_ren : Go.Shelf.Ren := ⟨fun | 219 => 145 | 217 => 148 | 225 => 149 | 224 => 150 | 267 => 151 | 266 => 152 | 314 => 153 | n => n, fun | 9 => 9 | 3 => 3 | 4 => 4 | 5 => 5 | 46 => 85 | 146 => 169 | 51 => 22 | n => n, fun | 1 => 0 | n => n⟩
theorem Tryz.lays219 : Go.Proofs.Lays.n219 Tryz.prog Tryz.lays219_ren := {
  mixed := by kernel_rfl
  f217 := Tryz.func148.trans (congrArg some (by kernel_rfl))
  f219 := Tryz.func145.trans (congrArg some (by kernel_rfl))
  f224 := Tryz.func150.trans (congrArg some (by kernel_rfl))
  f225 := Tryz.func149.trans (congrArg some (by kernel_rfl))
  f266 := Tryz.func152.trans (congrArg some (by kernel_rfl))
  f267 := Tryz.func151.trans (congrArg some (by kernel_rfl))
  f314 := Tryz.func153.trans (congrArg some (by kernel_rfl))
  t3 := Tryz.underlying3
  a3 := Tryz.isAgg3
  z3 := Tryz.sizeOf3
  v3 := Tryz.zeroValue3
  t4 := Tryz.underlying4
  a4 := Tryz.isAgg4
  z4 := Tryz.sizeOf4
  v4 := Tryz.zeroValue4
  t5 := Tryz.underlying5
  a5 := Tryz.isAgg5
  z5 := Tryz.sizeOf5
  v5 := Tryz.zeroValue5
  t9 := Tryz.underlying9
  a9 := Tryz.isAgg9
  z9 := Tryz.sizeOf9
  v9 := Tryz.zeroValue9
  t46 := Tryz.underlying85
  a46 := Tryz.isAgg85
  z46 := Tryz.sizeOf85
  v46 := Tryz.zeroValue85
  t51 := Tryz.underlying22
  a51 := Tryz.isAgg22
  z51 := Tryz.sizeOf22
  v51 := Tryz.zeroValue22
  t146 := Tryz.underlying169
  a146 := Tryz.isAgg169
  z146 := Tryz.sizeOf169
  v146 := Tryz.zeroValue169
  g1 := by kernel_rfl }
open Go.RowKit Go.Lib in
/-- internal/stringslite.Index (what strings.Index calls) AT A substr OF ONE BYTE c: IT RETURNS 'Lib.indexByte s c'; the world is as it was. (LAID: no walk: one application.) -/
theorem Tryz.stringslite_Index_one (s : ByteArray) (c : UInt8) (w : World) :
    Calls Tryz.prog 145 #[.string s, .string ⟨#[c]⟩] w fun e w' => e = .returned (.int .i64 (Lib.indexByte s.data.toList c)) ∧ w' = w := Any.stringslite_Index_one Tryz.lays219 s c w
end Go.Proofs
end
section
namespace Go.Proofs.YtehgpnnfjgmiiaaGreat
open Go.RowKit Go.Lib Go.Great
set_option maxRecDepth 100000
set_option maxHeartbeats 1000000
theorem bstr_size (s : List UInt8) : (bstr s).size = s.length := by simp [bstr, ByteArray.size]
/-- What Cut tells at a mark. -/
def CutP (r : List UInt8) (c : UInt8) (e : Ending) : Prop := (∃ a b, r = a ++ c :: b ∧ c ∉ a ∧ e = .returned (.tuple #[.string (bstr a), .string (bstr b), .bool true])) ∨ (c ∉ r ∧ e = .returned (.tuple #[.string (bstr r), .string ⟨#[]⟩, .bool false]))
theorem index_facts (r : List UInt8) (c : UInt8) : (Lib.indexByte r c = -1 ∧ c ∉ r) ∨ ∃ k : Nat, Lib.indexByte r c = (k : Int) ∧ k < r.length ∧ r = r.take k ++ c :: r.drop (k + 1) ∧ c ∉ r.take k := by
  have hge := Lib.indexByte_ge r c
  by_cases h : Lib.indexByte r c = -1
  · left
    refine ⟨h, fun hm => ?_⟩
    obtain ⟨k, hk⟩ := List.mem_iff_getElem?.1 hm
    exact Lib.indexByte_none h k hk
  · right
    obtain ⟨k, hk⟩ : ∃ k : Nat, Lib.indexByte r c = (k : Int) := ⟨(Lib.indexByte r c).toNat, by omega⟩
    obtain ⟨h1, h2⟩ := Lib.indexByte_some hk
    obtain ⟨hlt, he⟩ := List.getElem?_eq_some_iff.1 h1
    refine ⟨k, hk, hlt, ?_, fun hm => ?_⟩
    · rw [← he, ← List.drop_eq_getElem_cons hlt, List.take_append_drop]
    · obtain ⟨j, hj⟩ := List.mem_iff_getElem?.1 hm
      rw [List.getElem?_take] at hj
      split at hj
      · exact h2 j (by assumption) hj
      · cases hj
theorem bstr_take (r : List UInt8) (k : Nat) (hk : k ≤ r.length) : (bstr r).extract 0 k = bstr (r.take k) := by
  apply ByteArray.ext
  apply Array.ext'
  simp [bstr, ByteArray.data_extract]
theorem bstr_drop (r : List UInt8) (k : Nat) : (bstr r).extract k r.length = bstr (r.drop k) := by
  apply ByteArray.ext
  apply Array.ext'
  simp [bstr, ByteArray.data_extract]
  exact List.take_of_length_le (by simp)
theorem results_3 {fn : Func} {p q r : Tmp} (h : fn.results = #[.tmp p, .tmp q, .tmp r]) {P : Program} (tmps : Array Value) (w : World) (u v x : Value) (hp : tmps.getD p undef = u) (hq : tmps.getD q undef = v) (hr : tmps.getD r undef = x) : (results fn tmps).run P w = .ok (.tuple #[u, v, x]) w := by
  have hp' : tmps[p]?.getD undef = u := by simpa using hp
  have hq' : tmps[q]?.getD undef = v := by simpa using hq
  have hr' : tmps[r]?.getD undef = x := by simpa using hr
  simp [results, h, hp', hq', hr']
theorem cutS_any (r : List UInt8) (c : UInt8) (hr : r.length ≤ 100000) (w : World) : Calls Tryz.prog 138 #[.string (bstr r), .string ⟨#[c]⟩] w fun e w' => CutP r c e ∧ Below w.heap.size w w' := by
  have HI := Lib.hid (fun W => Tryz.stringslite_Index_one (bstr r) c W)
  have hd : (bstr r).data.toList = r := by simp [bstr]
  rw [hd] at HI
  have hsz := bstr_size r
  have hs1 : (⟨#[c]⟩ : ByteArray).size = 1 := rfl
  rcases index_facts r c with ⟨h1, h2⟩ | ⟨k, h1, h2, h3, h4⟩
  · rw [h1] at HI
    have HM := Lib.hid h2
    clear h1 h2 hd
    go_enter Tryz.func138, Tryz.ntmps138
    go_wp2_with (go_at_call 145; (with_reducible refine (HI.out _).mono ?_); rintro e w1 ⟨rfl, rfl⟩)
    refine bodyPost_ret (v := .tuple #[.string (bstr r), .string ⟨#[]⟩, .bool false]) (results_3 (p := 4) (q := 5) (r := 6) rfl _ _ _ _ _ rfl rfl rfl) rfl ?_
    exact ⟨.inr ⟨HM.out, rfl⟩, Below.refl _ _⟩
  · rw [h1] at HI
    have H3 := Lib.hid h3
    have H4 := Lib.hid h4
    have hkl : (k : Int) ≤ ((bstr r).size : Int) := by omega
    have hkl2 : (k : Int) + 1 ≤ ((bstr r).size : Int) := by omega
    clear h1 h3 h4 hd
    go_enter Tryz.func138, Tryz.ntmps138
    go_upto_region 3 with (go_at_call 145; (with_reducible refine (HI.out _).mono ?_); rintro e w1 ⟨rfl, rfl⟩)
    go_quiet (fail)
    go_wp2
    refine bodyPost_ret (v := .tuple #[.string ((bstr r).extract 0 k), .string ((bstr r).extract (k + 1) r.length), .bool true]) (results_3 (p := 4) (q := 5) (r := 6) rfl _ _ _ _ _ rfl rfl rfl) rfl ?_
    rw [bstr_take r k (by omega), bstr_drop r (k + 1)]
    exact ⟨.inl ⟨_, _, H3.out, H4.out, rfl⟩, below_drewN (Below.refl _ _) _⟩
theorem cut_any (r : List UInt8) (c : UInt8) (hr : r.length ≤ 100000) (w : World) : Calls Tryz.prog 131 #[.string (bstr r), .string ⟨#[c]⟩] w fun e w' => CutP r c e ∧ Below w.heap.size w w' := by
  have HC := Lib.hid (cutS_any r c hr w)
  go_enter Tryz.func131, Tryz.ntmps131
  go_upto_region 1 with fail
  go_wp2_with (go_at_call 138; refine Hid.out ?_)
  refine Lib.hid ?_
  refine HC.out.mono ?_
  rintro e w1 ⟨⟨a, b, h1, h2, rfl⟩ | ⟨h1, rfl⟩, hb1⟩
  · have HP : Hid (CutP r c (.returned (.tuple #[.string (bstr a), .string (bstr b), .bool true]))) := Lib.hid (.inl ⟨a, b, h1, h2, rfl⟩)
    have HB := Lib.hid hb1
    clear h1 h2 hb1 HC
    go_wp2
    refine bodyPost_ret (v := .tuple #[.string (bstr a), .string (bstr b), .bool true]) (results_3 (p := 4) (q := 5) (r := 6) rfl _ _ _ _ _ rfl rfl rfl) rfl ?_
    exact ⟨HP.out, HB.out⟩
  · have HP : Hid (CutP r c (.returned (.tuple #[.string (bstr r), .string ⟨#[]⟩, .bool false]))) := Lib.hid (.inr ⟨h1, rfl⟩)
    have HB := Lib.hid hb1
    clear h1 hb1 HC
    go_wp2
    refine bodyPost_ret (v := .tuple #[.string (bstr r), .string ⟨#[]⟩, .bool false]) (results_3 (p := 4) (q := 5) (r := 6) rfl _ _ _ _ _ rfl rfl rfl) rfl ?_
    exact ⟨HP.out, HB.out⟩
end Go.Proofs.YtehgpnnfjgmiiaaGreat
end
section
namespace Go.Proofs.YtehgpnnfjgmiiaaGreat
open Go.Shelf Go.RowKit Go.Lib Go.Great
set_option maxRecDepth 100000
set_option maxHeartbeats 1000000
theorem below_grown {W W' : World} (h : Below W.heap.size W W') : W.grownBy W' none := ⟨h.os, h.tape, h.output, h.size, fun k hk _ => h.block k hk⟩
def encT (p : List UInt8) : Value := .string (bstr p)
theorem cut_uniq {c : UInt8} : ∀ {a a' b b' : List UInt8}, a ++ c :: b = a' ++ c :: b' → c ∉ a → c ∉ a' → a = a' ∧ b = b'
  | [], [], b, b', h, _, _ => by simpa using h
  | [], y :: a', b, b', h, _, h2 => by
    simp only [List.nil_append, List.cons_append, List.cons.injEq] at h
    exact absurd (by simp [h.1]) h2
  | x :: a, [], b, b', h, h1, _ => by
    simp only [List.nil_append, List.cons_append, List.cons.injEq] at h
    exact absurd (by simp [h.1]) h1
  | x :: a, y :: a', b, b', h, h1, h2 => by
    simp only [List.cons_append, List.cons.injEq] at h
    obtain ⟨e1, e2⟩ := cut_uniq h.2 (fun hm => h1 (by simp [hm])) (fun hm => h2 (by simp [hm]))
    exact ⟨by rw [h.1, e1], e2⟩
theorem cut_hit {n : Nat} (a b : List UInt8) (ha : (46 : UInt8) ∉ a) (hr : (a ++ 46 :: b).length ≤ 100000) (w : World) : CallsIn Fence.wide n Tryz.prog 131 #[.string (bstr (a ++ 46 :: b)), .string ⟨#[46]⟩] w fun e w' => e = .returned (.tuple #[.string (bstr a), .string (bstr b), .bool true]) ∧ Below w.heap.size w w' := by
  refine callsIn_wide.2 ((cut_any _ 46 hr w).mono ?_)
  rintro e w' ⟨⟨a', b', h1, h2, rfl⟩ | ⟨h1, rfl⟩, hb⟩
  · obtain ⟨rfl, rfl⟩ := cut_uniq h1 ha h2
    exact ⟨rfl, hb⟩
  · exact absurd (by simp) h1
theorem cut_miss {n : Nat} (r : List UInt8) (ha : (46 : UInt8) ∉ r) (hr : r.length ≤ 100000) (w : World) : CallsIn Fence.wide n Tryz.prog 131 #[.string (bstr r), .string ⟨#[46]⟩] w fun e w' => e = .returned (.tuple #[.string (bstr r), .string ⟨#[]⟩, .bool false]) ∧ Below w.heap.size w w' := by
  refine callsIn_wide.2 ((cut_any _ 46 hr w).mono ?_)
  rintro e w' ⟨⟨a', b', rfl, h2, rfl⟩ | ⟨h1, rfl⟩, hb⟩
  · exact absurd (by simp) ha
  · exact ⟨rfl, hb⟩
/-- Where the closure's loop stands. -/
def BtwR (s : List UInt8) (J : List (List UInt8) → World → Prop) (re mo : Value) (wr : World) : Prop :=
  (∃ pre r, re = .string (bstr r) ∧ mo = .bool true ∧ pre ++ splitD r = splitD s ∧ r.length ≤ s.length ∧ J pre wr) ∨ (∃ r, re = .string (bstr r) ∧ mo = .bool false ∧ J (splitD s) wr)
def btwM (re mo : Value) : Nat := match re, mo with
  | .string b, .bool true => b.size + 1
  | _, _ => 0
theorem btw_stops (n : Nat) (hn : 2 ≤ n) (s : List UInt8) (hs : s.length ≤ 100000) (Bs : Nat) (w : World) (hBs : Bs < w.heap.size) (hc : w.cell? ⟨Bs, 0, none⟩ = some (.string (bstr s))) :
    SeqStops Fence.wide n Tryz.prog 130 #[.pointer (some ⟨Bs, 0, none⟩)] encT (fun xs => xs = splitD s) (fun pre => pre <+: splitD s) (splitD s).length w := fun l J Jx W hW hJ hJx hY h0 => by
  have hcW := (hW.cell (p := ⟨Bs, 0, none⟩) hBs).trans hc
  have R0 : Hid (BtwR s J (.string (bstr s)) (.bool true) W) := Lib.hid (.inl ⟨[], s, rfl, rfl, rfl, Nat.le_refl _, h0⟩)
  have HY := Lib.hid hY
  have HJ := Lib.hid hJ
  have HJX := Lib.hid hJx
  have HS := Lib.hid hs
  clear hY hJ hJx hs h0
  refine callsIn_of_wp Tryz.func130 rfl trivial ?_ rfl
  simp only [Tryz.ntmps130, List.size_toArray, List.length_cons, List.length_nil, Nat.reduceAdd, Nat.reduceSub, Array.replicate_succ, Array.replicate_zero, List.push_toArray, List.append_toArray, List.nil_append, List.cons_append]
  gi_wp2
  gi_loopw [3, 4] (BtwR s J) (fun re mo _ => btwM re mo)
  case atStart => exact R0.out
  case round =>
    rcases hrel with ⟨pre, r, rfl, rfl, hp, hr, hJw⟩ | ⟨r, rfl, rfl, hJw⟩
    · have hsr := HS.out
      have hlen : pre.length < (splitD s).length := by rw [← hp, List.length_append]; have := splitD_pos r; omega
      have HP := Lib.hid hp
      have HR := Lib.hid hr
      have hn1 : 1 ≤ n := by omega
      clear R0
      rcases index_facts r 46 with ⟨_, hno⟩ | ⟨k, _, _, hk, hno⟩
      · have HC := Lib.hid (cut_miss (n := n - 1) r hno (by omega) wr)
        have HJ2 : Hid (∀ w1, Below wr.heap.size wr w1 → J pre w1) := Lib.hid (fun w1 hb => HJ.out _ _ _ _ hJw (below_grown hb) (fun r e => by cases e))
        have HE : Hid (pre ++ [r] = splitD s) := Lib.hid (by rw [← hp, splitD_none r (fun c hc e => hno (e ▸ hc))])
        clear hno hp hr hJw HP HR
        gi_wp2_with (refine ⟨trivial, ?_⟩; gi_at_call 131; (with_reducible refine HC.out.mono ?_); rintro e w1 ⟨rfl, hb1⟩; have hj1 := HJ2.out _ hb1; obtain ⟨fn, tmps, assign, body, hy, hR⟩ := HY.out pre r w1 hj1 hlen; dsimp only [encT] at hy)
        refine hR.mono ?_
        rintro e W3 (⟨rfl, hJ3, hk3⟩ | ⟨rfl, hJx3⟩)
        · gi_wp2
          go_roundw
          case rel => exact .inr ⟨[], rfl, rfl, HE.out ▸ hJ3⟩
          case measure => simp [btwM]
        · gi_wp2
          refine bodyPost_ret (results_none rfl _ _ _) rfl ?_
          exact ⟨⟨_, rfl⟩, .inr ⟨pre ++ [r], by rw [HE.out]; exact List.prefix_refl _, hJx3⟩⟩
      · obtain ⟨a, ha⟩ : ∃ a, r.take k = a := ⟨_, rfl⟩
        obtain ⟨b, hb⟩ : ∃ b, r.drop (k + 1) = b := ⟨_, rfl⟩
        rw [ha, hb] at hk
        rw [ha] at hno
        subst hk
        have HC := Lib.hid (cut_hit (n := n - 1) a b hno (by omega) wr)
        have HJ2 : Hid (∀ w1, Below wr.heap.size wr w1 → J pre w1) := Lib.hid (fun w1 hb => HJ.out _ _ _ _ hJw (below_grown hb) (fun r e => by cases e))
        have HE : Hid ((pre ++ [a]) ++ splitD b = splitD s) := Lib.hid (by rw [← hp, splitD_dot a b (fun c hc e => hno (e ▸ hc))]; simp)
        have HL : Hid (b.length ≤ s.length ∧ b.length < (a ++ 46 :: b).length) := Lib.hid (by simp at hr ⊢; omega)
        clear hno hp hr hJw HP HR ha hb
        generalize a ++ 46 :: b = r at HC HL ⊢
        gi_wp2_with (refine ⟨trivial, ?_⟩; gi_at_call 131; (with_reducible refine HC.out.mono ?_); rintro e w1 ⟨rfl, hb1⟩; have hj1 := HJ2.out _ hb1; obtain ⟨fn, tmps, assign, body, hy, hR⟩ := HY.out pre a w1 hj1 hlen; dsimp only [encT] at hy)
        refine hR.mono ?_
        rintro e W3 (⟨rfl, hJ3, hk3⟩ | ⟨rfl, hJx3⟩)
        · gi_wp2
          go_roundw
          case rel => exact .inl ⟨pre ++ [a], b, rfl, rfl, HE.out, HL.out.1, hJ3⟩
          case measure => simp only [btwM, bstr_size]; have := HL.out.2; omega
        · gi_wp2
          refine bodyPost_ret (results_none rfl _ _ _) rfl ?_
          exact ⟨⟨_, rfl⟩, .inr ⟨pre ++ [a], ⟨splitD b, HE.out⟩, hJx3⟩⟩
    · clear R0
      gi_wp2
      go_end0
      exact ⟨⟨_, rfl⟩, .inl ⟨splitD s, rfl, hJw⟩⟩
end Go.Proofs.YtehgpnnfjgmiiaaGreat
end
