/- The walk of the law OctetBack: its pieces. Conditions: the arguments are values of their types. Contracts of the small functions of package sha and of its reference: rotation, f and k. Conditions: words are numbers of 32 bits. Contract of the schedule of package sha. Conditions: a block has 64 bytes. Contract of the processing of a block of package sha. Conditions: a block has 64 bytes. Contracts of Pad of package sha and of its reference. No condition but that a length is a number of 64 bits. -/
import Derived.Test.YtjiiignbejbiiaaXPWords
import Derived.LoopTactic
import Derived.Laws.BitsAllLaws
import Derived.Deep.MidRow
import Derived.Deep.DeepCutAuto
section
namespace Go.Proofs.Ytjiiignbejbiiaa
set_option maxRecDepth 100000
open Go.RowKit
set_option linter.unusedVariables false

/-- A slice of bytes of the call's own, written out. -/
def OwnS (w W : World) (A : Option Addr) (c : Nat) (ys : List UInt8) : Prop := W.ownsRow w.heap.size 5 1 (.slice A ys.length c) ys.length (bcells ys)
theorem OwnS.below {w W W' : World} {A : Option Addr} {c B : Nat} {ys : List UInt8} (h : OwnS w W A c ys) (hb : Below B W W') (hB : W.heap.size ≤ B) : OwnS w W' A c ys := own_below h hb hB
theorem OwnS.bat {w W : World} {A : Option Addr} {c : Nat} {ys : List UInt8} (h : OwnS w W A c ys) : BAt W W.heap.size A ys := BAt.of_own h (Nat.le_refl _)
def PutS (w W : World) (zs : List UInt8) (e : Ending) (w' : World) : Prop :=
  ∃ A1 c1 ys', e = .returned (.slice A1 (ys' : List UInt8).length c1) ∧ Hid (ys' = zs) ∧ OwnS w w' A1 c1 ys' ∧ Below W.heap.size W w'
theorem put_sl {w W : World} {A : Option Addr} {c : Nat} {ys : List UInt8} (h : OwnS w W A c ys) (hw : w.heap.size ≤ W.heap.size) (N k : Nat) (hl : ys.length ≤ 900000) (hN : N < 18446744073709551616) (h1 : 1 ≤ k) (h8 : k ≤ 8) :
    Calls Try.prog 90 #[.slice A ys.length c, .int .u64 (N : Int), .int .i64 (k : Int)] W (PutS w W (ys ++ putB N k)) :=
  (put_yes A c N k ys W h.bat (by omega) hN h1 h8).mono fun e w' ⟨v, he, ho, hb⟩ => by
    obtain ⟨A1, c1, rfl⟩ := slice_of_own ho
    exact ⟨A1, c1, _, he, rfl, own_base ho hw, hb⟩
section
variable {w W W' : World} {g1 g2 : Nat}
variable {A : Option Addr} {c : Nat} {o : List UInt8}
end
end Go.Proofs.Ytjiiignbejbiiaa
end
section
namespace Go.Proofs.Ytjiiignbejbiiaa
set_option maxRecDepth 100000
open Go.RowKit
set_option linter.unusedVariables false

/-- A word of 32 bits rotated to the left, by 1, 5 and 30. -/
def rot1 (x : Int) : Int := bits .or .u32 (x * 2 % 4294967296) (x / 2147483648)
def rot5 (x : Int) : Int := bits .or .u32 (x * 32 % 4294967296) (x / 134217728)
def rot30 (x : Int) : Int := bits .or .u32 (x * 1073741824 % 4294967296) (x / 4)
/-- f and k of a word. -/
def fI (i : Nat) (b c d : Int) : Int :=
  if i < 20 then bits .or .u32 (bits .and .u32 b c) (bits .and .u32 (bits .xor .u32 IntKind.u32.max b) d)
  else if i < 40 then bits .xor .u32 (bits .xor .u32 b c) d
  else if i < 60 then bits .or .u32 (bits .or .u32 (bits .and .u32 b c) (bits .and .u32 b d)) (bits .and .u32 c d)
  else bits .xor .u32 (bits .xor .u32 b c) d
def kI (i : Nat) : Int := if i < 20 then 1518500249 else if i < 40 then 1859775393 else if i < 60 then 2400959708 else 3395469782

theorem and31_1 : bits .and .u64 1 31 = 1 := by decide +kernel
theorem and31_5 : bits .and .u64 5 31 = 5 := by decide +kernel
theorem and31_30 : bits .and .u64 30 31 = 30 := by decide +kernel

section
variable (x : Int) (w : World)
theorem rot1_any : Calls Try.prog 89 #[.int .u32 x, .int .i64 1] w fun e w' => e = .returned (.int .u32 (rot1 x)) ∧ w = w' := by
  have e1 := and31_1
  go_enter Try.func89, Try.ntmps89
  go_wp2
  go_ret
  exact ⟨rfl, rfl⟩
theorem rot5_any : Calls Try.prog 89 #[.int .u32 x, .int .i64 5] w fun e w' => e = .returned (.int .u32 (rot5 x)) ∧ w = w' := by
  have e1 := and31_5
  go_enter Try.func89, Try.ntmps89
  go_wp2
  go_ret
  exact ⟨rfl, rfl⟩
theorem rot30_any : Calls Try.prog 89 #[.int .u32 x, .int .i64 30] w fun e w' => e = .returned (.int .u32 (rot30 x)) ∧ w = w' := by
  have e1 := and31_30
  go_enter Try.func89, Try.ntmps89
  go_wp2
  go_ret
  exact ⟨rfl, rfl⟩
theorem turned1_any : Calls Try.prog 73 #[.int .u32 x, .int .i64 1] w fun e w' => e = .returned (.int .u32 (rot1 x)) ∧ w = w' := by
  go_enter Try.func73, Try.ntmps73
  go_wp2
  go_ret
  exact ⟨rfl, rfl⟩
theorem turned5_any : Calls Try.prog 73 #[.int .u32 x, .int .i64 5] w fun e w' => e = .returned (.int .u32 (rot5 x)) ∧ w = w' := by
  go_enter Try.func73, Try.ntmps73
  go_wp2
  go_ret
  exact ⟨rfl, rfl⟩
theorem turned30_any : Calls Try.prog 73 #[.int .u32 x, .int .i64 30] w fun e w' => e = .returned (.int .u32 (rot30 x)) ∧ w = w' := by
  go_enter Try.func73, Try.ntmps73
  go_wp2
  go_ret
  exact ⟨rfl, rfl⟩
end

theorem clo_any (i : Nat) (b c d : Int) (gb gc gd : Nat) (w : World) (hi : i < 80) (hb : w.cell? ⟨gb, 0, none⟩ = some (.int .u32 b)) (hc : w.cell? ⟨gc, 0, none⟩ = some (.int .u32 c)) (hd : w.cell? ⟨gd, 0, none⟩ = some (.int .u32 d)) :
   Calls Try.prog 87 #[.int .i64 (i : Int), .pointer (some ⟨gb, 0, none⟩), .pointer (some ⟨gc, 0, none⟩), .pointer (some ⟨gd, 0, none⟩)] w fun e w' => e = .returned (.tuple #[.int .u32 (fI i b c d), .int .u32 (kI i)]) ∧ w = w' := by
  by_cases h1 : i < 20
  · simp only [fI, kI, if_pos h1]
    go_enter Try.func87, Try.ntmps87
    go_wp2
    all_goals go_ret2
    all_goals exact ⟨rfl, rfl⟩
  · by_cases h2 : i < 40
    · simp only [fI, kI, if_neg h1, if_pos h2]
      go_enter Try.func87, Try.ntmps87
      go_wp2
      all_goals go_ret2
      all_goals exact ⟨rfl, rfl⟩
    · by_cases h3 : i < 60
      · simp only [fI, kI, if_neg h1, if_neg h2, if_pos h3]
        go_enter Try.func87, Try.ntmps87
        go_wp2
        all_goals go_ret2
        all_goals exact ⟨rfl, rfl⟩
      · simp only [fI, kI, if_neg h1, if_neg h2, if_neg h3]
        go_enter Try.func87, Try.ntmps87
        go_wp2
        all_goals go_ret2
        all_goals exact ⟨rfl, rfl⟩

theorem spart_any (i : Nat) (b c d : Int) (w : World) (hi : i < 80) :
   Calls Try.prog 72 #[.int .i64 (i : Int), .int .u32 b, .int .u32 c, .int .u32 d] w fun e w' => e = .returned (.tuple #[.int .u32 (fI i b c d), .int .u32 (kI i)]) ∧ w = w' := by
  by_cases h1 : i < 20
  · simp only [fI, kI, if_pos h1]
    go_enter Try.func72, Try.ntmps72
    go_wp2
    all_goals go_ret2
    all_goals exact ⟨rfl, rfl⟩
  · by_cases h2 : i < 40
    · simp only [fI, kI, if_neg h1, if_pos h2]
      go_enter Try.func72, Try.ntmps72
      go_wp2
      all_goals go_ret2
      all_goals exact ⟨rfl, rfl⟩
    · by_cases h3 : i < 60
      · simp only [fI, kI, if_neg h1, if_neg h2, if_pos h3]
        go_enter Try.func72, Try.ntmps72
        go_wp2
        all_goals go_ret2
        all_goals exact ⟨rfl, rfl⟩
      · simp only [fI, kI, if_neg h1, if_neg h2, if_neg h3]
        go_enter Try.func72, Try.ntmps72
        go_wp2
        all_goals go_ret2
        all_goals exact ⟨rfl, rfl⟩
end Go.Proofs.Ytjiiignbejbiiaa
end
section
namespace Go.Proofs.Ytjiiignbejbiiaa
set_option maxRecDepth 100000
open Go.RowKit
set_option linter.unusedVariables false

/-- The words of a block. -/
def wordI (xs : List UInt8) (i : Nat) : Int := (getN ((xs.drop (i * 4)).take 4) : Int)
def nextI (xs : List UInt8) (l : List Int) (j : Nat) : Int :=
  if j < 16 then wordI xs j else rot1 (bits .xor .u32 (bits .xor .u32 (bits .xor .u32 (l.getD (j - 3) 0) (l.getD (j - 8) 0)) (l.getD (j - 14) 0)) (l.getD (j - 16) 0))
def schI (xs : List UInt8) : Nat → List Int
  | 0 => []
  | j + 1 => schI xs j ++ [nextI xs (schI xs j) j]
theorem schI_length (xs : List UInt8) (j : Nat) : (schI xs j).length = j := by
  induction j with
  | zero => rfl
  | succ j ih => simp [schI, ih]
def ucells (l : List Int) : List Value := l.map (Value.int .u32)
def schArr (xs : List UInt8) (j : Nat) : Array Value := (ucells (schI xs j) ++ List.replicate (80 - j) (Value.int .u32 0)).toArray
theorem schArr_size (xs : List UInt8) (j : Nat) (h : j ≤ 80) : (schArr xs j).size = 80 := by
  simp [schArr, ucells, schI_length]
  omega
theorem schArr_succ (xs : List UInt8) (j : Nat) (h : j < 80) : (schArr xs j).setIfInBounds j (.int .u32 (nextI xs (schI xs j) j)) = schArr xs (j + 1) := by
  have hl : (ucells (schI xs j)).length = j := by simp [ucells, schI_length]
  unfold schArr
  rw [List.setIfInBounds_toArray]
  congr 1
  have e : 80 - j = (80 - (j + 1)) + 1 := by omega
  rw [e, List.replicate_succ, List.set_append_right _ _ (by omega), hl, Nat.sub_self, List.set_cons_zero]
  simp [schI, ucells]
theorem schArr_get (xs : List UInt8) (j i : Nat) (h : i < j) : (schArr xs j)[i]? = some (.int .u32 ((schI xs j).getD i 0)) := by
  have hl : (ucells (schI xs j)).length = j := by simp [ucells, schI_length]
  unfold schArr
  rw [List.getElem?_toArray, List.getElem?_append_left (by omega)]
  simp [ucells, List.getD, List.getElem?_eq_getElem (show i < (schI xs j).length by rw [schI_length]; exact h)]

theorem info101 : (Try.prog.info? 120).map (·.zero) = some (some (.agg (schArr [] 0))) := by kernel_rfl
theorem zero101 (w : World) : (zeroValue 120).run Try.prog w = .ok (.agg (schArr [] 0)) w := by
  have h := info101
  cases hi : Try.prog.info? 120 with
  | none => rw [hi] at h; cases h
  | some i =>
    rw [hi] at h
    simp at h
    simp [zeroValue, typeInfo, hi, h]
theorem schArr_zero (xs : List UInt8) : schArr xs 0 = schArr [] 0 := rfl

/-- A function's one result that lies in memory. -/
theorem results_cell1 {fn : Func} {p : Tmp} {ty : TypeId} (h : fn.results = #[.cell p ty]) {P : Program} (tmps : Array Value) (w : World) (b o : Nat) (cs : List Value) (d : TypeDesc) (hp : tmps.getD p undef = .pointer (some ⟨b, o, none⟩))
    (hc : w.rangeAt b o cs) (hu : P.underlying ty = some d) (hd : d.isRow = true) (hi : (P.info? ty).map (·.size) = some cs.length) : (results fn tmps).run P w = .ok (.agg cs.toArray) w := by
  have h1 := run_loadVar_mid (P := P) w b o ty cs d hc hu hd hi
  have hp' : tmps[p]?.getD undef = .pointer (some ⟨b, o, none⟩) := by simpa using hp
  simp [results, h, hp', h1, asAddr]
theorem below_cells {B b : Nat} {a : World} (hb : B ≤ b) : ∀ (vs : List Value) (o : Nat) (w : World), Below B a w → Below B a (w.setCells b o vs)
  | [], _, _, h => h
  | _ :: vs, o, w, h => below_cells hb vs (o + 1) _ (h.setCell (p := ⟨b, o, none⟩) hb _)
theorem ucells_one (l : List Int) : ∀ v ∈ ucells l, v.oneCell' = true := by
  intro u hu
  obtain ⟨_, _, rfl⟩ := List.mem_map.1 hu
  rfl
/-- The 80 words, as cells. -/
def sch80 (xs : List UInt8) : List Value := ucells (schI xs 80)
theorem sch80_length (xs : List UInt8) : (sch80 xs).length = 80 := by simp [sch80, ucells, schI_length]
theorem schArr80 (xs : List UInt8) : schArr xs 80 = (sch80 xs).toArray := by simp [schArr, sch80]
theorem size101 : (Try.prog.info? 120).map (·.size) = some 80 := by kernel_rfl

def SchRel (w : World) (xs : List UInt8) (i : Value) (wr : World) : Prop :=
  ∃ j : Nat, j ≤ 80 ∧ i = .int .i64 (j : Int) ∧ wr.heap[w.heap.size + 1]? = some (.cells (schArr xs j) 120 (0, 0)) ∧ wr.heap[w.heap.size]? = some (.cells (schArr [] 0) 120 (0, 0)) ∧ Below w.heap.size w wr

set_option maxRecDepth 100000 in
set_option maxHeartbeats 1600000 in
theorem sch_any (A : Option Addr) (c : Nat) (xs : List UInt8) (w : World) (hx : BAt w w.heap.size A xs) (hl : xs.length = 64) :
    Calls Try.prog 88 #[.slice A 64 c] w fun e w' => e = .returned (.agg (sch80 xs).toArray) ∧ Below w.heap.size w w' := by
  have hz := fun W => zero101 W
  have HX := Lib.hid hx
  have HL := Lib.hid hl
  clear hx hl
  generalize hZ : schArr [] 0 = Z at hz
  have HZ := Lib.hid hZ
  clear hZ
  go_enter Try.func88, Try.ntmps88
  go_wp2
  have R0 : SchRel w xs (.int .i64 0) ((w.alloc (.cells Z 120)).alloc (.cells Z 120)) := by
    refine ⟨0, by omega, rfl, ?_, ?_, ((Below.refl _ w).alloc (Nat.le_refl _) _).alloc (by simp) _⟩
    · have := heap_alloc_new (w.alloc (.cells Z 120)) (.cells Z 120)
      rw [schArr_zero, HZ.out]
      simpa using this
    · have := heap_alloc_new w (.cells Z 120)
      rw [HZ.out]
      rw [Below.heap_alloc _ _ _ (by simp)]
      exact this
  have HR0 := Lib.hid R0
  clear R0 HZ hz
  go_loopw [7] (SchRel w xs) (fun i _ => 80 - (intOf i).toNat)
  case atStart => exact HR0.out
  case round =>
    obtain ⟨j, hj, rfl, hq, hr, hb⟩ := hrel
    clear HR0
    by_cases hlt : j < 80
    · have hcj : wr.cell? ⟨w.heap.size + 1, j, none⟩ = some (.int .u32 0) := by
        rw [cell_of_row wr _ j _ 120 (0, 0) hq]
        have hl : (ucells (schI xs j)).length = j := by simp [ucells, schI_length]
        unfold schArr
        rw [List.getElem?_toArray, List.getElem?_append_right (by omega), hl, Nat.sub_self, List.getElem?_replicate, if_pos (by omega)]
      have hfj := frozen_of_row wr (w.heap.size + 1) j _ 120 hq
      have R : ∀ w', (wr.setCell ⟨w.heap.size + 1, j, none⟩ (.int .u32 (nextI xs (schI xs j) j))).heap.size = w'.heap.size → Below (wr.heap.size) (wr.setCell ⟨w.heap.size + 1, j, none⟩ (.int .u32 (nextI xs (schI xs j) j))) w' → SchRel w xs (.int .i64 ((j : Int) + 1)) w' := by
        intro w' hs hbl
        have s1 := heap_setCell_same wr (w.heap.size + 1) j _ 120 (.int .u32 (nextI xs (schI xs j) j)) hq
        rw [schArr_succ xs j hlt] at s1
        have l1 : w.heap.size + 1 < wr.heap.size := (Array.getElem?_eq_some_iff.1 hq).1
        refine ⟨j + 1, by omega, by go_num, (hbl.block _ l1).trans s1, ?_, ?_⟩
        · rw [hbl.block _ (by omega), Below.heap_setCell _ _ _ _ (by simp)]
          exact hr
        · exact (hb.setCell (p := ⟨w.heap.size + 1, j, none⟩) (by simp) _).trans (hbl.mono (by omega))
      have HR := Lib.hid R
      by_cases h16 : j < 16
      · obtain ⟨N4, hN⟩ : ∃ N4, getN ((xs.drop (j * 4)).take 4) = N4 := ⟨_, rfl⟩
        have hN4 : N4 < 4294967296 := by
          rw [← hN]
          have h1 := getN_lt ((xs.drop (j * 4)).take 4)
          have h2 : 256 ^ ((xs.drop (j * 4)).take 4).length ≤ 256 ^ 4 := Nat.pow_le_pow_right (by omega) (by rw [List.length_take]; omega)
          omega
        have e1 : nextI xs (schI xs j) j = (N4 : Int) := by
          unfold nextI wordI
          rw [if_pos h16, hN]
        rw [e1] at HR
        have hl := HL.out
        have hG : Calls Try.prog 93 #[.slice A 64 c, .int .i64 ((j : Int) * 4), .int .i64 4] wr fun e w' => e = .returned (.tuple #[.int .u64 (N4 : Int), .bool true]) ∧ wr = w' := by
          have := get_yes A c xs (j * 4) 4 wr ((HX.out.below hb).more hb.size) (by omega) (by omega) (by omega) (by omega)
          rw [hN, hl, Int.natCast_mul] at this
          exact this
        have HG := Lib.hid hG
        clear hq hr hb R hN e1 hG hl
        go_wp2_with (go_at_call 93; refine (HG.out).mono ?_; rintro e w1 ⟨rfl, rfl⟩)
        go_roundw
        case rel => exact HR.out _ rfl (Below.refl _ _)
        case measure => simp [intOf]; omega
      · have g := fun k (hk : 1 ≤ k ∧ k ≤ j) => (cell_of_row wr (w.heap.size + 1) (j - k) _ 120 (0, 0) hq).trans (schArr_get xs j (j - k) (by omega))
        have g3 := g 3 (by omega)
        have g8 := g 8 (by omega)
        have g14 := g 14 (by omega)
        have g16 := g 16 (by omega)
        have e1 : nextI xs (schI xs j) j = rot1 (bits .xor .u32 (bits .xor .u32 (bits .xor .u32 ((schI xs j).getD (j - 3) 0) ((schI xs j).getD (j - 8) 0)) ((schI xs j).getD (j - 14) 0)) ((schI xs j).getD (j - 16) 0)) := by
          unfold nextI
          rw [if_neg h16]
        rw [e1] at HR
        generalize (schI xs j).getD (j - 3) 0 = x3 at g3 HR
        generalize (schI xs j).getD (j - 8) 0 = x8 at g8 HR
        generalize (schI xs j).getD (j - 14) 0 = x14 at g14 HR
        generalize (schI xs j).getD (j - 16) 0 = x16 at g16 HR
        have hj16 : (16 : Int) ≤ (j : Int) := by omega
        clear hq hr hb R e1 g HX HL
        go_wp2
        have k3 : IntKind.i64.wrap ((j : Int) - 3) = (j : Int) - 3 := by rw [IntKind.wrap_i64]; omega
        have k8 : IntKind.i64.wrap ((j : Int) - 8) = (j : Int) - 8 := by rw [IntKind.wrap_i64]; omega
        have k14 : IntKind.i64.wrap ((j : Int) - 14) = (j : Int) - 14 := by rw [IntKind.wrap_i64]; omega
        have k16 : IntKind.i64.wrap ((j : Int) - 16) = (j : Int) - 16 := by rw [IntKind.wrap_i64]; omega
        have t3 : ((j : Int) - 3).toNat = j - 3 := by omega
        have t8 : ((j : Int) - 8).toNat = j - 8 := by omega
        have t14 : ((j : Int) - 14).toNat = j - 14 := by omega
        have t16 : ((j : Int) - 16).toNat = j - 16 := by omega
        have b3 : (3 : Int) ≤ (j : Int) := by omega
        have b8 : (8 : Int) ≤ (j : Int) := by omega
        have b14 : (14 : Int) ≤ (j : Int) := by omega
        have b3' : (j : Int) - 3 < 80 := by omega
        have b8' : (j : Int) - 8 < 80 := by omega
        have b14' : (j : Int) - 14 < 80 := by omega
        have b16' : (j : Int) - 16 < 80 := by omega
        go_region_held3 (fun w' => w'.cell? ⟨w.heap.size + 1, j - 3, none⟩ = some (.int .u32 x3) ∧ w'.cell? ⟨w.heap.size + 1, j - 8, none⟩ = some (.int .u32 x8) ∧ w'.cell? ⟨w.heap.size + 1, j - 14, none⟩ = some (.int .u32 x14) ∧ w'.cell? ⟨w.heap.size + 1, j - 16, none⟩ = some (.int .u32 x16))
          (first | exact ⟨g3, g8, g14, g16⟩ | exact ⟨(World.cell?_setCell_other wr _ _ _ (fun e => by simp at e <;> omega)).trans g3, (World.cell?_setCell_other wr _ _ _ (fun e => by simp at e <;> omega)).trans g8, (World.cell?_setCell_other wr _ _ _ (fun e => by simp at e <;> omega)).trans g14, (World.cell?_setCell_other wr _ _ _ (fun e => by simp at e <;> omega)).trans g16⟩) (first
          | (go_at_call 89; refine (rot1_any _ _).mono ?_; rintro e w1 ⟨rfl, rfl⟩))
        clear k3 k8 k14 k16 t3 t8 t14 t16
        go_wp2
        go_roundw
        case rel => exact HR.out _ rfl (Below.refl _ _).drew
        case measure => simp [intOf]; omega
    · obtain rfl : j = 80 := by omega
      have q1 : wr.rangeAt (w.heap.size + 1) 0 (schArr xs 80).toList := fun i v hv => by
        rw [Nat.zero_add, cell_of_row wr _ i _ 120 (0, 0) hq]
        simpa using hv
      have q2 : wr.there w.heap.size 0 80 := fun i hi => by
        rw [Nat.zero_add, cell_of_row wr _ i _ 120 (0, 0) hr, frozen_of_row wr _ i _ 120 hr]
        have := schArr_size [] 0 (by omega)
        exact ⟨by simp; omega, rfl⟩
      have hlen := sch80_length xs
      have q1' : wr.rangeAt (w.heap.size + 1) 0 (sch80 xs) := by
        have e : (schArr xs 80).toList = sch80 xs := by rw [schArr80]
        rw [e] at q1
        exact q1
      have HC := Lib.hid (fun (v : Value) (hv : v ∈ sch80 xs) => ucells_one _ v hv)
      have HB := Lib.hid hb
      have HS := Lib.hid (World.rangeAt_setCells_same wr w.heap.size 0 (sch80 xs) (by rw [hlen]; exact q2))
      have HLEN := Lib.hid hlen
      have HQ1 := Lib.hid q1'
      have HQ2 := Lib.hid q2
      clear hq hr hb HX HL hj hlt hlen q1 q1' q2
      have hsz : (sch80 xs).toArray.size = 80 := (List.size_toArray).trans HLEN.out
      have HT : Hid (wr.there w.heap.size 0 (sch80 xs).toArray.size) := by
        rw [hsz]
        exact HQ2.out
      have HI : Hid ((Try.prog.info? 120).map (·.size) = some (sch80 xs).toArray.size) := by
        rw [hsz]
        exact size101
      clear hsz
      have HJ : Hid ((Try.prog.info? 120).map (·.size) = some (sch80 xs).length) := by
        rw [HLEN.out]
        exact size101
      go_wp2_with ((with_reducible refine wpList_load_mid (op := ⟨some 46, _, _, _, _, _⟩) rfl 120 (.tmp 3) rfl (w.heap.size + 1) 0 ?_ (sch80 xs) _ HQ1.out Try.underlying120 rfl HJ.out ?_); rfl; refine wpList_store_mid rfl 120 (.tmp 2) (.tmp 46) rfl w.heap.size 0 (sch80 xs).toArray rfl rfl HT.out HI.out (all_oneCell_toArray HC.out) ?_)
      refine bodyPost_ret (v := .agg (sch80 xs).toArray) ?_ rfl ?_
      · exact results_cell1 (p := 2) (ty := 120) rfl _ _ w.heap.size 0 (sch80 xs) _ rfl (by simpa using HS.out) Try.underlying120 rfl HJ.out
      · exact ⟨rfl, by simpa using below_cells (Nat.le_refl _) (sch80 xs) 0 wr HB.out⟩
end Go.Proofs.Ytjiiignbejbiiaa
end
section
namespace Go.Proofs.Ytjiiignbejbiiaa
set_option maxRecDepth 100000
open Go.RowKit
set_option linter.unusedVariables false

/-- The memory of the processing: the first words, the result, and the three words that the closure sees. -/
def AftMem (w : World) (s0 s1 s2 s3 s4 b c d : Int) (gb gc gd : Nat) (W : World) : Prop :=
  W.heap[gb]? = some (.cells #[.int .u32 b] 90 (0, 0)) ∧ W.heap[gc]? = some (.cells #[.int .u32 c] 90 (0, 0)) ∧ W.heap[gd]? = some (.cells #[.int .u32 d] 90 (0, 0)) ∧ gb ≠ gc ∧ gb ≠ gd ∧ gc ≠ gd ∧
  W.heap[w.heap.size]? = some (.cells #[.int .u32 s0, .int .u32 s1, .int .u32 s2, .int .u32 s3, .int .u32 s4] 109 (0, 0)) ∧ W.heap[w.heap.size + 1]? = some (.cells #[.int .u32 0, .int .u32 0, .int .u32 0, .int .u32 0, .int .u32 0] 109 (0, 0)) ∧
  w.heap.size + 2 ≤ gb ∧ w.heap.size + 2 ≤ gc ∧ w.heap.size + 2 ≤ gd ∧ Below w.heap.size w W

theorem heap5 (w : World) (a b x y z : Obj) :
    (((((w.alloc a).alloc b).alloc x).alloc y).alloc z).heap[w.heap.size]? = some a ∧ (((((w.alloc a).alloc b).alloc x).alloc y).alloc z).heap[w.heap.size + 1]? = some b ∧
    (((((w.alloc a).alloc b).alloc x).alloc y).alloc z).heap[w.heap.size + 1 + 1]? = some x ∧ (((((w.alloc a).alloc b).alloc x).alloc y).alloc z).heap[w.heap.size + 1 + 1 + 1]? = some y ∧
    (((((w.alloc a).alloc b).alloc x).alloc y).alloc z).heap[w.heap.size + 1 + 1 + 1 + 1]? = some z ∧ Below w.heap.size w (((((w.alloc a).alloc b).alloc x).alloc y).alloc z) := by
  refine ⟨?_, ?_, ?_, ?_, ?_, ((((((Below.refl _ w).alloc (Nat.le_refl _) _).alloc (by simp) _).alloc (by simp; omega) _).alloc (by simp; omega) _).alloc (by simp; omega) _)⟩
  all_goals
    show (((((w.heap.push a).push b).push x).push y).push z)[_]? = _
    simp only [Array.getElem?_push, Array.size_push]
    repeat (first | rw [if_pos trivial] | rw [if_pos (by omega)] | rw [if_neg (by omega)])

theorem info75 : (Try.prog.info? 90).map (fun i => (i.zero, i.size, i.bytes)) = some (some (.int .u32 0), 1, 4) := by kernel_rfl
theorem run_index80 (xs : List UInt8) (j : Nat) (hj : j < 80) (W : World) : (Instr.index 120 (.agg (sch80 xs).toArray) (.int .i64 (j : Int))).run Try.prog W = .ok (.int .u32 ((schI xs 80).getD j 0)) W := by
  have hl : j < (schI xs 80).length := by rw [schI_length]; exact hj
  have hi : (0 : Int) ≤ (j : Int) ∧ (j : Int) < ((80 : Nat) : Int) := by omega
  have hp : (part 90 (sch80 xs).toArray j).run Try.prog W = .ok (.int .u32 ((schI xs 80)[j]?.getD 0)) W := by
    have ha : (isAgg 90).run Try.prog W = .ok false W := by kernel_rfl
    simp [part, ha, sch80, ucells, List.getElem?_eq_getElem hl]
  obtain ⟨i0, hi0, hz0, hz1, hz2⟩ := info_parts info75
  simp [Instr.index, asIntOf, run_underlying Try.underlying120, hj, sizeOf, typeInfo, hi0, hz1, hp]

theorem AftMem.set {w W : World} {s0 s1 s2 s3 s4 b c d : Int} {gb gc gd : Nat} (h : AftMem w s0 s1 s2 s3 s4 b c d gb gc gd W) (b' c' d' : Int) :
    AftMem w s0 s1 s2 s3 s4 b' c' d' gb gc gd (((W.setCell ⟨gb, 0, none⟩ (.int .u32 b')).setCell ⟨gc, 0, none⟩ (.int .u32 c')).setCell ⟨gd, 0, none⟩ (.int .u32 d')) := by
  obtain ⟨m1, m2, m3, n1, n2, n3, m4, m5, l1, l2, l3, hb⟩ := h
  have far : ∀ k, k ≠ gb → k ≠ gc → k ≠ gd → (((W.setCell ⟨gb, 0, none⟩ (.int .u32 b')).setCell ⟨gc, 0, none⟩ (.int .u32 c')).setCell ⟨gd, 0, none⟩ (.int .u32 d')).heap[k]? = W.heap[k]? := fun k h1 h2 h3 => by
    rw [Below.heap_setCell _ _ _ _ h3, Below.heap_setCell _ _ _ _ h2, Below.heap_setCell _ _ _ _ h1]
  refine ⟨?_, ?_, ?_, n1, n2, n3, (far _ (by omega) (by omega) (by omega)).trans m4, (far _ (by omega) (by omega) (by omega)).trans m5, l1, l2, l3, ((hb.setCell (by simp; omega) _).setCell (by simp; omega) _).setCell (by simp; omega) _⟩
  · rw [Below.heap_setCell _ _ _ _ n2, Below.heap_setCell _ _ _ _ n1]
    have := heap_setCell_same W gb 0 _ 90 (.int .u32 b') m1
    simpa using this
  · rw [Below.heap_setCell _ _ _ _ n3]
    have := heap_setCell_same (W.setCell ⟨gb, 0, none⟩ (.int .u32 b')) gc 0 _ 90 (.int .u32 c') ((Below.heap_setCell W ⟨gb, 0, none⟩ (.int .u32 b') gc (Ne.symm n1)).trans m2)
    simpa using this
  · have := heap_setCell_same ((W.setCell ⟨gb, 0, none⟩ (.int .u32 b')).setCell ⟨gc, 0, none⟩ (.int .u32 c')) gd 0 _ 90 (.int .u32 d') (by
      rw [Below.heap_setCell _ _ _ _ (Ne.symm n3), Below.heap_setCell _ _ _ _ (Ne.symm n2)]
      exact m3)
    simpa using this
theorem AftMem.drew {w W : World} {s0 s1 s2 s3 s4 b c d : Int} {gb gc gd : Nat} (h : AftMem w s0 s1 s2 s3 s4 b c d gb gc gd W) : AftMem w s0 s1 s2 s3 s4 b c d gb gc gd W.drew := by
  obtain ⟨m1, m2, m3, n1, n2, n3, m4, m5, l1, l2, l3, hb⟩ := h
  exact ⟨m1, m2, m3, n1, n2, n3, m4, m5, l1, l2, l3, hb.drew⟩
theorem AftMem.below {w W W' : World} {s0 s1 s2 s3 s4 b c d : Int} {gb gc gd B : Nat} (h : AftMem w s0 s1 s2 s3 s4 b c d gb gc gd W) (hbl : Below B W W') (hB : W.heap.size ≤ B) : AftMem w s0 s1 s2 s3 s4 b c d gb gc gd W' := by
  obtain ⟨m1, m2, m3, n1, n2, n3, m4, m5, l1, l2, l3, hb⟩ := h
  have lt : ∀ {k : Nat} {o : Obj}, W.heap[k]? = some o → W'.heap[k]? = some o := fun {k o} hk => (hbl.block k (Nat.lt_of_lt_of_le (Array.getElem?_eq_some_iff.1 hk).1 hB)).trans hk
  exact ⟨lt m1, lt m2, lt m3, n1, n2, n3, lt m4, lt m5, l1, l2, l3, hb.trans (hbl.mono (by have := hb.size; omega))⟩

/-- The five words behind j words of a block. -/
structure V5 where
  a : Int
  b : Int
  c : Int
  d : Int
  e : Int
def xI (xs : List UInt8) (j : Nat) (v : V5) : Int := (rot5 v.a + fI j v.b v.c v.d + v.e + (schI xs 80).getD j 0 + kI j) % 4294967296
def cmpI (xs : List UInt8) (v : V5) : Nat → V5
  | 0 => v
  | j + 1 => ⟨xI xs j (cmpI xs v j), (cmpI xs v j).a, rot30 (cmpI xs v j).b, (cmpI xs v j).c, (cmpI xs v j).d⟩
/-- The five words behind a block. -/
def aftI (xs : List UInt8) (v : V5) : V5 := ⟨(v.a + (cmpI xs v 80).a) % 4294967296, (v.b + (cmpI xs v 80).b) % 4294967296, (v.c + (cmpI xs v 80).c) % 4294967296, (v.d + (cmpI xs v 80).d) % 4294967296, (v.e + (cmpI xs v 80).e) % 4294967296⟩
def V5.cells (v : V5) : List Value := [.int .u32 v.a, .int .u32 v.b, .int .u32 v.c, .int .u32 v.d, .int .u32 v.e]
theorem size77 : (Try.prog.info? 109).map (·.size) = some 5 := by kernel_rfl
def AftRel (w : World) (xs : List UInt8) (v : V5) (gb gc gd : Nat) (v5 v9 i : Value) (wr : World) : Prop :=
  ∃ j : Nat, j ≤ 80 ∧ i = .int .i64 (j : Int) ∧ v5 = .int .u32 (cmpI xs v j).a ∧ v9 = .int .u32 (cmpI xs v j).e ∧ AftMem w v.a v.b v.c v.d v.e (cmpI xs v j).b (cmpI xs v j).c (cmpI xs v j).d gb gc gd wr

set_option maxRecDepth 100000 in
set_option maxHeartbeats 8000000 in
theorem after_any (A : Option Addr) (c : Nat) (xs : List UInt8) (s0 s1 s2 s3 s4 : Int) (w : World) (hx : BAt w w.heap.size A xs) (hl : xs.length = 64) :
    Calls Try.prog 78 #[.agg #[.int .u32 s0, .int .u32 s1, .int .u32 s2, .int .u32 s3, .int .u32 s4], .slice A 64 c] w fun e w' => e = .returned (.agg (aftI xs ⟨s0, s1, s2, s3, s4⟩).cells.toArray) ∧ Below w.heap.size w w' := by
  go_enter Try.func78, Try.ntmps78
  go_upto_region 1 with fail
  go_cut [5, 6, 7, 8, 9] (fun v5 v6 v7 v8 v9 wx => ∃ gb gc gd : Nat, v5 = .int .u32 s0 ∧ v6 = .pointer (some ⟨gb, 0, none⟩) ∧ v7 = .pointer (some ⟨gc, 0, none⟩) ∧ v8 = .pointer (some ⟨gd, 0, none⟩) ∧ v9 = .int .u32 s4 ∧ AftMem w s0 s1 s2 s3 s4 s1 s2 s3 gb gc gd wx)
  case first =>
    go_region_held3 (fun w' => w'.cell? ⟨w.heap.size, 0, none⟩ = some (.int .u32 s0) ∧ w'.cell? ⟨w.heap.size, 1, none⟩ = some (.int .u32 s1) ∧ w'.cell? ⟨w.heap.size, 2, none⟩ = some (.int .u32 s2) ∧ w'.cell? ⟨w.heap.size, 3, none⟩ = some (.int .u32 s3) ∧ w'.cell? ⟨w.heap.size, 4, none⟩ = some (.int .u32 s4)) (first | (refine ⟨?_, ?_, ?_, ?_, ?_⟩ <;> go_simp)) (fail)
    all_goals go_wp2_with fail
    all_goals go_meet
    all_goals
      refine ⟨_, _, _, rfl, rfl, rfl, rfl, rfl, ?_⟩
      obtain ⟨q1, q2, q3, q4, q5, q6⟩ := heap5 w (.cells #[.int .u32 s0, .int .u32 s1, .int .u32 s2, .int .u32 s3, .int .u32 s4] 109) (.cells #[.int .u32 0, .int .u32 0, .int .u32 0, .int .u32 0, .int .u32 0] 109) _ _ _
      first
        | exact ⟨q3, q4, q5, by omega, by omega, by omega, q1, q2, by omega, by omega, by omega, q6.drew⟩
        | exact ⟨q3, q5, q4, by omega, by omega, by omega, q1, q2, by omega, by omega, by omega, q6.drew⟩
        | exact ⟨q4, q3, q5, by omega, by omega, by omega, q1, q2, by omega, by omega, by omega, q6.drew⟩
        | exact ⟨q4, q5, q3, by omega, by omega, by omega, q1, q2, by omega, by omega, by omega, q6.drew⟩
        | exact ⟨q5, q3, q4, by omega, by omega, by omega, q1, q2, by omega, by omega, by omega, q6.drew⟩
        | exact ⟨q5, q4, q3, by omega, by omega, by omega, q1, q2, by omega, by omega, by omega, q6.drew⟩
  case rest =>
    obtain ⟨gb, gc, gd, rfl, rfl, rfl, rfl, rfl, hm⟩ := hcut
    have hbw : Below w.heap.size w wc := hm.2.2.2.2.2.2.2.2.2.2.2
    have hS := sch_any A c xs wc ((hx.below hbw).more hbw.size) hl
    clear hbw
    have HS := Lib.hid hS
    have HM := Lib.hid hm
    clear hS hm hx hl
    go_wp2_with (go_at_call 88; refine (HS.out).mono ?_; rintro e w1 ⟨rfl, hb1⟩)
    have R0 : AftRel w xs ⟨s0, s1, s2, s3, s4⟩ gb gc gd (.int .u32 s0) (.int .u32 s4) (.int .i64 0) w1 := by
      exact ⟨0, by omega, rfl, rfl, rfl, HM.out.below hb1 (Nat.le_refl _)⟩
    have HR0 := Lib.hid R0
    clear R0 HM
    go_loopw [5, 9, 29] (AftRel w xs ⟨s0, s1, s2, s3, s4⟩ gb gc gd) (fun _ _ i _ => 80 - (intOf i).toNat)
    case atStart => exact HR0.out
    case round =>
      obtain ⟨j, hj, rfl, rfl, rfl, hm⟩ := hrel
      clear HR0
      by_cases hlt : j < 80
      · have hidx := fun W => run_index80 xs j hlt W
        have m := hm
        obtain ⟨m1, m2, m3, n1, n2, n3, m4, m5, l1, l2, l3, hb⟩ := m
        have cb := cell_of_one m1
        have cc := cell_of_one m2
        have cd := cell_of_one m3
        have fb := free_of_one m1
        have fc := free_of_one m2
        have fd := free_of_one m3
        have HM := Lib.hid hm
        clear hm m1 m2 m3 m4 m5 hb
        have R : ∀ V W, cmpI xs ⟨s0, s1, s2, s3, s4⟩ j = V → AftMem w s0 s1 s2 s3 s4 V.a (rot30 V.b) V.c gb gc gd W → AftRel w xs ⟨s0, s1, s2, s3, s4⟩ gb gc gd (.int .u32 (xI xs j V)) (.int .u32 V.d) (.int .i64 ((j : Int) + 1)) W := by
          rintro V W rfl q
          exact ⟨j + 1, by omega, by go_num, rfl, rfl, q⟩
        have HR := Lib.hid R
        clear R
        generalize hv : cmpI xs ⟨s0, s1, s2, s3, s4⟩ j = V at cb cc cd HM ⊢
        have HV := Lib.hid hv
        clear hv
        obtain ⟨va, vb, vc, vd, ve⟩ := V
        have HR2 := Lib.hid (fun W => HR.out _ W HV.out)
        unfold xI at HR2
        clear HR HV
        generalize (schI xs 80).getD j 0 = wd at hidx HR2
        go_upto_region 8 with (first
          | (go_at_call 87; refine (clo_any j vb vc vd gb gc gd _ hlt cb cc cd).mono ?_; rintro e w2 ⟨rfl, rfl⟩)
          | (go_at_call 89; refine (rot5_any _ _).mono ?_; rintro e w2 ⟨rfl, rfl⟩))
        go_region_with (first
          | (go_at_call 89; refine (rot30_any _ _).mono ?_; rintro e w2 ⟨rfl, rfl⟩))
        all_goals
          go_wp2
          go_roundw
          case rel => exact HR2.out _ (HM.out.set va (rot30 vb) vc).drew
          case measure => simp [intOf]; omega
      · obtain rfl : j = 80 := by omega
        obtain ⟨m1, m2, m3, n1, n2, n3, m4, m5, l1, l2, l3, hb⟩ := hm
        have cb := cell_of_one m1
        have cc := cell_of_one m2
        have cd := cell_of_one m3
        have c0 := cell_of_row wr w.heap.size 0 _ 109 (0, 0) m4
        have c1 := cell_of_row wr w.heap.size 1 _ 109 (0, 0) m4
        have c2 := cell_of_row wr w.heap.size 2 _ 109 (0, 0) m4
        have c3 := cell_of_row wr w.heap.size 3 _ 109 (0, 0) m4
        have c4 := cell_of_row wr w.heap.size 4 _ 109 (0, 0) m4
        have r0 := cell_of_row wr (w.heap.size + 1) 0 _ 109 (0, 0) m5
        have r1 := cell_of_row wr (w.heap.size + 1) 1 _ 109 (0, 0) m5
        have r2 := cell_of_row wr (w.heap.size + 1) 2 _ 109 (0, 0) m5
        have r3 := cell_of_row wr (w.heap.size + 1) 3 _ 109 (0, 0) m5
        have r4 := cell_of_row wr (w.heap.size + 1) 4 _ 109 (0, 0) m5
        have fr := fun i => frozen_of_row wr (w.heap.size + 1) i _ 109 m5
        simp at c0 c1 c2 c3 c4 r0 r1 r2 r3 r4
        have HB := Lib.hid hb
        have M5 := Lib.hid m5
        clear m1 m2 m3 m4 m5 hb hlt hj
        go_wp2
        refine bodyPost_ret (v := .agg (aftI xs ⟨s0, s1, s2, s3, s4⟩).cells.toArray) ?_ rfl ⟨rfl, ?_⟩
        · have z0 := heap_setCell_same wr (w.heap.size + 1) 0 _ 109 (.int .u32 ((s0 + (cmpI xs ⟨s0, s1, s2, s3, s4⟩ 80).a) % 4294967296)) M5.out
          have z1 := heap_setCell_same _ (w.heap.size + 1) 1 _ 109 (.int .u32 ((s1 + (cmpI xs ⟨s0, s1, s2, s3, s4⟩ 80).b) % 4294967296)) z0
          have z2 := heap_setCell_same _ (w.heap.size + 1) 2 _ 109 (.int .u32 ((s2 + (cmpI xs ⟨s0, s1, s2, s3, s4⟩ 80).c) % 4294967296)) z1
          have z3 := heap_setCell_same _ (w.heap.size + 1) 3 _ 109 (.int .u32 ((s3 + (cmpI xs ⟨s0, s1, s2, s3, s4⟩ 80).d) % 4294967296)) z2
          have z4 := heap_setCell_same _ (w.heap.size + 1) 4 _ 109 (.int .u32 ((s4 + (cmpI xs ⟨s0, s1, s2, s3, s4⟩ 80).e) % 4294967296)) z3
          refine results_cell1 (p := 4) (ty := 109) rfl _ _ (w.heap.size + 1) 0 (aftI xs ⟨s0, s1, s2, s3, s4⟩).cells _ rfl (fun i v hv => ?_) Try.underlying109 rfl size77
          rw [Nat.zero_add, cell_of_row _ _ i _ 109 (0, 0) z4]
          simpa [aftI, V5.cells] using hv
        · exact ((((HB.out.setCell (by simp) _).setCell (by simp) _).setCell (by simp) _).setCell (by simp) _).setCell (by simp) _
end Go.Proofs.Ytjiiignbejbiiaa
end
section
namespace Go.Proofs.Ytjiiignbejbiiaa
set_option maxRecDepth 100000
open Go.RowKit
set_option linter.unusedVariables false

/-- What a text of n bytes is padded by. -/
def zerosN (n : Nat) : Nat := (119 - n % 64) % 64
def padB (n : Nat) : List UInt8 := (128 :: List.replicate (zerosN n) 0) ++ putB (n * 8 % 18446744073709551616) 8

set_option maxRecDepth 100000 in
theorem pad_any (n : Nat) (hn : n < 18446744073709551616) (w : World) : Calls Try.prog 80 #[.int .u64 (n : Int)] w (OwnB w (padB n)) := by
  have hz : zerosN n ≤ 63 := by unfold zerosN; omega
  have ez : (119 - (n : Int)) % 64 = (zerosN n : Int) := by unfold zerosN; omega
  have hmk : ∀ W, (Instr.makeSlice 29 (.int .u64 (1 + (119 - (n : Int)) % 64)) (.int .u64 (1 + (119 - (n : Int)) % 64))).run Try.prog W = .ok (.slice (some ⟨W.heap.size, 0, none⟩) (1 + zerosN n) (1 + zerosN n)) (W.alloc (.cells (List.replicate (1 + zerosN n) (Value.int .u8 0)).toArray 5)) := fun W => by
    obtain ⟨i0, hi, hz0, hz1, hz2⟩ := info_parts info5
    have hr := run_make (P := Try.prog) W 29 5 i0 _ Try.underlying29 hi hz0 .u64 .u64 (1 + (119 - (n : Int)) % 64) (1 + (119 - (n : Int)) % 64) (by omega) (by omega) (by rw [hz2]; omega) (by omega)
    rw [hr]
    have e1 : (1 + (119 - (n : Int)) % 64).toNat = 1 + zerosN n := by rw [ez]; omega
    rw [e1, hz1]
    congr 3
    apply Array.ext
    · simp [madeCells]
    · intro j h1 h2
      simp [madeCells, Value.cells, Nat.mod_one]
  have HZ := Lib.hid ez
  clear ez
  generalize hzz : zerosN n = z at hz hmk
  have hP : Calls Try.prog 90 #[.slice (some ⟨w.heap.size, 0, none⟩) (1 + z) (1 + z), .int .u64 (IntKind.u64.wrap ((n : Int) * 8)), .int .i64 8] (w.alloc (.cells ((Array.replicate (1 + z) (Value.int .u8 0)).setIfInBounds 0 (Value.int .u8 128)) 5)) (OwnB (w.alloc (.cells ((Array.replicate (1 + z) (Value.int .u8 0)).setIfInBounds 0 (Value.int .u8 128)) 5)) (padB n)) := by
    have e2 : IntKind.u64.wrap ((n : Int) * 8) = ((n * 8 % 18446744073709551616 : Nat) : Int) := by rw [IntKind.wrap_u64]; omega
    have e3 : (128 :: List.replicate z (0 : UInt8)).length = 1 + z := by simp; omega
    have hb : BAt (w.alloc (.cells ((Array.replicate (1 + z) (Value.int .u8 0)).setIfInBounds 0 (Value.int .u8 128)) 5)) (w.alloc (.cells ((Array.replicate (1 + z) (Value.int .u8 0)).setIfInBounds 0 (Value.int .u8 128)) 5)).heap.size (some ⟨w.heap.size, 0, none⟩) (128 :: List.replicate z 0) := by
      right
      refine ⟨w.heap.size, 0, rfl, by simp, fun j hj => ?_⟩
      rw [Nat.zero_add, cell_of_row _ w.heap.size j _ 5 (0, 0) (heap_alloc_new w _)]
      rw [e3] at hj
      match j, hj with
      | 0, _ => simp [Array.getElem?_setIfInBounds]
      | j + 1, hj =>
        have hjz : j < z := by omega
        simp [Array.getElem?_replicate]
        omega
    have := put_yes (some ⟨w.heap.size, 0, none⟩) (1 + z) (n * 8 % 18446744073709551616) 8 (128 :: List.replicate z 0) _ hb (by rw [e3]; omega) (by omega) (by omega) (by omega)
    rw [e3] at this
    rw [e2]
    unfold padB
    rw [hzz]
    exact this
  have HP := Lib.hid hP
  clear hzz hP
  have p0 : 0 < 1 + z := by omega
  have p1 : (0 : Int) < 1 + (z : Int) := by omega
  have p2 : (Array.replicate (1 + z) (Value.int .u8 0))[0]? = some (Value.int .u8 0) := by rw [Array.getElem?_replicate, if_pos (by omega)]
  go_enter Try.func80, Try.ntmps80
  go_wp2_with (go_at_call 90; refine (HP.out).mono ?_; rintro e w1 ⟨v1, rfl, ho1, hb1⟩)
  go_ret
  have hbw : Below w.heap.size w (w.alloc (.cells ((Array.replicate (1 + z) (Value.int .u8 0)).setIfInBounds 0 (Value.int .u8 128)) 5)) := (Below.refl _ w).alloc (Nat.le_refl _) _
  exact ⟨v1, rfl, own_base ho1 hbw.size, hbw.trans (hb1.mono hbw.size)⟩
end Go.Proofs.Ytjiiignbejbiiaa
end
