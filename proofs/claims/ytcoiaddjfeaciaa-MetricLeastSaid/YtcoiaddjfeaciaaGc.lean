/- Contracts of the small functions of package sha and of its reference: rotation, f and k. Conditions: words are numbers of 32 bits. Contract of the schedule of package sha. Conditions: a block has 64 bytes. -/
import Derived.Test.YtcoiaddjfeaciaaGb
import Derived.Laws.BitsAllLaws
import Derived.LoopTactic
import Derived.Deep.MidRow
section
namespace Go.Proofs.Ytcoiaddjfeaciaa
set_option maxRecDepth 100000
open Go.RowKit
set_option linter.unusedVariables false

/-- A word of 32 bits rotated to the left, by 1, 5 and 30. -/
def rot1 (x : Int) : Int := bits .or .u32 (x * 2 % 4294967296) (x / 2147483648)
def rot5 (x : Int) : Int := bits .or .u32 (x * 32 % 4294967296) (x / 134217728)
def rot30 (x : Int) : Int := bits .or .u32 (x * 1073741824 % 4294967296) (x / 4)
/-- f and k of a word. -/
def fI (i : Nat) (b c d : Int) : Int :=
  if i < 20 then bits .or .u32 (bits .and .u32 b c) (bits .and .u32 (bits .xor .u32 IntKind.u32.max b) d)
  else if i < 40 then bits .xor .u32 (bits .xor .u32 b c) d
  else if i < 60 then bits .or .u32 (bits .or .u32 (bits .and .u32 b c) (bits .and .u32 b d)) (bits .and .u32 c d)
  else bits .xor .u32 (bits .xor .u32 b c) d
def kI (i : Nat) : Int := if i < 20 then 1518500249 else if i < 40 then 1859775393 else if i < 60 then 2400959708 else 3395469782

theorem and31_1 : bits .and .u64 1 31 = 1 := by decide +kernel
theorem and31_5 : bits .and .u64 5 31 = 5 := by decide +kernel
theorem and31_30 : bits .and .u64 30 31 = 30 := by decide +kernel

section
variable (x : Int) (w : World)
theorem rot1_any : Calls Try.prog 92 #[.int .u32 x, .int .i64 1] w fun e w' => e = .returned (.int .u32 (rot1 x)) ∧ w = w' := by
  have e1 := and31_1
  go_enter Try.func92, Try.ntmps92
  go_wp2
  go_ret
  exact ⟨rfl, rfl⟩
theorem rot5_any : Calls Try.prog 92 #[.int .u32 x, .int .i64 5] w fun e w' => e = .returned (.int .u32 (rot5 x)) ∧ w = w' := by
  have e1 := and31_5
  go_enter Try.func92, Try.ntmps92
  go_wp2
  go_ret
  exact ⟨rfl, rfl⟩
theorem rot30_any : Calls Try.prog 92 #[.int .u32 x, .int .i64 30] w fun e w' => e = .returned (.int .u32 (rot30 x)) ∧ w = w' := by
  have e1 := and31_30
  go_enter Try.func92, Try.ntmps92
  go_wp2
  go_ret
  exact ⟨rfl, rfl⟩
theorem turned1_any : Calls Try.prog 80 #[.int .u32 x, .int .i64 1] w fun e w' => e = .returned (.int .u32 (rot1 x)) ∧ w = w' := by
  go_enter Try.func80, Try.ntmps80
  go_wp2
  go_ret
  exact ⟨rfl, rfl⟩
theorem turned5_any : Calls Try.prog 80 #[.int .u32 x, .int .i64 5] w fun e w' => e = .returned (.int .u32 (rot5 x)) ∧ w = w' := by
  go_enter Try.func80, Try.ntmps80
  go_wp2
  go_ret
  exact ⟨rfl, rfl⟩
theorem turned30_any : Calls Try.prog 80 #[.int .u32 x, .int .i64 30] w fun e w' => e = .returned (.int .u32 (rot30 x)) ∧ w = w' := by
  go_enter Try.func80, Try.ntmps80
  go_wp2
  go_ret
  exact ⟨rfl, rfl⟩
end

theorem clo_any (i : Nat) (b c d : Int) (gb gc gd : Nat) (w : World) (hi : i < 80) (hb : w.cell? ⟨gb, 0, none⟩ = some (.int .u32 b)) (hc : w.cell? ⟨gc, 0, none⟩ = some (.int .u32 c)) (hd : w.cell? ⟨gd, 0, none⟩ = some (.int .u32 d)) :
   Calls Try.prog 90 #[.int .i64 (i : Int), .pointer (some ⟨gb, 0, none⟩), .pointer (some ⟨gc, 0, none⟩), .pointer (some ⟨gd, 0, none⟩)] w fun e w' => e = .returned (.tuple #[.int .u32 (fI i b c d), .int .u32 (kI i)]) ∧ w = w' := by
  by_cases h1 : i < 20
  · simp only [fI, kI, if_pos h1]
    go_enter Try.func90, Try.ntmps90
    go_wp2
    all_goals go_ret2
    all_goals exact ⟨rfl, rfl⟩
  · by_cases h2 : i < 40
    · simp only [fI, kI, if_neg h1, if_pos h2]
      go_enter Try.func90, Try.ntmps90
      go_wp2
      all_goals go_ret2
      all_goals exact ⟨rfl, rfl⟩
    · by_cases h3 : i < 60
      · simp only [fI, kI, if_neg h1, if_neg h2, if_pos h3]
        go_enter Try.func90, Try.ntmps90
        go_wp2
        all_goals go_ret2
        all_goals exact ⟨rfl, rfl⟩
      · simp only [fI, kI, if_neg h1, if_neg h2, if_neg h3]
        go_enter Try.func90, Try.ntmps90
        go_wp2
        all_goals go_ret2
        all_goals exact ⟨rfl, rfl⟩

theorem part_any (i : Nat) (b c d : Int) (w : World) (hi : i < 80) :
   Calls Try.prog 79 #[.int .i64 (i : Int), .int .u32 b, .int .u32 c, .int .u32 d] w fun e w' => e = .returned (.tuple #[.int .u32 (fI i b c d), .int .u32 (kI i)]) ∧ w = w' := by
  by_cases h1 : i < 20
  · simp only [fI, kI, if_pos h1]
    go_enter Try.func79, Try.ntmps79
    go_wp2
    all_goals go_ret2
    all_goals exact ⟨rfl, rfl⟩
  · by_cases h2 : i < 40
    · simp only [fI, kI, if_neg h1, if_pos h2]
      go_enter Try.func79, Try.ntmps79
      go_wp2
      all_goals go_ret2
      all_goals exact ⟨rfl, rfl⟩
    · by_cases h3 : i < 60
      · simp only [fI, kI, if_neg h1, if_neg h2, if_pos h3]
        go_enter Try.func79, Try.ntmps79
        go_wp2
        all_goals go_ret2
        all_goals exact ⟨rfl, rfl⟩
      · simp only [fI, kI, if_neg h1, if_neg h2, if_neg h3]
        go_enter Try.func79, Try.ntmps79
        go_wp2
        all_goals go_ret2
        all_goals exact ⟨rfl, rfl⟩
end Go.Proofs.Ytcoiaddjfeaciaa
end
section
namespace Go.Proofs.Ytcoiaddjfeaciaa
set_option maxRecDepth 100000
open Go.RowKit
set_option linter.unusedVariables false

/-- The words of a block. -/
def wordI (xs : List UInt8) (i : Nat) : Int := (getN ((xs.drop (i * 4)).take 4) : Int)
def nextI (xs : List UInt8) (l : List Int) (j : Nat) : Int :=
  if j < 16 then wordI xs j else rot1 (bits .xor .u32 (bits .xor .u32 (bits .xor .u32 (l.getD (j - 3) 0) (l.getD (j - 8) 0)) (l.getD (j - 14) 0)) (l.getD (j - 16) 0))
def schI (xs : List UInt8) : Nat → List Int
  | 0 => []
  | j + 1 => schI xs j ++ [nextI xs (schI xs j) j]
theorem schI_length (xs : List UInt8) (j : Nat) : (schI xs j).length = j := by
  induction j with
  | zero => rfl
  | succ j ih => simp [schI, ih]
def ucells (l : List Int) : List Value := l.map (Value.int .u32)
def schArr (xs : List UInt8) (j : Nat) : Array Value := (ucells (schI xs j) ++ List.replicate (80 - j) (Value.int .u32 0)).toArray
theorem schArr_size (xs : List UInt8) (j : Nat) (h : j ≤ 80) : (schArr xs j).size = 80 := by
  simp [schArr, ucells, schI_length]
  omega
theorem schArr_succ (xs : List UInt8) (j : Nat) (h : j < 80) : (schArr xs j).setIfInBounds j (.int .u32 (nextI xs (schI xs j) j)) = schArr xs (j + 1) := by
  have hl : (ucells (schI xs j)).length = j := by simp [ucells, schI_length]
  unfold schArr
  rw [List.setIfInBounds_toArray]
  congr 1
  have e : 80 - j = (80 - (j + 1)) + 1 := by omega
  rw [e, List.replicate_succ, List.set_append_right _ _ (by omega), hl, Nat.sub_self, List.set_cons_zero]
  simp [schI, ucells]
theorem schArr_get (xs : List UInt8) (j i : Nat) (h : i < j) : (schArr xs j)[i]? = some (.int .u32 ((schI xs j).getD i 0)) := by
  have hl : (ucells (schI xs j)).length = j := by simp [ucells, schI_length]
  unfold schArr
  rw [List.getElem?_toArray, List.getElem?_append_left (by omega)]
  simp [ucells, List.getD, List.getElem?_eq_getElem (show i < (schI xs j).length by rw [schI_length]; exact h)]

theorem info101 : (Try.prog.info? 119).map (·.zero) = some (some (.agg (schArr [] 0))) := by kernel_rfl
theorem zero101 (w : World) : (zeroValue 119).run Try.prog w = .ok (.agg (schArr [] 0)) w := by
  have h := info101
  cases hi : Try.prog.info? 119 with
  | none => rw [hi] at h; cases h
  | some i =>
    rw [hi] at h
    simp at h
    simp [zeroValue, typeInfo, hi, h]
theorem schArr_zero (xs : List UInt8) : schArr xs 0 = schArr [] 0 := rfl

/-- A function's one result that lies in memory. -/
theorem results_cell1 {fn : Func} {p : Tmp} {ty : TypeId} (h : fn.results = #[.cell p ty]) {P : Program} (tmps : Array Value) (w : World) (b o : Nat) (cs : List Value) (d : TypeDesc) (hp : tmps.getD p undef = .pointer (some ⟨b, o, none⟩))
    (hc : w.rangeAt b o cs) (hu : P.underlying ty = some d) (hd : d.isRow = true) (hi : (P.info? ty).map (·.size) = some cs.length) : (results fn tmps).run P w = .ok (.agg cs.toArray) w := by
  have h1 := run_loadVar_mid (P := P) w b o ty cs d hc hu hd hi
  have hp' : tmps[p]?.getD undef = .pointer (some ⟨b, o, none⟩) := by simpa using hp
  simp [results, h, hp', h1, asAddr]
theorem below_cells {B b : Nat} {a : World} (hb : B ≤ b) : ∀ (vs : List Value) (o : Nat) (w : World), Below B a w → Below B a (w.setCells b o vs)
  | [], _, _, h => h
  | _ :: vs, o, w, h => below_cells hb vs (o + 1) _ (h.setCell (p := ⟨b, o, none⟩) hb _)
theorem ucells_one (l : List Int) : ∀ v ∈ ucells l, v.oneCell' = true := by
  intro u hu
  obtain ⟨_, _, rfl⟩ := List.mem_map.1 hu
  rfl
/-- The 80 words, as cells. -/
def sch80 (xs : List UInt8) : List Value := ucells (schI xs 80)
theorem sch80_length (xs : List UInt8) : (sch80 xs).length = 80 := by simp [sch80, ucells, schI_length]
theorem schArr80 (xs : List UInt8) : schArr xs 80 = (sch80 xs).toArray := by simp [schArr, sch80]
theorem size101 : (Try.prog.info? 119).map (·.size) = some 80 := by kernel_rfl

def SchRel (w : World) (xs : List UInt8) (i : Value) (wr : World) : Prop :=
  ∃ j : Nat, j ≤ 80 ∧ i = .int .i64 (j : Int) ∧ wr.heap[w.heap.size + 1]? = some (.cells (schArr xs j) 119 (0, 0)) ∧ wr.heap[w.heap.size]? = some (.cells (schArr [] 0) 119 (0, 0)) ∧ Below w.heap.size w wr

set_option maxRecDepth 100000 in
set_option maxHeartbeats 1600000 in
theorem sch_any (A : Option Addr) (c : Nat) (xs : List UInt8) (w : World) (hx : BAt w w.heap.size A xs) (hl : xs.length = 64) :
    Calls Try.prog 91 #[.slice A 64 c] w fun e w' => e = .returned (.agg (sch80 xs).toArray) ∧ Below w.heap.size w w' := by
  have hz := fun W => zero101 W
  have HX := Lib.hid hx
  have HL := Lib.hid hl
  clear hx hl
  generalize hZ : schArr [] 0 = Z at hz
  have HZ := Lib.hid hZ
  clear hZ
  go_enter Try.func91, Try.ntmps91
  go_wp2
  have R0 : SchRel w xs (.int .i64 0) ((w.alloc (.cells Z 119)).alloc (.cells Z 119)) := by
    refine ⟨0, by omega, rfl, ?_, ?_, ((Below.refl _ w).alloc (Nat.le_refl _) _).alloc (by simp) _⟩
    · have := heap_alloc_new (w.alloc (.cells Z 119)) (.cells Z 119)
      rw [schArr_zero, HZ.out]
      simpa using this
    · have := heap_alloc_new w (.cells Z 119)
      rw [HZ.out]
      rw [Below.heap_alloc _ _ _ (by simp)]
      exact this
  have HR0 := Lib.hid R0
  clear R0 HZ hz
  go_loopw [7] (SchRel w xs) (fun i _ => 80 - (intOf i).toNat)
  case atStart => exact HR0.out
  case round =>
    obtain ⟨j, hj, rfl, hq, hr, hb⟩ := hrel
    clear HR0
    by_cases hlt : j < 80
    · have hcj : wr.cell? ⟨w.heap.size + 1, j, none⟩ = some (.int .u32 0) := by
        rw [cell_of_row wr _ j _ 119 (0, 0) hq]
        have hl : (ucells (schI xs j)).length = j := by simp [ucells, schI_length]
        unfold schArr
        rw [List.getElem?_toArray, List.getElem?_append_right (by omega), hl, Nat.sub_self, List.getElem?_replicate, if_pos (by omega)]
      have hfj := frozen_of_row wr (w.heap.size + 1) j _ 119 hq
      have R : ∀ w', (wr.setCell ⟨w.heap.size + 1, j, none⟩ (.int .u32 (nextI xs (schI xs j) j))).heap.size = w'.heap.size → Below (wr.heap.size) (wr.setCell ⟨w.heap.size + 1, j, none⟩ (.int .u32 (nextI xs (schI xs j) j))) w' → SchRel w xs (.int .i64 ((j : Int) + 1)) w' := by
        intro w' hs hbl
        have s1 := heap_setCell_same wr (w.heap.size + 1) j _ 119 (.int .u32 (nextI xs (schI xs j) j)) hq
        rw [schArr_succ xs j hlt] at s1
        have l1 : w.heap.size + 1 < wr.heap.size := (Array.getElem?_eq_some_iff.1 hq).1
        refine ⟨j + 1, by omega, by go_num, (hbl.block _ l1).trans s1, ?_, ?_⟩
        · rw [hbl.block _ (by omega), Below.heap_setCell _ _ _ _ (by simp)]
          exact hr
        · exact (hb.setCell (p := ⟨w.heap.size + 1, j, none⟩) (by simp) _).trans (hbl.mono (by omega))
      have HR := Lib.hid R
      by_cases h16 : j < 16
      · obtain ⟨N4, hN⟩ : ∃ N4, getN ((xs.drop (j * 4)).take 4) = N4 := ⟨_, rfl⟩
        have hN4 : N4 < 4294967296 := by
          rw [← hN]
          have h1 := getN_lt ((xs.drop (j * 4)).take 4)
          have h2 : 256 ^ ((xs.drop (j * 4)).take 4).length ≤ 256 ^ 4 := Nat.pow_le_pow_right (by omega) (by rw [List.length_take]; omega)
          omega
        have e1 : nextI xs (schI xs j) j = (N4 : Int) := by
          unfold nextI wordI
          rw [if_pos h16, hN]
        rw [e1] at HR
        have hl := HL.out
        have hG : Calls Try.prog 105 #[.slice A 64 c, .int .i64 ((j : Int) * 4), .int .i64 4] wr fun e w' => e = .returned (.tuple #[.int .u64 (N4 : Int), .bool true]) ∧ wr = w' := by
          have := get_yes A c xs (j * 4) 4 wr ((HX.out.below hb).more hb.size) (by omega) (by omega) (by omega) (by omega)
          rw [hN, hl, Int.natCast_mul] at this
          exact this
        have HG := Lib.hid hG
        clear hq hr hb R hN e1 hG hl
        go_wp2_with (go_at_call 105; refine (HG.out).mono ?_; rintro e w1 ⟨rfl, rfl⟩)
        go_roundw
        case rel => exact HR.out _ rfl (Below.refl _ _)
        case measure => simp [intOf]; omega
      · have g := fun k (hk : 1 ≤ k ∧ k ≤ j) => (cell_of_row wr (w.heap.size + 1) (j - k) _ 119 (0, 0) hq).trans (schArr_get xs j (j - k) (by omega))
        have g3 := g 3 (by omega)
        have g8 := g 8 (by omega)
        have g14 := g 14 (by omega)
        have g16 := g 16 (by omega)
        have e1 : nextI xs (schI xs j) j = rot1 (bits .xor .u32 (bits .xor .u32 (bits .xor .u32 ((schI xs j).getD (j - 3) 0) ((schI xs j).getD (j - 8) 0)) ((schI xs j).getD (j - 14) 0)) ((schI xs j).getD (j - 16) 0)) := by
          unfold nextI
          rw [if_neg h16]
        rw [e1] at HR
        generalize (schI xs j).getD (j - 3) 0 = x3 at g3 HR
        generalize (schI xs j).getD (j - 8) 0 = x8 at g8 HR
        generalize (schI xs j).getD (j - 14) 0 = x14 at g14 HR
        generalize (schI xs j).getD (j - 16) 0 = x16 at g16 HR
        have hj16 : (16 : Int) ≤ (j : Int) := by omega
        clear hq hr hb R e1 g HX HL
        go_wp2
        have k3 : IntKind.i64.wrap ((j : Int) - 3) = (j : Int) - 3 := by rw [IntKind.wrap_i64]; omega
        have k8 : IntKind.i64.wrap ((j : Int) - 8) = (j : Int) - 8 := by rw [IntKind.wrap_i64]; omega
        have k14 : IntKind.i64.wrap ((j : Int) - 14) = (j : Int) - 14 := by rw [IntKind.wrap_i64]; omega
        have k16 : IntKind.i64.wrap ((j : Int) - 16) = (j : Int) - 16 := by rw [IntKind.wrap_i64]; omega
        have t3 : ((j : Int) - 3).toNat = j - 3 := by omega
        have t8 : ((j : Int) - 8).toNat = j - 8 := by omega
        have t14 : ((j : Int) - 14).toNat = j - 14 := by omega
        have t16 : ((j : Int) - 16).toNat = j - 16 := by omega
        have b3 : (3 : Int) ≤ (j : Int) := by omega
        have b8 : (8 : Int) ≤ (j : Int) := by omega
        have b14 : (14 : Int) ≤ (j : Int) := by omega
        have b3' : (j : Int) - 3 < 80 := by omega
        have b8' : (j : Int) - 8 < 80 := by omega
        have b14' : (j : Int) - 14 < 80 := by omega
        have b16' : (j : Int) - 16 < 80 := by omega
        go_region_held3 (fun w' => w'.cell? ⟨w.heap.size + 1, j - 3, none⟩ = some (.int .u32 x3) ∧ w'.cell? ⟨w.heap.size + 1, j - 8, none⟩ = some (.int .u32 x8) ∧ w'.cell? ⟨w.heap.size + 1, j - 14, none⟩ = some (.int .u32 x14) ∧ w'.cell? ⟨w.heap.size + 1, j - 16, none⟩ = some (.int .u32 x16))
          (first | exact ⟨g3, g8, g14, g16⟩ | exact ⟨(World.cell?_setCell_other wr _ _ _ (fun e => by simp at e <;> omega)).trans g3, (World.cell?_setCell_other wr _ _ _ (fun e => by simp at e <;> omega)).trans g8, (World.cell?_setCell_other wr _ _ _ (fun e => by simp at e <;> omega)).trans g14, (World.cell?_setCell_other wr _ _ _ (fun e => by simp at e <;> omega)).trans g16⟩) (first
          | (go_at_call 92; refine (rot1_any _ _).mono ?_; rintro e w1 ⟨rfl, rfl⟩))
        clear k3 k8 k14 k16 t3 t8 t14 t16
        go_wp2
        go_roundw
        case rel => exact HR.out _ rfl (Below.refl _ _).drew
        case measure => simp [intOf]; omega
    · obtain rfl : j = 80 := by omega
      have q1 : wr.rangeAt (w.heap.size + 1) 0 (schArr xs 80).toList := fun i v hv => by
        rw [Nat.zero_add, cell_of_row wr _ i _ 119 (0, 0) hq]
        simpa using hv
      have q2 : wr.there w.heap.size 0 80 := fun i hi => by
        rw [Nat.zero_add, cell_of_row wr _ i _ 119 (0, 0) hr, frozen_of_row wr _ i _ 119 hr]
        have := schArr_size [] 0 (by omega)
        exact ⟨by simp; omega, rfl⟩
      have hlen := sch80_length xs
      have q1' : wr.rangeAt (w.heap.size + 1) 0 (sch80 xs) := by
        have e : (schArr xs 80).toList = sch80 xs := by rw [schArr80]
        rw [e] at q1
        exact q1
      have HC := Lib.hid (fun (v : Value) (hv : v ∈ sch80 xs) => ucells_one _ v hv)
      have HB := Lib.hid hb
      have HS := Lib.hid (World.rangeAt_setCells_same wr w.heap.size 0 (sch80 xs) (by rw [hlen]; exact q2))
      have HLEN := Lib.hid hlen
      have HQ1 := Lib.hid q1'
      have HQ2 := Lib.hid q2
      clear hq hr hb HX HL hj hlt hlen q1 q1' q2
      have hsz : (sch80 xs).toArray.size = 80 := (List.size_toArray).trans HLEN.out
      have HT : Hid (wr.there w.heap.size 0 (sch80 xs).toArray.size) := by
        rw [hsz]
        exact HQ2.out
      have HI : Hid ((Try.prog.info? 119).map (·.size) = some (sch80 xs).toArray.size) := by
        rw [hsz]
        exact size101
      clear hsz
      have HJ : Hid ((Try.prog.info? 119).map (·.size) = some (sch80 xs).length) := by
        rw [HLEN.out]
        exact size101
      go_wp2_with ((with_reducible refine wpList_load_mid (op := ⟨some 46, _, _, _, _, _⟩) rfl 119 (.tmp 3) rfl (w.heap.size + 1) 0 ?_ (sch80 xs) _ HQ1.out Try.underlying119 rfl HJ.out ?_); rfl; refine wpList_store_mid rfl 119 (.tmp 2) (.tmp 46) rfl w.heap.size 0 (sch80 xs).toArray rfl rfl HT.out HI.out (all_oneCell_toArray HC.out) ?_)
      refine bodyPost_ret (v := .agg (sch80 xs).toArray) ?_ rfl ?_
      · exact results_cell1 (p := 2) (ty := 119) rfl _ _ w.heap.size 0 (sch80 xs) _ rfl (by simpa using HS.out) Try.underlying119 rfl HJ.out
      · exact ⟨rfl, by simpa using below_cells (Nat.le_refl _) (sch80 xs) 0 wr HB.out⟩
end Go.Proofs.Ytcoiaddjfeaciaa
end
