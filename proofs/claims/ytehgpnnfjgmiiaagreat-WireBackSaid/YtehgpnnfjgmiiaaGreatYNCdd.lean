/- Contracts of Good, Find, allGood and isGoodList of package contact. Conditions: at most 10,000 contacts. Contracts of allGood and isGoodList of package contact. Conditions: at most 10,000 contacts. Contract of isGoodList of package contact. Conditions: at most 10,000 contacts. Contract of slices.Concat at two slices of bytes. Conditions: at most 1,000 bytes each, not both empty. -/
import Derived.Test.YtehgpnnfjgmiiaaGreatYOja
import Derived.Test.YtehgpnnfjgmiiaaGreatYOcb
import Derived.Test.YtehgpnnfjgmiiaaGreatYOga
import Derived.Test.YtehgpnnfjgmiiaaGreatYRIis
import Derived.Test.YtehgpnnfjgmiiaaGreatYRERefc
import Derived.Test.YtehgpnnfjgmiiaaGreatYRIip
import Derived.Test.YtehgpnnfjgmiiaaGreatYREOcta
import Derived.Test.YtehgpnnfjgmiiaaGreatYNCda
import Derived.Test.YtehgpnnfjgmiiaaGreatYNAPSrb
import Derived.Shelf.SlicesQ.IndexFunc
import Derived.Shelf.Spec.SlicesGrow
section
namespace Go.Proofs
open Go.Shelf
def Tryz.idxC_ren : Go.Shelf.Ren := ⟨fun | 6 => 126 | 8 => 111 | n => n, fun | 0 => 0 | 3 => 3 | 4 => 4 | 22 => 25 | 23 => 63 | 25 => 140 | n => n, fun | n => n⟩
theorem Tryz.idxC : Go.Proofs.SlLaysH0.n6 Tryz.prog Tryz.idxC_ren := {
  mixed := by kernel_rfl
  f6 := ⟨Tryz.f126.name, by decide, Tryz.func126.trans (congrArg some (by kernel_rfl))⟩
  t0 := Tryz.underlying0
  a0 := Tryz.isAgg0
  z0 := Tryz.sizeOf0
  v0 := Tryz.zeroValue0
  t3 := Tryz.underlying3
  a3 := Tryz.isAgg3
  z3 := Tryz.sizeOf3
  v3 := Tryz.zeroValue3
  t4 := Tryz.underlying4
  a4 := Tryz.isAgg4
  z4 := Tryz.sizeOf4
  v4 := Tryz.zeroValue4
  t22 := Tryz.underlying25
  a22 := Tryz.isAgg25
  z22 := Tryz.sizeOf25
  v22 := Tryz.zeroValue25
  t25 := Tryz.underlying140
  a25 := Tryz.isAgg140
  z25 := Tryz.sizeOf140
  v25 := Tryz.zeroValue140 }
theorem Tryz.conC : Go.Proofs.SlLaysH0.n8 Tryz.prog Tryz.idxC_ren := {
  mixed := by kernel_rfl
  f6 := ⟨Tryz.f126.name, by decide, Tryz.func126.trans (congrArg some (by kernel_rfl))⟩
  f8 := ⟨Tryz.f111.name, by decide, Tryz.func111.trans (congrArg some (by kernel_rfl))⟩
  t0 := Tryz.underlying0
  a0 := Tryz.isAgg0
  z0 := Tryz.sizeOf0
  v0 := Tryz.zeroValue0
  t3 := Tryz.underlying3
  a3 := Tryz.isAgg3
  z3 := Tryz.sizeOf3
  v3 := Tryz.zeroValue3
  t4 := Tryz.underlying4
  a4 := Tryz.isAgg4
  z4 := Tryz.sizeOf4
  v4 := Tryz.zeroValue4
  t22 := Tryz.underlying25
  a22 := Tryz.isAgg25
  z22 := Tryz.sizeOf25
  v22 := Tryz.zeroValue25
  t25 := Tryz.underlying140
  a25 := Tryz.isAgg140
  z25 := Tryz.sizeOf140
  v25 := Tryz.zeroValue140 }
end Go.Proofs
namespace Go.Proofs.YtehgpnnfjgmiiaaGreat
open Go.Shelf Go.RowKit Go.Lib Go.Sort Go.Great
set_option maxRecDepth 100000
set_option maxHeartbeats 1000000
theorem range_back {w : World} {g o : Nat} {a b : List Value} (h : w.rangeAt g o (a ++ b)) : w.rangeAt g (o + a.length) b := fun j v hv => by
  have := h (a.length + j) v (by rw [List.getElem?_append_right (by omega), Nat.add_sub_cancel_left]; exact hv)
  rwa [← Nat.add_assoc] at this
theorem load58 {w : World} {g o h p : Nat} (hr : w.rangeAt g o [.int .u32 (h : Int), .int .u16 (p : Int)]) : (loadVar 61 ⟨g, o, none⟩).run Tryz.prog w = .ok (.agg (adr h p)) w :=
  run_loadVar_mid w g o 61 [.int .u32 (h : Int), .int .u16 (p : Int)] _ hr Tryz.underlying61 rfl (by kernel_rfl)
theorem box_addr {w : World} {g : Nat} {c : Con} (h : w.heap[g]? = some (.cells (encC c).toArray 63 (0, 0))) : (loadVar 61 ⟨g, 20, none⟩).run Tryz.prog w = .ok (.agg (adr c.1.2.1 c.1.2.2)) w := by
  have h1 : w.rangeAt g 0 (encC c) := row_range h
  rw [encC_id] at h1
  have h2 := range_back h1
  rw [show 0 + (encID (idC c)).length = 20 by rw [Nat.zero_add]; unfold encID; rw [bcells_length]; exact (idC c).property] at h2
  exact load58 h2
theorem cgood_any (c : Con) (w : World) : Calls Tryz.prog 113 #[.agg (encC c).toArray] w fun e w' => e = .returned (.bool (ctGood c.1)) ∧ Below w.heap.size w w' := by
  have hb : Below w.heap.size w (w.alloc (.cells (encC c).toArray 63)) := (Below.refl _ w).alloc (Nat.le_refl _) _
  have HK := Lib.hid (box_addr (heap_alloc_new w (.cells (encC c).toArray 63)))
  have HG : Hid (∀ W, Below w.heap.size w W → Calls Tryz.prog 124 #[.agg (adr c.1.2.1 c.1.2.2)] W fun e w' => e = .returned (.bool (ctGood c.1)) ∧ Below w.heap.size w w') := Lib.hid (fun W hW => (good_any c.1.2.1 c.1.2.2 W).mono (by rintro e w' ⟨rfl, h⟩; exact ⟨rfl, hW.trans (h.mono hW.size)⟩))
  have HB := Lib.hid hb
  generalize adr c.1.2.1 c.1.2.2 = AD at HK HG
  generalize (encC c).toArray = X at HK HB ⊢
  generalize ctGood c.1 = gd at HG ⊢
  clear hb
  go_enter Tryz.func113, Tryz.ntmps113
  go_wp2_with (first
    | ((with_reducible refine wpList_loadV (op := ⟨some 4, _, _, _, _, _⟩) rfl 61 (.tmp 3) rfl _ ?_ _ HK.out ?_); rfl)
    | (go_at_call 124; (with_reducible refine (HG.out _ HB.out).mono ?_); rintro e w1 ⟨rfl, hb1⟩))
  go_ret
  exact ⟨rfl, hb1⟩
def isC (t : IDv) (c : Con) : Bool := (idC c).val == t.val
/-- The first place where p holds, or -1. -/
def idxP (p : Con → Bool) (L : List Con) : Int := Lib.idxBy (fun _ y => p y) L default
theorem idxP_nil (p : Con → Bool) : idxP p [] = -1 := rfl
theorem cells_of_CAt {w : World} {g off : Nat} {L : List Con} (hr : w.rangeAt g off (flatE encC L)) : ∀ j, j < L.length → ∀ i v, (encC L[j]!)[i]? = some v → w.cell? ⟨g, off + j * 22 + i, none⟩ = some v := by
  intro j hj i v hv
  have hi := (List.getElem?_eq_some_iff.1 hv).1
  rw [encC_length] at hi
  rw [getElem!_pos L j hj] at hv
  have := flatE_get encC_length (by omega) L j _ i (List.getElem?_eq_getElem hj) hi
  rw [hv] at this
  rw [Nat.add_assoc]
  exact hr _ v this
theorem idx_any (p : Con → Bool) (g : Nat) (lb : Array Value) (eg : ∀ args w, (callFunc g args).run Tryz.prog w = .ok (.enter g args) w) (A : Option Addr) (c : Nat) (L : List Con) (w : World) (hL : L.length ≤ 10000)
    (hp : ∀ W x, Below w.heap.size w W → Calls Tryz.prog g (#[.agg (encC x).toArray] ++ lb) W fun e w' => e = .returned (.bool (p x)) ∧ Below w.heap.size w w') (hA : CAt w w.heap.size A L) :
    Calls Tryz.prog 126 #[.slice A L.length c, .func (.func g) #[] lb] w fun e w' => e = .returned (.int .i64 (idxP p L)) ∧ Below w.heap.size w w' := by
  rcases hA with rfl | ⟨b, off, rfl, hb, hr⟩
  · have : Calls Tryz.prog 126 #[.slice A 0 c, .func (.func g) #[] lb] w fun e w' => e = .returned (.int .i64 (-1)) ∧ Below w.heap.size w w' := by
      clear hp
      go_enter Tryz.func126, Tryz.ntmps126
      go_wp2
      go_loopg [8] 0 (fun _ s wr => s = .int .i64 0 ∧ wr = w)
      case atStart => exact ⟨rfl, rfl⟩
      case round =>
        obtain ⟨rfl, rfl⟩ := hrel
        go_wp2
        go_ret
        exact ⟨rfl, Below.refl _ _⟩
    exact this
  · have h := AnyQ.slices_IndexFunc Tryz.idxC 22 aE60 zE60 encC encC_length p g lb eg b off L.length c L w hp (Nat.le_refl _) (by omega) hb (cells_of_CAt hr)
    rw [List.take_length] at h
    exact h
end Go.Proofs.YtehgpnnfjgmiiaaGreat
end
section
namespace Go.Proofs.YtehgpnnfjgmiiaaGreat
open Go.Shelf Go.RowKit Go.Lib Go.Sort Go.Great
set_option maxRecDepth 100000
set_option maxHeartbeats 1000000
theorem load60 {w : World} {g o : Nat} {c : Con} (hr : w.rangeAt g o (encC c)) : (loadVar 63 ⟨g, o, none⟩).run Tryz.prog w = .ok (.agg (encC c).toArray) w :=
  run_loadVar_mid w g o 63 (encC c) _ hr Tryz.underlying63 rfl (by rw [encC_length]; kernel_rfl)
theorem clo105_any (x : Con) (w : World) : Calls Tryz.prog 112 #[.agg (encC x).toArray] w fun e w' => e = .returned (.bool (!ctGood x.1)) ∧ Below w.heap.size w w' := by
  have hb : Below w.heap.size w (w.alloc (.cells (encC x).toArray 63)) := (Below.refl _ w).alloc (Nat.le_refl _) _
  have HK := Lib.hid (load60 (row_range (heap_alloc_new w (.cells (encC x).toArray 63))))
  have HG : Hid (∀ W, Below w.heap.size w W → Calls Tryz.prog 113 #[.agg (encC x).toArray] W fun e w' => e = .returned (.bool (ctGood x.1)) ∧ Below w.heap.size w w') := Lib.hid (fun W hW => (cgood_any x W).mono (by rintro e w' ⟨rfl, h⟩; exact ⟨rfl, hW.trans (h.mono hW.size)⟩))
  have HB := Lib.hid hb
  generalize (encC x).toArray = X at HK HG HB ⊢
  generalize ctGood x.1 = gd at HG ⊢
  clear hb
  go_enter Tryz.func112, Tryz.ntmps112
  go_wp2_with (first
    | ((with_reducible refine wpList_loadV (op := ⟨some 3, _, _, _, _, _⟩) rfl 63 (.tmp 1) rfl _ ?_ _ HK.out ?_); rfl)
    | (go_at_call 113; (with_reducible refine (HG.out _ HB.out).mono ?_); rintro e w1 ⟨rfl, hb1⟩))
  go_ret
  exact ⟨rfl, hb1⟩
theorem cont_any (A : Option Addr) (c : Nat) (L : List Con) (w : World) (hL : L.length ≤ 10000) (hA : CAt w w.heap.size A L) :
    Calls Tryz.prog 111 #[.slice A L.length c, .func (.func 112) #[] #[]] w fun e w' => e = .returned (.bool (L.any fun x => !ctGood x.1)) ∧ Below w.heap.size w w' := by
  have eg : ∀ args w, (callFunc 112 args).run Tryz.prog w = .ok (.enter 112 args) w := enters_of Tryz.func112 (by kernel_rfl) rfl
  have hp : ∀ W (x : Con), Below w.heap.size w W → Calls Tryz.prog 112 (#[.agg (encC x).toArray] ++ #[]) W fun e w' => e = .returned (.bool (!ctGood x.1)) ∧ Below w.heap.size w w' := fun W x hW => (clo105_any x W).mono (by rintro e w' ⟨rfl, h⟩; exact ⟨rfl, hW.trans (h.mono hW.size)⟩)
  rcases hA with rfl | ⟨b, off, rfl, hb, hr⟩
  · have HI := Lib.hid (idx_any (fun x => !ctGood x.1) 112 #[] eg A c [] w (by simp) hp (.inl rfl))
    rw [idxP_nil] at HI
    simp only [List.length_nil] at HI
    have : Calls Tryz.prog 111 #[.slice A 0 c, .func (.func 112) #[] #[]] w fun e w' => e = .returned (.bool false) ∧ Below w.heap.size w w' := by
      clear hp eg
      go_enter Tryz.func111, Tryz.ntmps111
      go_wp2_with (first | (go_at_call 126; (with_reducible refine HI.out.mono ?_); rintro e w1 ⟨rfl, hb1⟩))
      go_ret
      exact ⟨rfl, hb1⟩
    exact this
  · have h := AnyQ.slices_ContainsFunc Tryz.conC 22 aE60 zE60 encC encC_length (fun x => !ctGood x.1) 112 #[] eg b off L.length c L w hp (Nat.le_refl _) (by omega) hb (cells_of_CAt hr)
    rw [List.take_length] at h
    exact h
theorem allgood_any (A : Option Addr) (c : Nat) (L : List Con) (w : World) (hL : L.length ≤ 10000) (hA : CAt w w.heap.size A L) :
    Calls Tryz.prog 97 #[.slice A L.length c] w fun e w' => e = .returned (.bool (L.all fun x => ctGood x.1)) ∧ Below w.heap.size w w' := by
  have HC := Lib.hid (cont_any A c L w hL hA)
  have e : (L.all fun x => ctGood x.1) = !(L.any fun x => !ctGood x.1) := by rw [List.not_any_eq_all_not]; simp
  rw [e]
  generalize (L.any fun x => !ctGood x.1) = b at HC ⊢
  generalize L.length = n at HC ⊢
  clear hL hA e
  go_enter Tryz.func97, Tryz.ntmps97
  go_wp2_with (first | (go_at_call 111; (with_reducible refine HC.out.mono ?_); rintro e w1 ⟨rfl, hb1⟩))
  go_ret
  exact ⟨rfl, hb1⟩
section
variable {α : Type} {key : α → Nat}
theorem insG_len (x : α) : ∀ l : List α, (insG key x l).length = l.length + 1
  | [] => rfl
  | a :: t => by
    rw [insG]
    split
    · rw [List.length_cons, insG_len x t, List.length_cons]
    · rfl
theorem srtG_le : ∀ (l acc : List α), (srtG key acc l).length ≤ acc.length + l.length
  | [], acc => by simp [srtG]
  | x :: l, acc => by
    rw [srtG]
    have := srtG_le l (if acc.any (fun d => key d == key x) then acc else insG key x acc)
    split at this <;> rename_i h
    · rw [if_pos h]; simp only [List.length_cons]; omega
    · rw [if_neg h]; rw [insG_len] at this; simp only [List.length_cons]; omega
theorem srtG_len : ∀ (l acc : List α), (srtG key acc l).length = acc.length + l.length ↔ (l.map key).Nodup ∧ ∀ a ∈ acc, ∀ x ∈ l, key a ≠ key x
  | [], acc => by simp [srtG]
  | x :: l, acc => by
    rw [srtG]
    by_cases h : acc.any (fun d => key d == key x) = true
    · rw [if_pos h]
      have := srtG_le (key := key) l acc
      obtain ⟨a, ha, hk⟩ := List.any_eq_true.1 h
      simp only [beq_iff_eq] at hk
      constructor
      · intro e; simp only [List.length_cons] at e; omega
      · intro e; exact absurd hk (e.2 a ha x List.mem_cons_self)
    · rw [if_neg h]
      have hn : ∀ a ∈ acc, key a ≠ key x := fun a ha hk => h (List.any_eq_true.2 ⟨a, ha, by simpa using hk⟩)
      have ih := srtG_len l (insG key x acc)
      rw [insG_len] at ih
      rw [show acc.length + (x :: l).length = acc.length + 1 + l.length by simp only [List.length_cons]; omega, ih, List.map_cons, List.nodup_cons]
      constructor
      · rintro ⟨h1, h2⟩
        refine ⟨⟨fun hm => ?_, h1⟩, fun a ha y hy => ?_⟩
        · obtain ⟨y, hy, e⟩ := List.mem_map.1 hm
          exact h2 x ((insG_mem key x acc x).2 (.inl rfl)) y hy e.symm
        · rcases List.mem_cons.1 hy with rfl | hy
          · exact hn a ha
          · exact h2 a ((insG_mem key x acc a).2 (.inr ha)) y hy
      · rintro ⟨⟨h1, h2⟩, h3⟩
        refine ⟨h2, fun a ha y hy => ?_⟩
        rcases (insG_mem key x acc a).1 ha with rfl | ha
        · intro e; exact h1 (List.mem_map.2 ⟨y, hy, e.symm⟩)
        · exact h3 a ha y (List.mem_cons_of_mem _ hy)
end
/-- The contacts, plain. -/
def ctsC (L : List Con) : List Ct := L.map (·.1)
theorem nodup_key (t : IDv) (L : List Con) : (L.map (kC t)).Nodup ↔ ((ctsC L).map (·.1)).Nodup := by
  unfold ctsC
  rw [List.map_map]
  induction L with
  | nil => simp
  | cons x L ih =>
    rw [List.map_cons, List.map_cons, List.nodup_cons, List.nodup_cons, ih]
    have : kC t x ∈ L.map (kC t) ↔ ((fun c : Ct => c.1) ∘ fun c : Con => c.1) x ∈ L.map ((fun c : Ct => c.1) ∘ fun c : Con => c.1) := by
      constructor
      · intro h
        obtain ⟨y, hy, e⟩ := List.mem_map.1 h
        refine List.mem_map.2 ⟨y, hy, ?_⟩
        have := kM_inj t _ _ e
        exact congrArg Subtype.val this
      · intro h
        obtain ⟨y, hy, e⟩ := List.mem_map.1 h
        refine List.mem_map.2 ⟨y, hy, ?_⟩
        unfold kC
        have : idC y = idC x := Subtype.ext e
        rw [this]
    rw [this]
theorem goodC_eq (t : IDv) (L : List Con) : goodC (ctsC L) = (decide (L.length ≤ 64) && (L.all fun x => ctGood x.1) && decide ((srtG (kC t) [] L).length = L.length)) := by
  have h := srtG_len (key := kC t) L []
  simp only [List.length_nil, Nat.zero_add, List.not_mem_nil, false_implies, implies_true, and_true] at h
  have hn := (h.trans (nodup_key t L))
  unfold goodC
  rw [show (ctsC L).all ctGood = L.all fun x => ctGood x.1 by unfold ctsC; rw [List.all_map]; rfl, show (ctsC L).length = L.length by unfold ctsC; simp]
  rw [show decide ((srtG (kC t) [] L).length = L.length) = decide (((ctsC L).map (·.1)).Nodup) from decide_eq_decide.2 hn]
  cases (L.all fun x => ctGood x.1) <;> cases decide (((ctsC L).map (·.1)).Nodup) <;> cases decide (L.length ≤ 64) <;> rfl
def zID : IDv := ⟨List.replicate 20 0, by simp⟩
theorem build55 (W : World) : (Instr.build 24 #[]).run Tryz.prog W = .ok (.agg (encID zID).toArray) W := by kernel_rfl
end Go.Proofs.YtehgpnnfjgmiiaaGreat
end
section
namespace Go.Proofs.YtehgpnnfjgmiiaaGreat
open Go.Shelf Go.RowKit Go.Lib Go.Sort Go.Great
set_option maxRecDepth 100000
set_option maxHeartbeats 1000000
theorem wpList_buildG {P : Program} {ops : Array Oper} {rest : List Oper} {o : Oper} {a : Act} {w : World} {Q : Exit → Act → World → Prop} (hw : Region.wanted o (yielded ops a.tmps) = true) (t : TypeId) (ho : o.op = .build t #[]) (v : Value) (hv : (Instr.build t #[]).run P w = .ok v w)
    (h : wpList P ops Q rest (a.put o.dst v) w) : wpList P ops Q (o :: rest) a w :=
  wpList_step fun _ hK => by
    rw [if_pos hw]
    unfold Oper.wp execOp
    simp only [ho, List.map_toArray, List.map_nil, Sem.run_bind, hv, Result.andThen_ok]
    exact hK _ _ h
theorem isgood_any (A : Option Addr) (c : Nat) (L : List Con) (w : World) (hL : L.length ≤ 10000) (hA : CAt w w.heap.size A L) (hA2 : A = none ∨ ∃ g off, A = some ⟨g, off, none⟩) :
    Calls Tryz.prog 78 #[.slice A L.length c] w fun e w' => e = .returned (.bool (goodC (ctsC L))) ∧ Below w.heap.size w w' := by
  have hg := goodC_eq zID L
  have HG := Lib.hid (allgood_any A c L w hL hA)
  have HS : Hid (∀ W, Below w.heap.size w W → Calls Tryz.prog 98 #[.agg (encID zID).toArray, .slice A L.length c] W fun e w' => ∃ A' c', e = .returned (.slice A' (srtG (kC zID) [] L).length c') ∧ Below w.heap.size w w') := by
    refine Lib.hid (fun W hW => (csort_any zID A c L W hL ((hA.below hW).more hW.size) hA2).mono ?_)
    rintro e w' ⟨A', c', rfl, _, _, _, hb⟩
    exact ⟨A', c', rfl, hW.trans (hb.mono hW.size)⟩
  have HBU := Lib.hid (fun W => build55 W)
  generalize (encID zID).toArray = ZI at HS HBU
  obtain ⟨n, hn⟩ : ∃ n, n = L.length := ⟨_, rfl⟩
  obtain ⟨m, hm⟩ : ∃ m, m = (srtG (kC zID) [] L).length := ⟨_, rfl⟩
  rw [← hn] at HG HS hL ⊢
  rw [← hm] at HS
  rw [← hn, ← hm] at hg
  have hmn : m ≤ n := by rw [hm, hn]; have := srtG_le (key := kC zID) L []; simpa using this
  rw [hg]
  generalize (L.all fun x => ctGood x.1) = b at HG ⊢
  clear hA hA2 hg hn hm
  by_cases h64 : n ≤ 64
  · have h64' : (n : Int) ≤ 64 := by omega
    rw [decide_eq_true h64, Bool.true_and]
    cases b with
    | false =>
      clear HS
      go_enter Tryz.func78, Tryz.ntmps78
      go_wp2_with (first | (go_at_call 97; (with_reducible refine HG.out.mono ?_); rintro e w1 ⟨rfl, hb1⟩))
      go_ret
      exact ⟨rfl, hb1⟩
    | true =>
      rw [Bool.true_and]
      by_cases hmn2 : m = n
      · have hq : ((m : Int) == (n : Int)) = true := by simp; omega
        rw [decide_eq_true hmn2]
        clear hmn2
        go_enter Tryz.func78, Tryz.ntmps78
        go_wp2_with (first
          | (go_at_call 97; (with_reducible refine HG.out.mono ?_); rintro e w1 ⟨rfl, hb1⟩)
          | ((with_reducible refine wpList_buildG (o := ⟨some 11, _, _, _, _, _⟩) ?_ 24 rfl _ (HBU.out _) ?_); rfl)
          | (go_at_call 98; (with_reducible refine (HS.out _ hb1).mono ?_); rintro e w2 ⟨A2, c2, rfl, hb2⟩))
        go_ret
        exact ⟨rfl, hb2⟩
      · have hq : ((m : Int) == (n : Int)) = false := by simp; omega
        rw [decide_eq_false hmn2]
        clear hmn2
        go_enter Tryz.func78, Tryz.ntmps78
        go_wp2_with (first
          | (go_at_call 97; (with_reducible refine HG.out.mono ?_); rintro e w1 ⟨rfl, hb1⟩)
          | ((with_reducible refine wpList_buildG (o := ⟨some 11, _, _, _, _, _⟩) ?_ 24 rfl _ (HBU.out _) ?_); rfl)
          | (go_at_call 98; (with_reducible refine (HS.out _ hb1).mono ?_); rintro e w2 ⟨A2, c2, rfl, hb2⟩))
        go_ret
        exact ⟨rfl, hb2⟩
  · have h64' : ¬ (n : Int) ≤ 64 := by omega
    rw [decide_eq_false h64]
    clear HG HS
    go_enter Tryz.func78, Tryz.ntmps78
    go_wp2
    go_ret
    exact ⟨by simp, Below.refl _ _⟩
end Go.Proofs.YtehgpnnfjgmiiaaGreat
end
section
namespace Go.Proofs
open Go.Shelf
def Tryz.growB_ren : Go.Shelf.Ren := ⟨fun | 4 => 52 | n => n, fun | 0 => 0 | 3 => 3 | 4 => 4 | 9 => 9 | 20 => 20 | 22 => 31 | 25 => 5 | n => n, fun | n => n⟩
theorem Tryz.growB : Go.Proofs.Lays8.n4 Tryz.prog Tryz.growB_ren := {
  mixed := by kernel_rfl
  f4 := ⟨Tryz.f52.name, by decide, Tryz.func52.trans (congrArg some (by kernel_rfl))⟩
  t0 := Tryz.underlying0
  a0 := Tryz.isAgg0
  z0 := Tryz.sizeOf0
  v0 := Tryz.zeroValue0
  t3 := Tryz.underlying3
  a3 := Tryz.isAgg3
  z3 := Tryz.sizeOf3
  v3 := Tryz.zeroValue3
  t4 := Tryz.underlying4
  a4 := Tryz.isAgg4
  z4 := Tryz.sizeOf4
  v4 := Tryz.zeroValue4
  t9 := Tryz.underlying9
  a9 := Tryz.isAgg9
  z9 := Tryz.sizeOf9
  v9 := Tryz.zeroValue9
  t20 := Tryz.underlying20
  a20 := Tryz.isAgg20
  z20 := Tryz.sizeOf20
  v20 := Tryz.zeroValue20
  t22 := Tryz.underlying31
  a22 := Tryz.isAgg31
  z22 := Tryz.sizeOf31
  v22 := Tryz.zeroValue31 }
end Go.Proofs
namespace Go.Proofs.YtehgpnnfjgmiiaaGreat
open Go.Shelf Go.RowKit Go.Lib Go.Sort Go.Great
set_option maxRecDepth 100000
set_option maxHeartbeats 1000000
theorem grow_nil (n : Nat) (hn : 0 < n) (hn2 : n ≤ 1000000) (w : World) : Calls Tryz.prog 52 #[.slice none 0 0, .int .i64 (n : Int)] w fun e w' => ∃ v, e = .returned v ∧ w'.ownsRow w.heap.size 5 1 v 0 (bcells []) ∧ Below w.heap.size w w' := by
  obtain ⟨i0, hi, hz0, hz1, hz2⟩ := info5b
  refine (Any8.slices_Grow_grow Tryz.growB i0 _ hi hz0 (by omega) none 0 0 n [] w (Nat.le_refl _) (by omega) (by rw [hz2]; omega) (by omega) (by simp) (fun _ => rfl) (fun a h => by cases h)).mono ?_
  rintro e w' ⟨rfl, rfl⟩
  have hge := grownCap_ge w (0 + n) 0 5
  have hle := grownCap_le_maxLen w (0 + n) 0 5 (by simp only [maxLen]; omega)
  refine ⟨_, rfl, ⟨by simp [bcells], .inr ⟨w.heap.size, _, _, rfl, Nat.le_refl _, heap_alloc_new w.drew _, Nat.zero_le _, hle, ?_, by simp [bcells]⟩⟩, ((Below.refl _ w).drew).alloc (Nat.le_refl _) _⟩
  simp only [Array.size_append, size_zeroCells, Value.cells, List.size_toArray, List.length_nil]
  show 0 + (0 + n - 0) * 1 + (grownCap w (0 + n) 0 5 - (0 + n)) * 1 = grownCap w (0 + n) 0 5 * 1
  omega
theorem below_own {w0 w w' : World} {ob : Option Nat} (hb : Below w0.heap.size w0 w) (hg : w.grownBy w' ob) (ho : ∀ k, ob = some k → w0.heap.size ≤ k) : Below w0.heap.size w0 w' :=
  ⟨hg.os.trans hb.os, hg.tape.trans hb.tape, hg.output.trans hb.output, Nat.le_trans hb.size hg.size, fun i hi => (hg.block i (Nat.lt_of_lt_of_le hi hb.size) (by intro e; have := ho i (by first | exact e | exact e.symm); omega)).trans (hb.block i hi)⟩
/-- What stands in the first j of two. -/
def preJ (xs ys : List UInt8) (j : Nat) : List UInt8 := if j = 0 then [] else if j = 1 then xs else xs ++ ys
theorem concat_any (A A2 : Option Addr) (c c2 b : Nat) (xs ys : List UInt8) (w : World) (hx : xs.length ≤ 100000) (hy : ys.length ≤ 100000) (h0 : 0 < xs.length + ys.length) (hb : w.heap[b]? = some (.cells #[.slice A xs.length c, .slice A2 ys.length c2] 31 (0, 0))) (hA : BAt w w.heap.size A xs) (hA2 : BAt w w.heap.size A2 ys) :
    Calls Tryz.prog 24 #[.slice (some ⟨b, 0, none⟩) 2 2] w fun e w' => ∃ v, e = .returned v ∧ w'.ownsRow w.heap.size 5 1 v (xs ++ ys).length (bcells (xs ++ ys)) ∧ Below w.heap.size w w' := by
  have hbl : b < w.heap.size := (Array.getElem?_eq_some_iff.1 hb).1
  have HCELL : Hid (∀ W, Below w.heap.size w W → W.cell? ⟨b, 0, none⟩ = some (.slice A xs.length c) ∧ W.cell? ⟨b, 1, none⟩ = some (.slice A2 ys.length c2)) := Lib.hid (fun W hW => by
    have := (hW.block b hbl).trans hb
    exact ⟨by rw [cell_of_row W _ 0 _ 31 (0, 0) this]; rfl, by rw [cell_of_row W _ 1 _ 31 (0, 0) this]; rfl⟩)
  have HG := Lib.hid (grow_nil (xs.length + ys.length) h0 (by omega) w)
  have HAP : Hid (∀ (W : World) (v : Value) (zs us : List UInt8) (B : Option Addr) (d : Nat), True → Below w.heap.size w W → W.ownsRow w.heap.size 5 1 v zs.length (bcells zs) → BAt w w.heap.size B us → Src Tryz.prog 1 31 (.slice B us.length d) us.length (bcells us) W) := Lib.hid (fun W v zs us B d _ hW _ hB => (hB.below hW).srcB d)
  have HXA := Lib.hid hA
  have HYA := Lib.hid hA2
  obtain ⟨n, hn⟩ : ∃ n, n = xs.length := ⟨_, rfl⟩
  obtain ⟨m, hm⟩ : ∃ m, m = ys.length := ⟨_, rfl⟩
  have HN : Hid (n = xs.length ∧ m = ys.length) := Lib.hid ⟨hn, hm⟩
  rw [← hn] at HCELL HG hx h0
  rw [← hm] at HCELL HG hy h0
  clear hb hA hA2 hn hm HAP
  go_enter Tryz.func24, Tryz.ntmps24
  go_wp2
  go_loopg [3, 11] 2 (fun kx s3 s11 wr => ∃ (j : Nat), j ≤ 2 ∧ 2 - j ≤ kx ∧ s11 = .int .i64 (j : Int) ∧ s3 = .int .i64 ((if j = 0 then 0 else if j = 1 then n else n + m : Nat) : Int) ∧ w = wr)
  case atStart => exact ⟨0, by omega, by omega, rfl, rfl, rfl⟩
  case round =>
    obtain ⟨j, hj, hkx, rfl, rfl, rfl⟩ := hrel
    obtain ⟨k0, k1⟩ := HCELL.out w (Below.refl _ _)
    obtain rfl | rfl | rfl : j = 0 ∨ j = 1 ∨ j = 2 := by omega
    · simp only [if_true]
      go_wp2
      go_roundg 1
      case measure => omega
      case rel => exact ⟨1, by omega, by omega, by go_num, by go_num, rfl⟩
    · simp only [if_true, show ¬ (1 : Nat) = 0 from by omega, if_false]
      go_wp2
      go_roundg 0
      case measure => omega
      case rel => exact ⟨2, by omega, by omega, by go_num, by first | rfl | go_num | (congr 1), rfl⟩
    · simp only [show ¬ (2 : Nat) = 0 from by omega, show ¬ (2 : Nat) = 1 from by omega, if_false]
      rw [show ((n + m : Nat) : Int) = (n : Int) + (m : Int) by omega] at HG
      clear k0 k1
      go_upto_region 11 with (first | (go_at_call 52; (with_reducible refine HG.out.mono ?_); rintro e1 w1 ⟨v1, rfl, ho1, hb1⟩))
      have HO1 := Lib.hid ho1
      have HB1 := Lib.hid hb1
      clear ho1 hb1 HG
      go_loopg [6, 27] 2 (fun kx s6 s27 wq => ∃ (j : Nat), j ≤ 2 ∧ 2 - j ≤ kx ∧ s27 = .int .i64 (j : Int) ∧ wq.ownsRow w.heap.size 5 1 s6 (preJ xs ys j).length (bcells (preJ xs ys j)) ∧ Below w.heap.size w wq)
      case atStart => exact ⟨0, by omega, by omega, rfl, HO1.out, HB1.out⟩
      case round =>
        obtain ⟨j, hj, hkx2, rfl, ho, hbq⟩ := hrel
        clear HO1 HB1
        obtain ⟨k0, k1⟩ := HCELL.out wr hbq
        obtain ⟨A5, c5, rfl, _⟩ := own_bat ho
        have HO := Lib.hid ho
        have HBQ := Lib.hid hbq
        have HSX : Hid (Src Tryz.prog 1 31 (.slice A n c) xs.length (bcells xs) wr) := Lib.hid (by rw [HN.out.1]; exact (HXA.out.below hbq).srcB c)
        have HSY : Hid (Src Tryz.prog 1 31 (.slice A2 m c2) ys.length (bcells ys) wr) := Lib.hid (by rw [HN.out.2]; exact (HYA.out.below hbq).srcB c2)
        clear ho hbq
        obtain rfl | rfl | rfl : j = 0 ∨ j = 1 ∨ j = 2 := by omega
        · have HL : Hid (([] : List UInt8).length + xs.length ≤ 10000000) := Lib.hid (by rw [← HN.out.1]; simp; omega)
          have HNX : Hid (∀ v' w', w'.ownsRow w.heap.size 5 1 v' ([] ++ xs).length (bcells ([] ++ xs)) → wr.grownBy w' (Value.slice A5 (preJ xs ys 0).length c5).ownBlock → w'.ownsRow w.heap.size 5 1 v' (preJ xs ys 1).length (bcells (preJ xs ys 1)) ∧ Below w.heap.size w w') := Lib.hid (fun v' w' h1 h2 => ⟨h1, below_own HBQ.out h2 (fun q hq => (HO.out.lt q hq).1)⟩)
          have HO0 : Hid (wr.ownsRow w.heap.size 5 1 (.slice A5 (preJ xs ys 0).length c5) ([] : List UInt8).length (bcells [])) := HO
          go_wp2_with (first
            | (refine wpList_append_bytes rfl (.tmp 31) (.tmp 32) rfl w.heap.size _ [] rfl HO0.out _ xs rfl HSX.out HL.out HBQ.out.size ?_; intro v2 w2 ho2 hg2))
          go_roundg 1
          case measure => omega
          case rel => exact ⟨1, by omega, by omega, by go_num, (HNX.out _ _ ho2 hg2).1, (HNX.out _ _ ho2 hg2).2⟩
        · have HL : Hid ((preJ xs ys 1).length + ys.length ≤ 10000000) := Lib.hid (by rw [← HN.out.2]; show xs.length + m ≤ _; rw [← HN.out.1]; omega)
          have HNX : Hid (∀ v' w', w'.ownsRow w.heap.size 5 1 v' (preJ xs ys 1 ++ ys).length (bcells (preJ xs ys 1 ++ ys)) → wr.grownBy w' (Value.slice A5 (preJ xs ys 1).length c5).ownBlock → w'.ownsRow w.heap.size 5 1 v' (preJ xs ys 2).length (bcells (preJ xs ys 2)) ∧ Below w.heap.size w w') := Lib.hid (fun v' w' h1 h2 => ⟨h1, below_own HBQ.out h2 (fun q hq => (HO.out.lt q hq).1)⟩)
          go_wp2_with (first
            | (refine wpList_append_bytes rfl (.tmp 31) (.tmp 32) rfl w.heap.size _ (preJ xs ys 1) rfl HO.out _ ys rfl HSY.out HL.out HBQ.out.size ?_; intro v2 w2 ho2 hg2))
          go_roundg 0
          case measure => omega
          case rel => exact ⟨2, by omega, by omega, by go_num, (HNX.out _ _ ho2 hg2).1, (HNX.out _ _ ho2 hg2).2⟩
        · have HF : Hid (wr.ownsRow w.heap.size 5 1 (.slice A5 (preJ xs ys 2).length c5) (xs ++ ys).length (bcells (xs ++ ys))) := HO
          clear HO
          generalize (preJ xs ys 2).length = l2 at *
          go_wp2
          go_ret
          exact ⟨_, rfl, HF.out, HBQ.out⟩
end Go.Proofs.YtehgpnnfjgmiiaaGreat
end
