/- Contract of Sort of package contact. Conditions: at most 10,000 contacts. Contracts of Good, Find, allGood and isGoodList of package contact. Conditions: at most 10,000 contacts. Contracts of allGood and isGoodList of package contact. Conditions: at most 10,000 contacts. Contract of isGoodList of package contact. Conditions: at most 10,000 contacts. -/
import Derived.Test.YtehgpnnfjgmiiaaGreatVOja
import Derived.Test.YtehgpnnfjgmiiaaGreatVObd
import Derived.Test.YtehgpnnfjgmiiaaGreatVIiv
import Derived.Test.YtehgpnnfjgmiiaaGreatVObc
import Derived.Test.YtehgpnnfjgmiiaaGreatVROcc
import Derived.Test.YtehgpnnfjgmiiaaGreatVRERefb
import Derived.Test.YtehgpnnfjgmiiaaGreatVRKCdk
import Derived.Test.YtehgpnnfjgmiiaaGreatVRIip
import Derived.Test.YtehgpnnfjgmiiaaGreatVREOctc
import Derived.Test.YtehgpnnfjgmiiaaGreatVNSCtm
import Derived.Test.YtehgpnnfjgmiiaaGreatVNAAcb
import Derived.Shelf.SlicesQ.IndexFunc
section
namespace Go.Proofs.YtehgpnnfjgmiiaaGreat
open Go.Shelf Go.RowKit Go.Lib Go.Sort Go.Great
set_option maxRecDepth 100000
set_option maxHeartbeats 1000000
theorem ins_none (p : Option Addr) (cap : Nat) (fv : Value) (w : World) : Calls Tryz.prog 134 #[.slice p 0 cap, .int .i64 0, .int .i64 0, fv] w fun e w' => e = .returned (.tuple #[]) ∧ w' = w := by
  go_enter Tryz.func134, Tryz.ntmps134
  go_wp2
  go_loopg [8] 0 (fun _ s wr => s = .int .i64 1 ∧ wr = w)
  case atStart => exact ⟨rfl, rfl⟩
  case round =>
    obtain ⟨rfl, rfl⟩ := hrel
    go_wp2
    go_end0
    exact ⟨rfl, rfl⟩
theorem stable_none (p : Option Addr) (cap : Nat) (fv : Value) (w : World) : Calls Tryz.prog 127 #[.slice p 0 cap, .int .i64 0, fv] w fun e w' => e = .returned (.tuple #[]) ∧ w' = w := by
  have HI := Lib.hid (ins_none p cap fv w)
  go_enter Tryz.func127, Tryz.ntmps127
  go_wp2
  go_loopg [7, 8] 0 (fun _ s7 s8 wr => s7 = .int .i64 0 ∧ s8 = .int .i64 20 ∧ wr = w)
  case atStart => exact ⟨rfl, rfl, rfl⟩
  case round =>
    obtain ⟨rfl, rfl, rfl⟩ := hrel
    go_upto_region 7 with (first | (go_at_call 134; (with_reducible refine HI.out.mono ?_); rintro e2 w2 ⟨rfl, rfl⟩))
    go_loopg [6] 0 (fun _ s6 wr => s6 = .int .i64 20 ∧ wr = w2)
    case atStart => exact ⟨rfl, rfl⟩
    case round =>
      obtain ⟨rfl, rfl⟩ := hrel
      go_wp2
      go_end0
      exact ⟨rfl, rfl⟩
theorem sortst_none (p : Option Addr) (cap : Nat) (fv : Value) (w : World) : Calls Tryz.prog 115 #[.slice p 0 cap, fv] w fun e w' => e = .returned (.tuple #[]) ∧ w' = w := by
  have HI := Lib.hid (stable_none p cap fv w)
  go_enter Tryz.func115, Tryz.ntmps115
  go_wp2_with (first | (go_at_call 127; (with_reducible refine HI.out.mono ?_); rintro e2 w2 ⟨rfl, rfl⟩))
  go_end0
  exact ⟨rfl, rfl⟩
theorem compf_none (p : Option Addr) (cap : Nat) (fv : Value) (w : World) : Calls Tryz.prog 118 #[.slice p 0 cap, fv] w fun e w' => e = .returned (.slice p 0 cap) ∧ w' = w := by
  go_enter Tryz.func118, Tryz.ntmps118
  go_wp2
  go_ret
  exact ⟨rfl, rfl⟩
theorem sortW_other {α : Type} [Inhabited α] (enc : α → List Value) (k : Nat) (w : World) (blk off m p : Nat) (dk : Array α) (os : Array Obj) (hp : p < w.heap.size) (hne : p ≠ blk) : (sortWorldK enc k w blk off m dk os).heap[p]? = w.heap[p]? := by
  unfold sortWorldK putRowK grow putRow mapBlock Sort.ahead
  simp only
  rw [Array.getElem?_append_left (by simpa using hp), Array.getElem?_modify, if_neg (fun e => hne e.symm)]
theorem cfM_key (t : IDv) (x y : Con) : cfM t (idC x) (idC y) < 0 ↔ kC t x < kC t y := by
  have := ltM t (idC x) (idC y)
  unfold ltOf at this
  unfold kC
  constructor
  · intro h
    rw [decide_eq_true h] at this
    exact of_decide_eq_true this.symm
  · intro h
    rw [decide_eq_true h] at this
    exact of_decide_eq_true this
theorem eqC_key (t : IDv) (x y : Con) : ((idC x).val == (idC y).val) = decide (kC t x = kC t y) := by
  unfold kC
  by_cases h : idC x = idC y
  · rw [h]; simp
  · rw [decide_eq_false (fun e => h (kM_inj t _ _ e))]
    rw [beq_eq_false_iff_ne]
    exact fun e => h (Subtype.ext e)
/-- The two calls on a row of its own. -/
theorem sortC (t : IDv) (p g c : Nat) (L : List Con) (w1 : World) (hL : L.length ≤ 10000) (hp : p < w1.heap.size) (hpt : w1.rangeAt p 0 (encID t)) (hpg : p ≠ g) (hg : g < w1.heap.size) (hr : w1.rangeAt g 0 (flatE encC L)) (ht : w1.there g 0 (L.length * 22)) :
    Calls Tryz.prog 115 #[.slice (some ⟨g, 0, none⟩) L.length c, .func (.func 116) #[] #[.pointer (some ⟨p, 0, none⟩)]] w1 fun e w2 => e = .returned (.tuple #[]) ∧ ∃ d' : Array Con, d'.size = L.length ∧ ddK (kC t) d' d'.size = srtG (kC t) [] L ∧ RowK encC 22 w2 g 0 d' ∧ Below g w1 w2 := by
  have R : RowK encC 22 w1 g 0 L.toArray := ⟨encC_length, encC_one, holdsC hr ht, hg⟩
  have eg : ∀ args w, (callFunc 116 args).run Tryz.prog w = .ok (.enter 116 args) w := enters_of Tryz.func116 (by kernel_rfl) rfl
  have hlay : CmpLays Tryz.prog 116 #[.pointer (some ⟨p, 0, none⟩)] encC 22 (fun x y => cfM t (idC x) (idC y)) g 0 L.toArray.size w1 := fun m os dk _ x y => by
    have hs : w1.heap.size ≤ (sortWorldK encC 22 w1 g 0 m dk os).heap.size := size_sortWorldK_c encC 22 w1 g 0 m dk os
    exact (clo69_g t x y p _ (Nat.lt_of_lt_of_le hp hs) (range_keep hpt (sortW_other encC 22 w1 g 0 m p dk os hp hpg))).mono (by rintro e w' ⟨he, hg⟩; exact ⟨he, hg.form⟩)
  have hsz : L.toArray.size = L.length := by simp
  have h := sortst_any 22 aE60 zE60 encC (fun x y => cfM t (idC x) (idC y)) (kC t) (cfM_key t) 116 #[.pointer (some ⟨p, 0, none⟩)] g 0 c L.toArray w1 eg hlay R (by rw [hsz]; omega)
  rw [hsz] at h
  refine h.mono ?_
  rintro e w2 ⟨rfl, d', hst, ha, S⟩
  rw [← hsz] at hst ha
  refine ⟨rfl, d', hst.size.trans hsz, ?_, ⟨encC_length, encC_one, S.holds hg R.hH hst.size, S.lt hg⟩, swk_bel S (Nat.le_refl g) hg⟩
  rw [hst.size, sorted_srt hst ha]
theorem compC (t : IDv) (g c B : Nat) (d : Array Con) (w : World) (R : RowK encC 22 w g 0 d) (hsz : d.size ≤ 10000) (hcap : d.size ≤ c) (hcm : c ≤ maxLen) (hB : B ≤ g) :
    Calls Tryz.prog 118 #[.slice (some ⟨g, 0, none⟩) d.size c, .func (.func 119) #[] #[]] w fun e w' => e = .returned (.slice (some ⟨g, 0, none⟩) (ddK (kC t) d d.size).length c) ∧ ComIs encC g 0 B w (ddK (kC t) d d.size) w' := by
  have eg : ∀ args w, (callFunc 119 args).run Tryz.prog w = .ok (.enter 119 args) w := enters_of Tryz.func119 (by kernel_rfl) rfl
  have hlay : EqLays Tryz.prog 119 #[] encC 22 (fun x y => (idC x).val == (idC y).val) g 0 d.size w := fun m os dk _ x y =>
    (clo72_g x y _).mono (by rintro e w' ⟨he, hg⟩; exact ⟨he, hg.form⟩)
  exact compf_any 22 aE60 zE60 (by omega) (encC default).toArray zV60 (by simp [encC_length]) (fun v hv => encC_one default v (by simpa using hv)) encC (fun x y => (idC x).val == (idC y).val) (kC t) (eqC_key t) 119 #[] g 0 c B d w eg hlay R (by omega) hcap hcm hB
/-- What Sort tells. -/
def SrtC (w : World) (L : List Con) (e : Ending) (w' : World) : Prop := ∃ A c, e = .returned (.slice A L.length c) ∧ L.length ≤ c ∧ CAt w' w'.heap.size A L ∧ (A = none ∨ ∃ g off, A = some ⟨g, off, none⟩) ∧ Below w.heap.size w w'
theorem csort_any (t : IDv) (A : Option Addr) (c : Nat) (L : List Con) (w : World) (hL : L.length ≤ 10000) (hA : CAt w w.heap.size A L) (hA2 : A = none ∨ ∃ g off, A = some ⟨g, off, none⟩) :
    Calls Tryz.prog 98 #[.agg (encID t).toArray, .slice A L.length c] w (SrtC w (srtG (kC t) [] L)) := by
  obtain ⟨T, hT⟩ : ∃ T, T = (encID t).toArray := ⟨_, rfl⟩
  have hb0 : Below w.heap.size w (w.alloc (.cells T 24)) := (Below.refl _ w).alloc (Nat.le_refl _) _
  have HC := Lib.hid (cloneC_any A c L (w.alloc (.cells T 24)) hL ((hA.below hb0).more hb0.size) hA2)
  have HL : Hid (L.length ≤ 10000) := Lib.hid hL
  have h0 : (w.alloc (.cells T 24)).rangeAt w.heap.size 0 (encID t) := by
    have := heap_alloc_new w (.cells T 24)
    rw [hT] at this ⊢
    exact row_range this
  have hs0 : (w.alloc (.cells T 24)).heap.size = w.heap.size + 1 := by simp
  rw [← hT]
  obtain ⟨n, hn⟩ : ∃ n, n = L.length := ⟨_, rfl⟩
  have HN : Hid (n = L.length) := Lib.hid hn
  rw [← hn] at HC ⊢
  rw [hs0] at HC
  have HH := Lib.hid h0
  have HB0 := Lib.hid hb0
  have HS0 := Lib.hid hs0
  clear hA hL hT hb0 h0 hs0 hn hA2
  go_enter Tryz.func98, Tryz.ntmps98
  go_upto_region 2 with (first | (go_at_call 114; (with_reducible refine HC.out.mono ?_); rintro e w1 ⟨v, rfl, ho, hb⟩))
  obtain ⟨A1, c1, rfl, hn1, hcap, hcm, hform⟩ := own_formC ho
  have HB : Hid (Below (w.heap.size + 1) (w.alloc (.cells T 24)) w1) := Lib.hid hb
  have HO := Lib.hid ho
  clear HC hn1 hb ho
  rcases hform with ⟨rfl, hl, rfl⟩ | ⟨g, rfl, hbg, hgw, hrg⟩
  · subst hl
    have hn0 : n = 0 := HN.out
    subst hn0
    have HFIN : Hid (SrtC w (srtG (kC t) [] []) (.returned (.slice none 0 0)) w1) := Lib.hid ⟨none, 0, rfl, Nat.le_refl _, .inl rfl, .inl rfl, HB0.out.trans (HB.out.mono (by omega))⟩
    clear hcap hcm
    go_wp2_with (first
      | (go_at_call 115; (with_reducible refine (sortst_none _ _ _ _).mono ?_); rintro e w2 ⟨rfl, rfl⟩)
      | (go_at_call 118; (with_reducible refine (compf_none _ _ _ _).mono ?_); rintro e w2 ⟨rfl, rfl⟩))
    go_ret
    exact HFIN.out
  · have ho2 := HO.out
    have ht := there_ownC ho2
    rw [HN.out] at ht
    have hpw : w.heap.size < w1.heap.size := by have := HB.out.size; have := HS0.out; omega
    have hpt : w1.rangeAt w.heap.size 0 (encID t) := range_keep HH.out (HB.out.block _ (by omega))
    have HSO := Lib.hid (sortC t w.heap.size g c1 L w1 HL.out hpw hpt (by omega) hgw hrg ht)
    rw [← HN.out] at HSO
    have HCO : Hid (∀ (d : Array Con) w2, d.size = n → ddK (kC t) d d.size = srtG (kC t) [] L → RowK encC 22 w2 g 0 d → Below g w1 w2 → Calls Tryz.prog 118 #[.slice (some ⟨g, 0, none⟩) n c1, .func (.func 119) #[] #[]] w2 fun e w3 => ∃ m, e = .returned (.slice (some ⟨g, 0, none⟩) m c1) ∧ SrtC w (srtG (kC t) [] L) e w3) := by
      refine Lib.hid (fun d w2 hd hdd R2 hb2 => ?_)
      have := compC t g c1 g d w2 R2 (by rw [hd, HN.out]; exact HL.out) (by rw [hd]; exact hcap) hcm (Nat.le_refl _)
      rw [hd] at this hdd
      refine this.mono ?_
      rintro e w3 ⟨rfl, hr3, hg3, hb3⟩
      rw [hdd] at hr3
      refine ⟨_, rfl, some ⟨g, 0, none⟩, c1, by rw [hdd], ?_, .inr ⟨g, 0, rfl, hg3, hr3⟩, .inr ⟨g, 0, rfl⟩, ?_⟩
      · have := ddK_len (kC t) d n
        rw [hdd] at this
        omega
      · have h1 := HB0.out.trans (HB.out.mono (show w.heap.size ≤ w.heap.size + 1 by omega))
        have h2 := h1.trans (hb2.mono (show w.heap.size ≤ g by omega))
        exact h2.trans (hb3.mono (show w.heap.size ≤ g by omega))
    clear hrg ho2 ht hpw hpt HO HB HB0 HH HS0 hcap hcm hgw
    go_wp2_with (first
      | (go_at_call 115; (with_reducible refine HSO.out.mono ?_); rintro e w2 ⟨rfl, d2, hd2, hdd2, R2, hb2⟩)
      | (go_at_call 118; (with_reducible refine (HCO.out d2 _ hd2 hdd2 R2 hb2).mono ?_); rintro e w3 ⟨m3, rfl, hfin⟩))
    go_ret
    exact hfin
end Go.Proofs.YtehgpnnfjgmiiaaGreat
end
section
namespace Go.Proofs
open Go.Shelf
def Tryz.idxC_ren : Go.Shelf.Ren := ⟨fun | 6 => 126 | 8 => 111 | n => n, fun | 0 => 0 | 3 => 3 | 4 => 4 | 22 => 25 | 23 => 63 | 25 => 140 | n => n, fun | n => n⟩
theorem Tryz.idxC : Go.Proofs.SlLaysH0.n6 Tryz.prog Tryz.idxC_ren := {
  mixed := by kernel_rfl
  f6 := ⟨Tryz.f126.name, by decide, Tryz.func126.trans (congrArg some (by kernel_rfl))⟩
  t0 := Tryz.underlying0
  a0 := Tryz.isAgg0
  z0 := Tryz.sizeOf0
  v0 := Tryz.zeroValue0
  t3 := Tryz.underlying3
  a3 := Tryz.isAgg3
  z3 := Tryz.sizeOf3
  v3 := Tryz.zeroValue3
  t4 := Tryz.underlying4
  a4 := Tryz.isAgg4
  z4 := Tryz.sizeOf4
  v4 := Tryz.zeroValue4
  t22 := Tryz.underlying25
  a22 := Tryz.isAgg25
  z22 := Tryz.sizeOf25
  v22 := Tryz.zeroValue25
  t25 := Tryz.underlying140
  a25 := Tryz.isAgg140
  z25 := Tryz.sizeOf140
  v25 := Tryz.zeroValue140 }
theorem Tryz.conC : Go.Proofs.SlLaysH0.n8 Tryz.prog Tryz.idxC_ren := {
  mixed := by kernel_rfl
  f6 := ⟨Tryz.f126.name, by decide, Tryz.func126.trans (congrArg some (by kernel_rfl))⟩
  f8 := ⟨Tryz.f111.name, by decide, Tryz.func111.trans (congrArg some (by kernel_rfl))⟩
  t0 := Tryz.underlying0
  a0 := Tryz.isAgg0
  z0 := Tryz.sizeOf0
  v0 := Tryz.zeroValue0
  t3 := Tryz.underlying3
  a3 := Tryz.isAgg3
  z3 := Tryz.sizeOf3
  v3 := Tryz.zeroValue3
  t4 := Tryz.underlying4
  a4 := Tryz.isAgg4
  z4 := Tryz.sizeOf4
  v4 := Tryz.zeroValue4
  t22 := Tryz.underlying25
  a22 := Tryz.isAgg25
  z22 := Tryz.sizeOf25
  v22 := Tryz.zeroValue25
  t25 := Tryz.underlying140
  a25 := Tryz.isAgg140
  z25 := Tryz.sizeOf140
  v25 := Tryz.zeroValue140 }
end Go.Proofs
namespace Go.Proofs.YtehgpnnfjgmiiaaGreat
open Go.Shelf Go.RowKit Go.Lib Go.Sort Go.Great
set_option maxRecDepth 100000
set_option maxHeartbeats 1000000
theorem range_back {w : World} {g o : Nat} {a b : List Value} (h : w.rangeAt g o (a ++ b)) : w.rangeAt g (o + a.length) b := fun j v hv => by
  have := h (a.length + j) v (by rw [List.getElem?_append_right (by omega), Nat.add_sub_cancel_left]; exact hv)
  rwa [← Nat.add_assoc] at this
theorem load58 {w : World} {g o h p : Nat} (hr : w.rangeAt g o [.int .u32 (h : Int), .int .u16 (p : Int)]) : (loadVar 61 ⟨g, o, none⟩).run Tryz.prog w = .ok (.agg (adr h p)) w :=
  run_loadVar_mid w g o 61 [.int .u32 (h : Int), .int .u16 (p : Int)] _ hr Tryz.underlying61 rfl (by kernel_rfl)
theorem box_addr {w : World} {g : Nat} {c : Con} (h : w.heap[g]? = some (.cells (encC c).toArray 63 (0, 0))) : (loadVar 61 ⟨g, 20, none⟩).run Tryz.prog w = .ok (.agg (adr c.1.2.1 c.1.2.2)) w := by
  have h1 : w.rangeAt g 0 (encC c) := row_range h
  rw [encC_id] at h1
  have h2 := range_back h1
  rw [show 0 + (encID (idC c)).length = 20 by rw [Nat.zero_add]; unfold encID; rw [bcells_length]; exact (idC c).property] at h2
  exact load58 h2
theorem cgood_any (c : Con) (w : World) : Calls Tryz.prog 113 #[.agg (encC c).toArray] w fun e w' => e = .returned (.bool (ctGood c.1)) ∧ Below w.heap.size w w' := by
  have hb : Below w.heap.size w (w.alloc (.cells (encC c).toArray 63)) := (Below.refl _ w).alloc (Nat.le_refl _) _
  have HK := Lib.hid (box_addr (heap_alloc_new w (.cells (encC c).toArray 63)))
  have HG : Hid (∀ W, Below w.heap.size w W → Calls Tryz.prog 124 #[.agg (adr c.1.2.1 c.1.2.2)] W fun e w' => e = .returned (.bool (ctGood c.1)) ∧ Below w.heap.size w w') := Lib.hid (fun W hW => (good_any c.1.2.1 c.1.2.2 W).mono (by rintro e w' ⟨rfl, h⟩; exact ⟨rfl, hW.trans (h.mono hW.size)⟩))
  have HB := Lib.hid hb
  generalize adr c.1.2.1 c.1.2.2 = AD at HK HG
  generalize (encC c).toArray = X at HK HB ⊢
  generalize ctGood c.1 = gd at HG ⊢
  clear hb
  go_enter Tryz.func113, Tryz.ntmps113
  go_wp2_with (first
    | ((with_reducible refine wpList_loadV (op := ⟨some 4, _, _, _, _, _⟩) rfl 61 (.tmp 3) rfl _ ?_ _ HK.out ?_); rfl)
    | (go_at_call 124; (with_reducible refine (HG.out _ HB.out).mono ?_); rintro e w1 ⟨rfl, hb1⟩))
  go_ret
  exact ⟨rfl, hb1⟩
def isC (t : IDv) (c : Con) : Bool := (idC c).val == t.val
/-- The first place where p holds, or -1. -/
def idxP (p : Con → Bool) (L : List Con) : Int := Lib.idxBy (fun _ y => p y) L default
theorem idxP_nil (p : Con → Bool) : idxP p [] = -1 := rfl
theorem cells_of_CAt {w : World} {g off : Nat} {L : List Con} (hr : w.rangeAt g off (flatE encC L)) : ∀ j, j < L.length → ∀ i v, (encC L[j]!)[i]? = some v → w.cell? ⟨g, off + j * 22 + i, none⟩ = some v := by
  intro j hj i v hv
  have hi := (List.getElem?_eq_some_iff.1 hv).1
  rw [encC_length] at hi
  rw [getElem!_pos L j hj] at hv
  have := flatE_get encC_length (by omega) L j _ i (List.getElem?_eq_getElem hj) hi
  rw [hv] at this
  rw [Nat.add_assoc]
  exact hr _ v this
theorem idx_any (p : Con → Bool) (g : Nat) (lb : Array Value) (eg : ∀ args w, (callFunc g args).run Tryz.prog w = .ok (.enter g args) w) (A : Option Addr) (c : Nat) (L : List Con) (w : World) (hL : L.length ≤ 10000)
    (hp : ∀ W x, Below w.heap.size w W → Calls Tryz.prog g (#[.agg (encC x).toArray] ++ lb) W fun e w' => e = .returned (.bool (p x)) ∧ Below w.heap.size w w') (hA : CAt w w.heap.size A L) :
    Calls Tryz.prog 126 #[.slice A L.length c, .func (.func g) #[] lb] w fun e w' => e = .returned (.int .i64 (idxP p L)) ∧ Below w.heap.size w w' := by
  rcases hA with rfl | ⟨b, off, rfl, hb, hr⟩
  · have : Calls Tryz.prog 126 #[.slice A 0 c, .func (.func g) #[] lb] w fun e w' => e = .returned (.int .i64 (-1)) ∧ Below w.heap.size w w' := by
      clear hp
      go_enter Tryz.func126, Tryz.ntmps126
      go_wp2
      go_loopg [8] 0 (fun _ s wr => s = .int .i64 0 ∧ wr = w)
      case atStart => exact ⟨rfl, rfl⟩
      case round =>
        obtain ⟨rfl, rfl⟩ := hrel
        go_wp2
        go_ret
        exact ⟨rfl, Below.refl _ _⟩
    exact this
  · have h := AnyQ.slices_IndexFunc Tryz.idxC 22 aE60 zE60 encC encC_length p g lb eg b off L.length c L w hp (Nat.le_refl _) (by omega) hb (cells_of_CAt hr)
    rw [List.take_length] at h
    exact h
end Go.Proofs.YtehgpnnfjgmiiaaGreat
end
section
namespace Go.Proofs.YtehgpnnfjgmiiaaGreat
open Go.Shelf Go.RowKit Go.Lib Go.Sort Go.Great
set_option maxRecDepth 100000
set_option maxHeartbeats 1000000
theorem load60 {w : World} {g o : Nat} {c : Con} (hr : w.rangeAt g o (encC c)) : (loadVar 63 ⟨g, o, none⟩).run Tryz.prog w = .ok (.agg (encC c).toArray) w :=
  run_loadVar_mid w g o 63 (encC c) _ hr Tryz.underlying63 rfl (by rw [encC_length]; kernel_rfl)
theorem clo105_any (x : Con) (w : World) : Calls Tryz.prog 112 #[.agg (encC x).toArray] w fun e w' => e = .returned (.bool (!ctGood x.1)) ∧ Below w.heap.size w w' := by
  have hb : Below w.heap.size w (w.alloc (.cells (encC x).toArray 63)) := (Below.refl _ w).alloc (Nat.le_refl _) _
  have HK := Lib.hid (load60 (row_range (heap_alloc_new w (.cells (encC x).toArray 63))))
  have HG : Hid (∀ W, Below w.heap.size w W → Calls Tryz.prog 113 #[.agg (encC x).toArray] W fun e w' => e = .returned (.bool (ctGood x.1)) ∧ Below w.heap.size w w') := Lib.hid (fun W hW => (cgood_any x W).mono (by rintro e w' ⟨rfl, h⟩; exact ⟨rfl, hW.trans (h.mono hW.size)⟩))
  have HB := Lib.hid hb
  generalize (encC x).toArray = X at HK HG HB ⊢
  generalize ctGood x.1 = gd at HG ⊢
  clear hb
  go_enter Tryz.func112, Tryz.ntmps112
  go_wp2_with (first
    | ((with_reducible refine wpList_loadV (op := ⟨some 3, _, _, _, _, _⟩) rfl 63 (.tmp 1) rfl _ ?_ _ HK.out ?_); rfl)
    | (go_at_call 113; (with_reducible refine (HG.out _ HB.out).mono ?_); rintro e w1 ⟨rfl, hb1⟩))
  go_ret
  exact ⟨rfl, hb1⟩
theorem cont_any (A : Option Addr) (c : Nat) (L : List Con) (w : World) (hL : L.length ≤ 10000) (hA : CAt w w.heap.size A L) :
    Calls Tryz.prog 111 #[.slice A L.length c, .func (.func 112) #[] #[]] w fun e w' => e = .returned (.bool (L.any fun x => !ctGood x.1)) ∧ Below w.heap.size w w' := by
  have eg : ∀ args w, (callFunc 112 args).run Tryz.prog w = .ok (.enter 112 args) w := enters_of Tryz.func112 (by kernel_rfl) rfl
  have hp : ∀ W (x : Con), Below w.heap.size w W → Calls Tryz.prog 112 (#[.agg (encC x).toArray] ++ #[]) W fun e w' => e = .returned (.bool (!ctGood x.1)) ∧ Below w.heap.size w w' := fun W x hW => (clo105_any x W).mono (by rintro e w' ⟨rfl, h⟩; exact ⟨rfl, hW.trans (h.mono hW.size)⟩)
  rcases hA with rfl | ⟨b, off, rfl, hb, hr⟩
  · have HI := Lib.hid (idx_any (fun x => !ctGood x.1) 112 #[] eg A c [] w (by simp) hp (.inl rfl))
    rw [idxP_nil] at HI
    simp only [List.length_nil] at HI
    have : Calls Tryz.prog 111 #[.slice A 0 c, .func (.func 112) #[] #[]] w fun e w' => e = .returned (.bool false) ∧ Below w.heap.size w w' := by
      clear hp eg
      go_enter Tryz.func111, Tryz.ntmps111
      go_wp2_with (first | (go_at_call 126; (with_reducible refine HI.out.mono ?_); rintro e w1 ⟨rfl, hb1⟩))
      go_ret
      exact ⟨rfl, hb1⟩
    exact this
  · have h := AnyQ.slices_ContainsFunc Tryz.conC 22 aE60 zE60 encC encC_length (fun x => !ctGood x.1) 112 #[] eg b off L.length c L w hp (Nat.le_refl _) (by omega) hb (cells_of_CAt hr)
    rw [List.take_length] at h
    exact h
theorem allgood_any (A : Option Addr) (c : Nat) (L : List Con) (w : World) (hL : L.length ≤ 10000) (hA : CAt w w.heap.size A L) :
    Calls Tryz.prog 97 #[.slice A L.length c] w fun e w' => e = .returned (.bool (L.all fun x => ctGood x.1)) ∧ Below w.heap.size w w' := by
  have HC := Lib.hid (cont_any A c L w hL hA)
  have e : (L.all fun x => ctGood x.1) = !(L.any fun x => !ctGood x.1) := by rw [List.not_any_eq_all_not]; simp
  rw [e]
  generalize (L.any fun x => !ctGood x.1) = b at HC ⊢
  generalize L.length = n at HC ⊢
  clear hL hA e
  go_enter Tryz.func97, Tryz.ntmps97
  go_wp2_with (first | (go_at_call 111; (with_reducible refine HC.out.mono ?_); rintro e w1 ⟨rfl, hb1⟩))
  go_ret
  exact ⟨rfl, hb1⟩
section
variable {α : Type} {key : α → Nat}
theorem insG_len (x : α) : ∀ l : List α, (insG key x l).length = l.length + 1
  | [] => rfl
  | a :: t => by
    rw [insG]
    split
    · rw [List.length_cons, insG_len x t, List.length_cons]
    · rfl
theorem srtG_le : ∀ (l acc : List α), (srtG key acc l).length ≤ acc.length + l.length
  | [], acc => by simp [srtG]
  | x :: l, acc => by
    rw [srtG]
    have := srtG_le l (if acc.any (fun d => key d == key x) then acc else insG key x acc)
    split at this <;> rename_i h
    · rw [if_pos h]; simp only [List.length_cons]; omega
    · rw [if_neg h]; rw [insG_len] at this; simp only [List.length_cons]; omega
theorem srtG_len : ∀ (l acc : List α), (srtG key acc l).length = acc.length + l.length ↔ (l.map key).Nodup ∧ ∀ a ∈ acc, ∀ x ∈ l, key a ≠ key x
  | [], acc => by simp [srtG]
  | x :: l, acc => by
    rw [srtG]
    by_cases h : acc.any (fun d => key d == key x) = true
    · rw [if_pos h]
      have := srtG_le (key := key) l acc
      obtain ⟨a, ha, hk⟩ := List.any_eq_true.1 h
      simp only [beq_iff_eq] at hk
      constructor
      · intro e; simp only [List.length_cons] at e; omega
      · intro e; exact absurd hk (e.2 a ha x List.mem_cons_self)
    · rw [if_neg h]
      have hn : ∀ a ∈ acc, key a ≠ key x := fun a ha hk => h (List.any_eq_true.2 ⟨a, ha, by simpa using hk⟩)
      have ih := srtG_len l (insG key x acc)
      rw [insG_len] at ih
      rw [show acc.length + (x :: l).length = acc.length + 1 + l.length by simp only [List.length_cons]; omega, ih, List.map_cons, List.nodup_cons]
      constructor
      · rintro ⟨h1, h2⟩
        refine ⟨⟨fun hm => ?_, h1⟩, fun a ha y hy => ?_⟩
        · obtain ⟨y, hy, e⟩ := List.mem_map.1 hm
          exact h2 x ((insG_mem key x acc x).2 (.inl rfl)) y hy e.symm
        · rcases List.mem_cons.1 hy with rfl | hy
          · exact hn a ha
          · exact h2 a ((insG_mem key x acc a).2 (.inr ha)) y hy
      · rintro ⟨⟨h1, h2⟩, h3⟩
        refine ⟨h2, fun a ha y hy => ?_⟩
        rcases (insG_mem key x acc a).1 ha with rfl | ha
        · intro e; exact h1 (List.mem_map.2 ⟨y, hy, e.symm⟩)
        · exact h3 a ha y (List.mem_cons_of_mem _ hy)
end
/-- The contacts, plain. -/
def ctsC (L : List Con) : List Ct := L.map (·.1)
theorem nodup_key (t : IDv) (L : List Con) : (L.map (kC t)).Nodup ↔ ((ctsC L).map (·.1)).Nodup := by
  unfold ctsC
  rw [List.map_map]
  induction L with
  | nil => simp
  | cons x L ih =>
    rw [List.map_cons, List.map_cons, List.nodup_cons, List.nodup_cons, ih]
    have : kC t x ∈ L.map (kC t) ↔ ((fun c : Ct => c.1) ∘ fun c : Con => c.1) x ∈ L.map ((fun c : Ct => c.1) ∘ fun c : Con => c.1) := by
      constructor
      · intro h
        obtain ⟨y, hy, e⟩ := List.mem_map.1 h
        refine List.mem_map.2 ⟨y, hy, ?_⟩
        have := kM_inj t _ _ e
        exact congrArg Subtype.val this
      · intro h
        obtain ⟨y, hy, e⟩ := List.mem_map.1 h
        refine List.mem_map.2 ⟨y, hy, ?_⟩
        unfold kC
        have : idC y = idC x := Subtype.ext e
        rw [this]
    rw [this]
theorem goodC_eq (t : IDv) (L : List Con) : goodC (ctsC L) = (decide (L.length ≤ 64) && (L.all fun x => ctGood x.1) && decide ((srtG (kC t) [] L).length = L.length)) := by
  have h := srtG_len (key := kC t) L []
  simp only [List.length_nil, Nat.zero_add, List.not_mem_nil, false_implies, implies_true, and_true] at h
  have hn := (h.trans (nodup_key t L))
  unfold goodC
  rw [show (ctsC L).all ctGood = L.all fun x => ctGood x.1 by unfold ctsC; rw [List.all_map]; rfl, show (ctsC L).length = L.length by unfold ctsC; simp]
  rw [show decide ((srtG (kC t) [] L).length = L.length) = decide (((ctsC L).map (·.1)).Nodup) from decide_eq_decide.2 hn]
  cases (L.all fun x => ctGood x.1) <;> cases decide (((ctsC L).map (·.1)).Nodup) <;> cases decide (L.length ≤ 64) <;> rfl
def zID : IDv := ⟨List.replicate 20 0, by simp⟩
theorem build55 (W : World) : (Instr.build 24 #[]).run Tryz.prog W = .ok (.agg (encID zID).toArray) W := by kernel_rfl
end Go.Proofs.YtehgpnnfjgmiiaaGreat
end
section
namespace Go.Proofs.YtehgpnnfjgmiiaaGreat
open Go.Shelf Go.RowKit Go.Lib Go.Sort Go.Great
set_option maxRecDepth 100000
set_option maxHeartbeats 1000000
theorem wpList_buildG {P : Program} {ops : Array Oper} {rest : List Oper} {o : Oper} {a : Act} {w : World} {Q : Exit → Act → World → Prop} (hw : Region.wanted o (yielded ops a.tmps) = true) (t : TypeId) (ho : o.op = .build t #[]) (v : Value) (hv : (Instr.build t #[]).run P w = .ok v w)
    (h : wpList P ops Q rest (a.put o.dst v) w) : wpList P ops Q (o :: rest) a w :=
  wpList_step fun _ hK => by
    rw [if_pos hw]
    unfold Oper.wp execOp
    simp only [ho, List.map_toArray, List.map_nil, Sem.run_bind, hv, Result.andThen_ok]
    exact hK _ _ h
theorem isgood_any (A : Option Addr) (c : Nat) (L : List Con) (w : World) (hL : L.length ≤ 10000) (hA : CAt w w.heap.size A L) (hA2 : A = none ∨ ∃ g off, A = some ⟨g, off, none⟩) :
    Calls Tryz.prog 78 #[.slice A L.length c] w fun e w' => e = .returned (.bool (goodC (ctsC L))) ∧ Below w.heap.size w w' := by
  have hg := goodC_eq zID L
  have HG := Lib.hid (allgood_any A c L w hL hA)
  have HS : Hid (∀ W, Below w.heap.size w W → Calls Tryz.prog 98 #[.agg (encID zID).toArray, .slice A L.length c] W fun e w' => ∃ A' c', e = .returned (.slice A' (srtG (kC zID) [] L).length c') ∧ Below w.heap.size w w') := by
    refine Lib.hid (fun W hW => (csort_any zID A c L W hL ((hA.below hW).more hW.size) hA2).mono ?_)
    rintro e w' ⟨A', c', rfl, _, _, _, hb⟩
    exact ⟨A', c', rfl, hW.trans (hb.mono hW.size)⟩
  have HBU := Lib.hid (fun W => build55 W)
  generalize (encID zID).toArray = ZI at HS HBU
  obtain ⟨n, hn⟩ : ∃ n, n = L.length := ⟨_, rfl⟩
  obtain ⟨m, hm⟩ : ∃ m, m = (srtG (kC zID) [] L).length := ⟨_, rfl⟩
  rw [← hn] at HG HS hL ⊢
  rw [← hm] at HS
  rw [← hn, ← hm] at hg
  have hmn : m ≤ n := by rw [hm, hn]; have := srtG_le (key := kC zID) L []; simpa using this
  rw [hg]
  generalize (L.all fun x => ctGood x.1) = b at HG ⊢
  clear hA hA2 hg hn hm
  by_cases h64 : n ≤ 64
  · have h64' : (n : Int) ≤ 64 := by omega
    rw [decide_eq_true h64, Bool.true_and]
    cases b with
    | false =>
      clear HS
      go_enter Tryz.func78, Tryz.ntmps78
      go_wp2_with (first | (go_at_call 97; (with_reducible refine HG.out.mono ?_); rintro e w1 ⟨rfl, hb1⟩))
      go_ret
      exact ⟨rfl, hb1⟩
    | true =>
      rw [Bool.true_and]
      by_cases hmn2 : m = n
      · have hq : ((m : Int) == (n : Int)) = true := by simp; omega
        rw [decide_eq_true hmn2]
        clear hmn2
        go_enter Tryz.func78, Tryz.ntmps78
        go_wp2_with (first
          | (go_at_call 97; (with_reducible refine HG.out.mono ?_); rintro e w1 ⟨rfl, hb1⟩)
          | ((with_reducible refine wpList_buildG (o := ⟨some 11, _, _, _, _, _⟩) ?_ 24 rfl _ (HBU.out _) ?_); rfl)
          | (go_at_call 98; (with_reducible refine (HS.out _ hb1).mono ?_); rintro e w2 ⟨A2, c2, rfl, hb2⟩))
        go_ret
        exact ⟨rfl, hb2⟩
      · have hq : ((m : Int) == (n : Int)) = false := by simp; omega
        rw [decide_eq_false hmn2]
        clear hmn2
        go_enter Tryz.func78, Tryz.ntmps78
        go_wp2_with (first
          | (go_at_call 97; (with_reducible refine HG.out.mono ?_); rintro e w1 ⟨rfl, hb1⟩)
          | ((with_reducible refine wpList_buildG (o := ⟨some 11, _, _, _, _, _⟩) ?_ 24 rfl _ (HBU.out _) ?_); rfl)
          | (go_at_call 98; (with_reducible refine (HS.out _ hb1).mono ?_); rintro e w2 ⟨A2, c2, rfl, hb2⟩))
        go_ret
        exact ⟨rfl, hb2⟩
  · have h64' : ¬ (n : Int) ≤ 64 := by omega
    rw [decide_eq_false h64]
    clear HG HS
    go_enter Tryz.func78, Tryz.ntmps78
    go_wp2
    go_ret
    exact ⟨by simp, Below.refl _ _⟩
end Go.Proofs.YtehgpnnfjgmiiaaGreat
end
