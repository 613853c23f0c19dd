/- Contract of build of package span: an id is built bit by bit. No condition but that the closure tells each bit. -/
import Derived.Test.YtieeffebecghiaaScb
namespace Go.Proofs.Ytieeffebecghiaa
set_option maxRecDepth 100000
set_option maxHeartbeats 1000000
open Go.RowKit Go.Lib Go.Great

theorem loose_callV {P : Program} {o : Oper} {a : Act} {S : World → Prop} {X : Value → World → Prop} (f : Nat) (caps : Array Value) (x : Operand) {xs : Array Operand} {ts : Array TypeId} (ho : o.op = .call { callee := .value x, args := xs, argTypes := ts })
    (hx : a.eval x = .func (.func f) #[] caps) (eg : ∀ args w, (callFunc f args).run P w = .ok (.enter f args) w) (args : Array Value) (hargs : xs.map a.eval = args)
    (h : ∀ w, S w → Calls P f (args ++ caps) w fun e w'' => ∃ v, e = .returned v ∧ S w'' ∧ Below w.heap.size w w'' ∧ X v w'') : Loose P o a S X := fun w hw => looseR_callV f caps x ho hx eg args hargs (h w hw)
theorem bc_info26 {x : List UInt8} (h : x.length = 20) : (Try.prog.info? 23).map (·.size) = some (bcells x).toArray.size := by rw [bc_size h]; exact size26
theorem bitL_zeros (m : Nat) : bitL (List.replicate 20 0) m = false := bitL_zero 20 m
/-- What build keeps but for the id that it turns. -/
structure BuS (w wr : World) : Prop where
  bel : Below w.heap.size w wr
  res : wr.heap[w.heap.size]? = some (.cells (bcells (List.replicate 20 0)).toArray 23 (0, 0))
  big : w.heap.size + 1 < wr.heap.size
theorem BuS.keep {w wr w' : World} (h : BuS w wr) (hb : Below wr.heap.size wr w') : BuS w w' :=
  ⟨h.bel.trans (hb.mono h.bel.size), (hb.block _ (by have := h.big; omega)).trans h.res, Nat.lt_of_lt_of_le h.big hb.size⟩
theorem BuS.set {w wr : World} (h : BuS w wr) (c : Array Value) : BuS w (wr.setRow (w.heap.size + 1) c) :=
  ⟨below_setRow h.bel (by omega) _, by rw [setRow_other _ _ _ _ (by omega)]; exact h.res, by simpa using h.big⟩
/-- The first j bits are those that g tells, the others are nought. -/
structure BitsTo (g : Nat → Bool) (x : List UInt8) (j : Nat) : Prop where
  len : x.length = 20
  bits : ∀ m, m < 160 → bitL x m = if m < j then g m else false
theorem BitsTo.start (g : Nat → Bool) : BitsTo g (List.replicate 20 0) 0 := ⟨by simp, fun m _ => by rw [if_neg (by omega)]; exact bitL_zeros m⟩
theorem BitsTo.step {g : Nat → Bool} {x : List UInt8} {j : Nat} (h : BitsTo g x j) (hj : j < 160) : BitsTo g (withL x j (g j)) (j + 1) := by
  refine ⟨(withL_length _ _ _).trans h.len, fun m hm => ?_⟩
  rw [withL_bit x j m _ (by rw [h.len]; omega)]
  by_cases e : m = j
  · rw [if_pos e, if_pos (by omega), e]
  · rw [if_neg e, h.bits m hm]
    by_cases h2 : m < j
    · rw [if_pos h2, if_pos (by omega)]
    · rw [if_neg h2, if_neg (by omega)]
def BuRel (w : World) (g : Nat → Bool) (i : Value) (wr : World) : Prop :=
  ∃ (j : Nat) (x : List UInt8), j ≤ 160 ∧ i = .int .i64 (j : Int) ∧ BitsTo g x j ∧ BuS w wr ∧ wr.heap[w.heap.size + 1]? = some (.cells (bcells x).toArray 23 (0, 0))
def BuPost (g : Nat → Bool) (e : Ending) : Prop := ∃ x, e = .returned (.agg (bcells x).toArray) ∧ BitsTo g x 160

theorem build_any (f : Nat) (caps : Array Value) (B : Nat) (W0 : World) (g : Nat → Bool) (hf : TellsB f caps B W0 g) (hB : B ≤ W0.heap.size) (w : World) (hw : Below B W0 w) :
    Calls Try.prog 34 #[.func (.func f) #[] caps] w fun e w' => BuPost g e ∧ Below w.heap.size w w' := by
  have hz1 := fun W => zero26 W
  obtain ⟨h1, h2, hb⟩ := heap2 w (.cells (bcells (List.replicate 20 0)).toArray 23) (.cells (bcells (List.replicate 20 0)).toArray 23)
  have R0 : Hid (BuRel w g (.int .i64 0) ((w.alloc (.cells (bcells (List.replicate 20 0)).toArray 23)).alloc (.cells (bcells (List.replicate 20 0)).toArray 23))) := Lib.hid ⟨0, List.replicate 20 0, by omega, rfl, BitsTo.start g, ⟨hb, h1, by simp⟩, h2⟩
  have HE := Lib.hid hf.1
  have HF : Hid (∀ j : Nat, j < 160 → ∀ W, Below w.heap.size w W → Calls Try.prog f (#[.int .i64 (j : Int)] ++ caps) W fun e w' => e = .returned (.int .i64 (if g j then 1 else 0)) ∧ Below W.heap.size W w') := Lib.hid (fun j hj W h => hf.2 j hj W (hw.trans (h.mono (Nat.le_trans hB hw.size))))
  generalize hZ : (bcells (List.replicate 20 0)).toArray = Z at hz1 R0
  clear h1 h2 hb hf hw hB
  go_enter Try.func34, Try.ntmps34
  go_upto_region 3 with fail
  go_loopw [5] (BuRel w g) (fun i _ => 160 - (RowKit.intOf i).toNat)
  case atStart => exact R0.out
  case round =>
    obtain ⟨j, x, hj, rfl, hto, hbu, hrow⟩ := hrel
    clear R0
    have HBU := Lib.hid hbu
    have HTO := Lib.hid hto
    have HROW := Lib.hid hrow
    by_cases hlt : j < 160
    · have HLX : Hid (∀ W, Below wr.heap.size wr W → (loadVar 23 ⟨w.heap.size + 1, 0, none⟩).run Try.prog W = .ok (.agg (bcells x).toArray) W) := Lib.hid (fun W h => load26 hto.len ((h.block _ (by have := hbu.big; omega)).trans hrow))
      have hbud : BuS w wr.drew := hbu.keep (Below.refl _ wr).drew
      have HFJ := Lib.hid (HF.out j hlt)
      obtain ⟨b, hb⟩ : ∃ b, b = g j := ⟨_, rfl⟩
      rw [← hb] at HFJ
      have HWI : Hid (∀ W, Calls Try.prog 40 #[.agg (bcells x).toArray, .int .i64 (j : Int), .int .i64 (if b then 1 else 0)] W fun e w' => e = .returned (.agg (bcells (withL x j b)).toArray) ∧ Below W.heap.size W w') := Lib.hid (fun W => by
        have h1 := with_any x HTO.out.len (j : Int) (if b then 1 else 0) W
        have h2 : withI x (j : Int) (if b then 1 else 0) = withL x j b := by
          unfold withI
          rw [if_pos (by omega), Int.toNat_natCast]
          cases b <;> rfl
        rwa [h2] at h1)
      have HST : Hid (BitsTo g (withL x j b) (j + 1)) := Lib.hid (by rw [hb]; exact HTO.out.step hlt)
      generalize (if b then (1 : Int) else 0) = bi at HFJ HWI
      clear hb hto hbu hrow
      go_upto_region 5 with fail
      refine wp_region_noPanic ?_
      refine wp_region_held_drew (S := fun w' => BuS w w') (by kernel_rfl) hbud (fun hHeld => ?_)
      refine takeH_at 1 9 (v := ?_) rfl rfl (by kernel_rfl) (by kernel_rfl) (by kernel_rfl) (fun _ _ _ h => h) (Or.inl ⟨by rfl, ?_⟩) (by assumption) ?_
      rotate_left
      · (intro wx hSw; clear hSw; go_simp) <;> with_reducible rfl
      simp only [Act.put, List.setIfInBounds_toArray, List.set_cons_zero, List.set_cons_succ]
      refine takeH_at 2 10 (v := ?_) rfl rfl (by kernel_rfl) (by kernel_rfl) (by kernel_rfl) (fun _ _ _ h => h) (Or.inl ⟨by rfl, ?_⟩) (by assumption) ?_
      rotate_left
      · (intro wx hSw; clear hSw; go_simp) <;> with_reducible rfl
      simp only [Act.put, List.setIfInBounds_toArray, List.set_cons_zero, List.set_cons_succ]
      refine takeH_at 3 11 (v := ?_) rfl rfl (by kernel_rfl) (by kernel_rfl) (by kernel_rfl) (fun _ _ _ h => h) (Or.inl ⟨by rfl, ?_⟩) (by assumption) ?_
      rotate_left
      · (intro wx hSw; clear hSw; go_simp) <;> with_reducible rfl
      simp only [Act.put, List.setIfInBounds_toArray, List.set_cons_zero, List.set_cons_succ]
      refine diamond2 (fun w' => Below wr.heap.size wr w') (fun W h => HBU.out.keep h) 0 4 8 12 rfl rfl rfl rfl (by kernel_rfl) (by kernel_rfl) (by kernel_rfl) (by kernel_rfl) (by omega) (by kernel_rfl) (by kernel_rfl) (by rfl) (by rfl) (fun u _ => u = .agg (bcells x).toArray) (fun u _ => u = .int .i64 bi) (fun _ _ _ _ h => h) (fun _ _ _ _ h => h)
        (loose_load 23 (.tmp 3) rfl _ rfl _ HLX.out) (loose_callV f caps (.tmp 10) rfl rfl HE.out #[.int .i64 (j : Int)] (by simp only [List.map_toArray, List.map_cons, List.map_nil]; rfl) (fun W h => (HFJ.out W (HBU.out.keep h).bel).mono (by rintro e w' ⟨rfl, q⟩; exact ⟨_, rfl, h.trans (q.mono h.size), q, rfl⟩))) (Below.refl _ wr).drew ?_
      intro u v wa hSa hba hu hv
      subst hu
      subst hv
      simp only [Act.put, List.setIfInBounds_toArray, List.set_cons_zero, List.set_cons_succ]
      have hLa := HBU.out.keep hSa
      refine single 5 13 rfl rfl (by kernel_rfl) (by rfl) (fun u w' => u = .agg (bcells (withL x j b)).toArray ∧ Below wr.heap.size wr w') (looseR_call 40 rfl (enters_of Try.func40 (by kernel_rfl) rfl) _ (by simp only [List.map_toArray, List.map_cons, List.map_nil]; rfl) ((HWI.out wa).mono (by rintro e w' ⟨rfl, q⟩; exact ⟨_, rfl, hLa.keep q, q, rfl, hSa.trans (q.mono hSa.size)⟩))) ?_
      intro u wb hSb hbb hu
      obtain ⟨rfl, hwb⟩ := hu
      simp only [Act.put, List.setIfInBounds_toArray, List.set_cons_zero, List.set_cons_succ]
      have hrb := (hwb.block (w.heap.size + 1) (by have := HBU.out.big; omega)).trans HROW.out
      refine single_store 6 rfl rfl (by kernel_rfl) (by rfl) 23 (.tmp 3) (.tmp 13) rfl (w.heap.size + 1) (bcells (withL x j b)).toArray rfl rfl 23 (bcells x).toArray hrb (bc_info26 HST.out.len) (by rw [bc_size HTO.out.len, bc_size HST.out.len]) (bc_all _) (hSb.set _) ?_
      refine wpAnyH_done (by kernel_rfl) ?_ _
      refine NoPanic.normal ?_
      have HREL : Hid (BuRel w g (.int .i64 ((j : Int) + 1)) (wb.setRow (w.heap.size + 1) (bcells (withL x j b)).toArray)) := Lib.hid ⟨j + 1, withL x j b, by omega, by go_num, HST.out, hSb.set _, setRow_heap _ _ _ _ 23 (0, 0) hrb⟩
      generalize wb.setRow (w.heap.size + 1) (bcells (withL x j b)).toArray = wz at HREL ⊢
      clear hrb hwb hSb hbb hSa hba hLa HST HWI HFJ HTO HROW HLX HBU hbud hHeld
      go_wp2
      go_roundw
      case rel => exact HREL.out
      case measure => simp [RowKit.intOf]; omega
    · obtain rfl : j = 160 := by omega
      have HLX := Lib.hid (load26 hto.len hrow)
      have HH : Hid (wr.heap[w.heap.size]? = some (.cells Z 23 (0, 0))) := Lib.hid (by rw [← hZ]; exact hbu.res)
      have HI := Lib.hid (bc_info26 hto.len)
      have HA := Lib.hid (bc_all x)
      have HS : Hid (Z.size = (bcells x).toArray.size) := Lib.hid (by rw [← hZ, bc_size hto.len, bc_size (by simp)])
      have HJ : Hid ((Try.prog.info? 23).map (·.size) = some (bcells x).length) := Lib.hid (by rw [bcells_length, hto.len]; exact size26)
      have HBB := Lib.hid hbu.bel
      clear hto hbu hrow HROW HBU hlt
      go_wp2_with (first
        | ((with_reducible refine wpList_loadV (op := ⟨some 15, _, _, _, _, _⟩) rfl 23 (.tmp 3) rfl _ ?_ _ HLX.out ?_); rfl)
        | ((with_reducible refine wpList_store_row rfl 23 (.tmp 2) (.tmp 15) rfl w.heap.size (bcells x).toArray ?_ ?_ 23 Z HH.out HI.out HS.out HA.out ?_); rfl; rfl))
      have q1 := setRow_heap _ w.heap.size _ (bcells x).toArray 23 (0, 0) HH.out
      have q2 := below_setRow HBB.out (g := w.heap.size) (by omega) (bcells x).toArray
      generalize wr.setRow w.heap.size (bcells x).toArray = W5 at q1 q2 ⊢
      refine bodyPost_ret (v := .agg (bcells x).toArray) ?_ rfl ?_
      · exact results_cell1 (p := 2) (ty := 23) rfl _ _ w.heap.size 0 (bcells x) _ rfl (row_range q1) Try.underlying23 rfl HJ.out
      · exact ⟨⟨x, rfl, HTO.out⟩, q2⟩
end Go.Proofs.Ytieeffebecghiaa
