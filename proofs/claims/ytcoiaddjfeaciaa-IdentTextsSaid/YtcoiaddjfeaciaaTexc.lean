/- The chapter's examples of package ident hold. No condition. -/
import Derived.Test.YtcoiaddjfeaciaaTexb
namespace Go.Proofs.Ytcoiaddjfeaciaa
set_option maxRecDepth 100000
set_option maxHeartbeats 200000
open Go.RowKit Go.Great

theorem abc_text : ∃ T : List UInt8, textL (shaI [97, 98, 99]) = [97, 57, 57, 57, 51, 101, 51, 54] ++ T ∧ T.length = 32 := by
  have h := List.take_append_drop 4 (shaI [97, 98, 99])
  rw [sha_abc] at h
  have hl : (shaI [97, 98, 99]).length = 20 := idI_length _
  refine ⟨textL ((shaI [97, 98, 99]).drop 4), ?_, by rw [textL_length, List.length_drop, hl]⟩
  rw [← h]
  rfl
theorem built128 (W : World) : (Instr.build 26 #[(0, .int .u8 128)]).run Try.prog W = .ok (.agg (bcells (128 :: List.replicate 19 0)).toArray) W := run_build W 26 _ _ (by kernel_rfl)
theorem built129 (W : World) : (Instr.build 26 #[(0, .int .u8 129)]).run Try.prog W = .ok (.agg (bcells (129 :: List.replicate 19 0)).toArray) W := run_build W 26 _ _ (by kernel_rfl)
theorem pfx_ex : pfxN (128 :: List.replicate 19 0) (129 :: List.replicate 19 0) = 7 := by decide +kernel

theorem wpList_buildV {P : Program} {ops : Array Oper} {rest : List Oper} {o : Oper} {a : Act} {w : World} {Q : Exit → Act → World → Prop} (hg : o.guard = none) (t : TypeId) (parts : Array (Nat × Operand)) (ho : o.op = .build t parts) (vs : Array (Nat × Value))
    (hv : (parts.map fun (i, x) => (i, a.eval x)) = vs) (v : Value) (hr : (Instr.build t vs).run P w = .ok v w) (h : wpList P ops Q rest (a.put o.dst v) w) : wpList P ops Q (o :: rest) a w :=
  wpList_plain hg fun _ hK => by
    unfold Oper.wp execOp
    simp only [ho, hv, Sem.run_bind, hr, Result.andThen_ok]
    exact hK _ _ h

theorem ext8 (T : List UInt8) : (((bstr ([97, 57, 57, 57, 51, 101, 51, 54] ++ T)).extract 0 8).toList == [97, 57, 57, 57, 51, 101, 51, 54]) = true := by
  have h : (bstr ([97, 57, 57, 57, 51, 101, 51, 54] ++ T)).extract 0 8 = bstr [97, 57, 57, 57, 51, 101, 51, 54] := by
    apply ByteArray.ext
    rw [ByteArray.data_extract]
    simp [bstr]
  rw [h]
  decide +kernel

theorem ilives_any (w : World) : Calls Try.prog 34 #[] w fun e w' => e = .returned (.bool true) ∧ Below w.heap.size w w' := by
  obtain ⟨T, hT, hTl⟩ := abc_text
  have HO := Lib.hid (fun W => of_any [97, 98, 99] (by simp) W)
  have HT := Lib.hid (fun W => text_any (shaI [97, 98, 99]) (idI_length _) W)
  have HP := Lib.hid (fun W => prefix_any (128 :: List.replicate 19 0) (129 :: List.replicate 19 0) (by simp) (by simp) W)
  have b1 := fun W => built128 W
  have b2 := fun W => built129 W
  rw [pfx_ex] at HP
  rw [hT] at HT
  have e1 : bstr [97, 98, 99] = ⟨#[97, 98, 99]⟩ := rfl
  rw [e1] at HO
  have hs : (bstr ([97, 57, 57, 57, 51, 101, 51, 54] ++ T)).size = 40 := by
    show ([97, 57, 57, 57, 51, 101, 51, 54] ++ T : List UInt8).length = 40
    rw [List.length_append, hTl]
    rfl
  have hx8 := ext8 T
  generalize bstr ([97, 57, 57, 57, 51, 101, 51, 54] ++ T) = s at HT hs hx8
  generalize (bcells (shaI [97, 98, 99])).toArray = S at HT HO
  generalize (bcells (128 :: List.replicate 19 0)).toArray = X at HP b1
  generalize (bcells (129 :: List.replicate 19 0)).toArray = Y at HP b2
  have B1 := Lib.hid b1
  have B2 := Lib.hid b2
  clear hT hTl e1 b1 b2
  go_enter Try.func34, Try.ntmps34
  go_wp2_with (first
    | (go_at_call 39; refine (HO.out _).mono ?_; rintro e w1 ⟨rfl, hb1⟩)
    | (go_at_call 37; refine (HT.out _).mono ?_; rintro e w2 ⟨rfl, hb2⟩)
    | (go_at_call 32; refine (HP.out _).mono ?_; rintro e w3 ⟨rfl, hb3⟩)
    | ((with_reducible refine wpList_buildV (o := ⟨some 4, _, _, _, _, _⟩) rfl 26 _ rfl _ ?_ _ (B1.out _) ?_); (simp only [List.map_toArray, List.map_cons, List.map_nil]; rfl))
    | ((with_reducible refine wpList_buildV (o := ⟨some 5, _, _, _, _, _⟩) rfl 26 _ rfl _ ?_ _ (B2.out _) ?_); (simp only [List.map_toArray, List.map_cons, List.map_nil]; rfl)))
  go_ret
  exact ⟨rfl, hb1.trans ((hb2.mono hb1.size).trans (hb3.mono (Nat.le_trans hb1.size hb2.size)))⟩
end Go.Proofs.Ytcoiaddjfeaciaa
