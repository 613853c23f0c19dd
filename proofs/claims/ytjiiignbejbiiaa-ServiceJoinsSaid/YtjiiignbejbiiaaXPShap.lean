/- Contract of the reference's words of a block. Condition: a block has 64 bytes. -/
import Derived.Test.YtjiiignbejbiiaaXPRbb
namespace Go.Proofs.Ytjiiignbejbiiaa
set_option maxRecDepth 100000
open Go.RowKit Go.Great
set_option linter.unusedVariables false
set_option linter.unusedSimpArgs false

set_option maxRecDepth 100000 in
set_option maxHeartbeats 1600000 in
theorem rwords_any (A : Option Addr) (c : Nat) (xs : List UInt8) (w : World) (hx : BAt w w.heap.size A xs) (hl : xs.length = 64) :
    Calls Try.prog 71 #[.slice A 64 c] w fun e w' => ∃ A1 c1, e = .returned (.slice A1 80 c1) ∧ w'.ownsRow w.heap.size 90 1 (.slice A1 80 c1) 80 (ucells (schI xs 80)) ∧ Below w.heap.size w w' := by
  obtain ⟨i0, hi, hz0, hz1, hz2⟩ := info_parts info75
  have HX := Lib.hid hx
  have HL := Lib.hid hl
  clear hx hl
  go_enter Try.func71, Try.ntmps71
  go_wp2
  go_loopw [3, 4] (fun v i wr => RWRel w xs v i wr ∧ intOf i ≤ 16) (fun _ i _ => 16 - (intOf i).toNat)
  case atStart => exact ⟨⟨0, none, 0, Nat.zero_le _, rfl, rfl, World.ownsRow_nil _ _ _ _, Below.refl _ _⟩, by simp [intOf]⟩
  case round =>
    obtain ⟨⟨j, A1, c1, hj, rfl, rfl, hown, hb⟩, h16⟩ := hrel
    have h16' : j ≤ 16 := by simp [intOf] at h16; omega
    clear h16
    by_cases hlt : j < 16
    · obtain ⟨N4, hN⟩ : ∃ N4, getN ((xs.drop (j * 4)).take 4) = N4 := ⟨_, rfl⟩
      have hN4 : N4 < 4294967296 := by
        rw [← hN]
        have h1 := getN_lt ((xs.drop (j * 4)).take 4)
        have h2 : 256 ^ ((xs.drop (j * 4)).take 4).length ≤ 256 ^ 4 := Nat.pow_le_pow_right (by omega) (by rw [List.length_take]; omega)
        omega
      have e1 : (N4 : Int) = nextI xs (schI xs j) j := by
        unfold nextI wordI
        rw [if_pos hlt, hN]
      have hl := HL.out
      have hG : Calls Try.prog 82 #[.slice A 64 c, .int .i64 (4 * (j : Int)), .int .i64 4] wr fun e w' => e = .returned (.tuple #[.int .u64 (N4 : Int), .bool true]) ∧ wr = w' := by
        have := rget_yes A c xs (j * 4) 4 wr ((HX.out.below hb).more hb.size) (by omega) (by omega) (by omega) (by omega)
        rw [hN, hl, Int.natCast_mul, Int.mul_comm] at this
        exact this
      have HG := Lib.hid hG
      have HH := Lib.hid hown
      have HB := Lib.hid hb
      have HR := Lib.hid (RWRel.step (by omega) hown hb (N4 : Int) e1)
      clear hG hl hN e1 hown hb
      go_wp2_with (first
        | (go_at_call 82; refine (HG.out).mono ?_; rintro e w1 ⟨rfl, rfl⟩)
        | (at_builtin; refine wpList_append_src _ rfl (.tmp 19) (.tmp 22) _ _ rfl w.heap.size 90 i0 _ 4 Try.underlying99 hi hz0 hz1 hz2 rfl _ _ _ rfl (HH.out.alloc _) _ 1 (ucells [(N4 : Int)]) rfl (src_u32 Try.underlying99 _ _ _) (by simp only [maxLen]; omega) (by omega) (by have := HB.out.size; simp; omega) ?_; intro v2 w2 hown2 hg2 hat2))
      go_roundw
      case rel => exact ⟨HR.out _ _ hown2 hg2, by simp [intOf]; omega⟩
      case measure => simp [intOf]; omega
    · obtain rfl : j = 16 := by omega
      have HR0 := Lib.hid (show RWRel w xs (.slice A1 16 c1) (.int .i64 16) wr from ⟨16, A1, c1, by omega, rfl, rfl, hown, hb⟩)
      clear hown hb hlt hj h16'
      go_wp2
      go_loopw [3, 7] (fun v i wr => RWRel w xs v i wr ∧ 16 ≤ intOf i) (fun _ i _ => 80 - (intOf i).toNat)
      case atStart => exact ⟨HR0.out, by simp [intOf]⟩
      case round =>
        obtain ⟨⟨j, A1, c1, hj, rfl, rfl, hown, hb⟩, h16⟩ := hrel
        have h16' : 16 ≤ j := by simp [intOf] at h16; omega
        clear h16 HR0
        by_cases hlt : j < 80
        · obtain ⟨g, rfl⟩ : ∃ g, A1 = some ⟨g, 0, none⟩ := by
            rcases hown.2 with ⟨_, hn⟩ | ⟨g, cap, cur, hv, _⟩
            · omega
            · simp only [Value.slice.injEq] at hv
              exact ⟨g, hv.1⟩
          have hg : g < wr.heap.size := (hown.lt g rfl).2
          have gt : ∀ i, i < j → wr.cell? ⟨g, i, none⟩ = some (.int .u32 ((schI xs j).getD i 0)) := fun i hi => by
            rw [hown.cellAt i (by omega)]
            simp [ucells, List.getD, List.getElem?_eq_getElem (show i < (schI xs j).length by rw [schI_length]; exact hi)]
          have g3 := gt (j - 3) (by omega)
          have g8 := gt (j - 8) (by omega)
          have g14 := gt (j - 14) (by omega)
          have g16 := gt (j - 16) (by omega)
          obtain ⟨X, hX⟩ : ∃ X, X = nextI xs (schI xs j) j := ⟨_, rfl⟩
          have e1 : X = rot1 (bits .xor .u32 (bits .xor .u32 (bits .xor .u32 ((schI xs j).getD (j - 3) 0) ((schI xs j).getD (j - 8) 0)) ((schI xs j).getD (j - 14) 0)) ((schI xs j).getD (j - 16) 0)) := by
            rw [hX]
            unfold nextI
            rw [if_neg (by omega)]
          have HR := Lib.hid (RWRel.step hlt hown hb X hX)
          have HK : Hid (∀ v2 w2, w2.ownsRow w.heap.size 90 1 v2 (j + 1) (ucells (schI xs j) ++ ucells [X]) → (v2.ownBlock = Value.ownBlock (.slice (some ⟨g, 0, none⟩) j c1) ∨ (v2.ownBlock = some (wr.alloc (.cells #[.int .u32 X] 90)).heap.size ∧ (wr.alloc (.cells #[.int .u32 X] 90)).grownBy w2 none)) → ∀ i, i < j → w2.cell? ⟨g, i, none⟩ = wr.cell? ⟨g, i, none⟩) := Lib.hid (fun v2 w2 h2 hat i hi => by
            rw [own_keeps (hown.alloc _) h2 hat i hi]
            exact ((Below.refl wr.heap.size wr).alloc (Nat.le_refl _) _).cell (p := ⟨g, i, none⟩) hg)
          have HH := Lib.hid hown
          have HB := Lib.hid hb
          generalize (schI xs j).getD (j - 3) 0 = x3 at g3 e1
          generalize (schI xs j).getD (j - 8) 0 = x8 at g8 e1
          generalize (schI xs j).getD (j - 14) 0 = x14 at g14 e1
          generalize (schI xs j).getD (j - 16) 0 = x16 at g16 e1
          have HE := Lib.hid e1
          have hj16 : (16 : Int) ≤ (j : Int) := by omega
          have k3 : IntKind.i64.wrap ((j : Int) - 3) = (j : Int) - 3 := by rw [IntKind.wrap_i64]; omega
          have k8 : IntKind.i64.wrap ((j : Int) - 8) = (j : Int) - 8 := by rw [IntKind.wrap_i64]; omega
          have k14 : IntKind.i64.wrap ((j : Int) - 14) = (j : Int) - 14 := by rw [IntKind.wrap_i64]; omega
          have k16 : IntKind.i64.wrap ((j : Int) - 16) = (j : Int) - 16 := by rw [IntKind.wrap_i64]; omega
          have t3 : ((j : Int) - 3).toNat = j - 3 := by omega
          have t8 : ((j : Int) - 8).toNat = j - 8 := by omega
          have t14 : ((j : Int) - 14).toNat = j - 14 := by omega
          have t16 : ((j : Int) - 16).toNat = j - 16 := by omega
          have b3 : (3 : Int) ≤ (j : Int) := by omega
          have b8 : (8 : Int) ≤ (j : Int) := by omega
          have b14 : (14 : Int) ≤ (j : Int) := by omega
          have b3' : (j : Int) - 3 < (j : Int) := by omega
          have b8' : (j : Int) - 8 < (j : Int) := by omega
          have b14' : (j : Int) - 14 < (j : Int) := by omega
          have b16' : (j : Int) - 16 < (j : Int) := by omega
          clear hown hb gt e1 hX
          go_wp2
          have hS0 : (fun w' => w'.cell? ⟨g, j - 3, none⟩ = some (.int .u32 x3) ∧ w'.cell? ⟨g, j - 8, none⟩ = some (.int .u32 x8) ∧ w'.cell? ⟨g, j - 14, none⟩ = some (.int .u32 x14) ∧ w'.cell? ⟨g, j - 16, none⟩ = some (.int .u32 x16)) wr.drew := ⟨g3, g8, g14, g16⟩
          refine wp_region_noPanic ?_
          refine wp_region_held_drew (S := fun w' => w'.cell? ⟨g, j - 3, none⟩ = some (.int .u32 x3) ∧ w'.cell? ⟨g, j - 8, none⟩ = some (.int .u32 x8) ∧ w'.cell? ⟨g, j - 14, none⟩ = some (.int .u32 x14) ∧ w'.cell? ⟨g, j - 16, none⟩ = some (.int .u32 x16)) (by kernel_rfl) hS0 (fun hHeld => ?_)
          refine takeH_at 0 28 (v := ?_) rfl rfl (by kernel_rfl) (by kernel_rfl) (by kernel_rfl) (fun _ _ _ h => h) (Or.inl ⟨by rfl, ?_⟩) (by assumption) ?_
          rotate_left
          · (intro wx hSw; (try dsimp only at hSw); go_simp) <;> with_reducible rfl
          simp only [Act.put, List.setIfInBounds_toArray, List.set_cons_zero, List.set_cons_succ]
          refine takeH_at 1 29 (v := ?_) rfl rfl (by kernel_rfl) (by kernel_rfl) (by kernel_rfl) (fun _ _ _ h => h) (Or.inl ⟨by rfl, ?_⟩) (by assumption) ?_
          rotate_left
          · (intro wx hSw; (try dsimp only at hSw); go_simp) <;> with_reducible rfl
          simp only [Act.put, List.setIfInBounds_toArray, List.set_cons_zero, List.set_cons_succ]
          refine takeH_at 2 30 (v := ?_) rfl rfl (by kernel_rfl) (by kernel_rfl) (by kernel_rfl) (fun _ _ _ h => h) (Or.inl ⟨by rfl, ?_⟩) (by assumption) ?_
          rotate_left
          · (intro wx hSw; (try dsimp only at hSw); go_simp) <;> with_reducible rfl
          simp only [Act.put, List.setIfInBounds_toArray, List.set_cons_zero, List.set_cons_succ]
          refine takeH_at 3 31 (v := ?_) rfl rfl (by kernel_rfl) (by kernel_rfl) (by kernel_rfl) (fun _ _ _ h => h) (Or.inl ⟨by rfl, ?_⟩) (by assumption) ?_
          rotate_left
          · (intro wx hSw; (try dsimp only at hSw); go_simp) <;> with_reducible rfl
          simp only [Act.put, List.setIfInBounds_toArray, List.set_cons_zero, List.set_cons_succ]
          refine takeH_at 4 32 (v := ?_) rfl rfl (by kernel_rfl) (by kernel_rfl) (by kernel_rfl) (fun _ _ _ h => h) (Or.inl ⟨by rfl, ?_⟩) (by assumption) ?_
          rotate_left
          · (intro wx hSw; (try dsimp only at hSw); go_simp) <;> with_reducible rfl
          simp only [Act.put, List.setIfInBounds_toArray, List.set_cons_zero, List.set_cons_succ]
          refine takeH_at 5 33 (v := ?_) rfl rfl (by kernel_rfl) (by kernel_rfl) (by kernel_rfl) (fun _ _ _ h => h) (Or.inl ⟨by rfl, ?_⟩) (by assumption) ?_
          rotate_left
          · (intro wx hSw; (try dsimp only at hSw); go_simp) <;> with_reducible rfl
          simp only [Act.put, List.setIfInBounds_toArray, List.set_cons_zero, List.set_cons_succ]
          refine takeH_at 6 34 (v := ?_) rfl rfl (by kernel_rfl) (by kernel_rfl) (by kernel_rfl) (fun _ _ _ h => h) (Or.inl ⟨by rfl, ?_⟩) (by assumption) ?_
          rotate_left
          · (intro wx hSw; (try dsimp only at hSw); go_simp) <;> with_reducible rfl
          simp only [Act.put, List.setIfInBounds_toArray, List.set_cons_zero, List.set_cons_succ]
          refine takeH_at 7 35 (v := ?_) rfl rfl (by kernel_rfl) (by kernel_rfl) (by kernel_rfl) (fun _ _ _ h => h) (Or.inl ⟨by rfl, ?_⟩) (by assumption) ?_
          rotate_left
          · (intro wx hSw; (try dsimp only at hSw); go_simp) <;> with_reducible rfl
          simp only [Act.put, List.setIfInBounds_toArray, List.set_cons_zero, List.set_cons_succ]
          refine takeH_at 8 36 (v := ?_) rfl rfl (by kernel_rfl) (by kernel_rfl) (by kernel_rfl) (fun _ _ _ h => h) (Or.inl ⟨by rfl, ?_⟩) (by assumption) ?_
          rotate_left
          · (intro wx hSw; (try dsimp only at hSw); go_simp) <;> with_reducible rfl
          simp only [Act.put, List.setIfInBounds_toArray, List.set_cons_zero, List.set_cons_succ]
          refine takeH_at 9 37 (v := ?_) rfl rfl (by kernel_rfl) (by kernel_rfl) (by kernel_rfl) (fun _ _ _ h => h) (Or.inl ⟨by rfl, ?_⟩) (by assumption) ?_
          rotate_left
          · (intro wx hSw; (try dsimp only at hSw); go_simp) <;> with_reducible rfl
          simp only [Act.put, List.setIfInBounds_toArray, List.set_cons_zero, List.set_cons_succ]
          refine takeH_at 10 38 (v := ?_) rfl rfl (by kernel_rfl) (by kernel_rfl) (by kernel_rfl) (fun _ _ _ h => h) (Or.inl ⟨by rfl, ?_⟩) (by assumption) ?_
          rotate_left
          · (intro wx hSw; (try dsimp only at hSw); go_simp) <;> with_reducible rfl
          simp only [Act.put, List.setIfInBounds_toArray, List.set_cons_zero, List.set_cons_succ]
          refine takeH_at 11 39 (v := ?_) rfl rfl (by kernel_rfl) (by kernel_rfl) (by kernel_rfl) (fun _ _ _ h => h) (Or.inl ⟨by rfl, ?_⟩) (by assumption) ?_
          rotate_left
          · (intro wx hSw; (try dsimp only at hSw); go_simp) <;> with_reducible rfl
          simp only [Act.put, List.setIfInBounds_toArray, List.set_cons_zero, List.set_cons_succ]
          refine takeH_at 12 40 (v := ?_) rfl rfl (by kernel_rfl) (by kernel_rfl) (by kernel_rfl) (fun _ _ _ h => h) (Or.inl ⟨by rfl, ?_⟩) (by assumption) ?_
          rotate_left
          · (intro wx hSw; (try dsimp only at hSw); go_simp) <;> with_reducible rfl
          simp only [Act.put, List.setIfInBounds_toArray, List.set_cons_zero, List.set_cons_succ]
          refine takeH_at 13 41 (v := ?_) rfl rfl (by kernel_rfl) (by kernel_rfl) (by kernel_rfl) (fun _ _ _ h => h) (Or.inl ⟨by rfl, ?_⟩) (by assumption) ?_
          rotate_left
          · (intro wx hSw; (try dsimp only at hSw); go_simp) <;> with_reducible rfl
          simp only [Act.put, List.setIfInBounds_toArray, List.set_cons_zero, List.set_cons_succ]
          refine takeH_at 14 42 (v := ?_) rfl rfl (by kernel_rfl) (by kernel_rfl) (by kernel_rfl) (fun _ _ _ h => h) (Or.inl ⟨by rfl, ?_⟩) (by assumption) ?_
          rotate_left
          · (intro wx hSw; (try dsimp only at hSw); go_simp) <;> with_reducible rfl
          simp only [Act.put, List.setIfInBounds_toArray, List.set_cons_zero, List.set_cons_succ]
          refine takeH_at 15 43 (v := ?_) rfl rfl (by kernel_rfl) (by kernel_rfl) (by kernel_rfl) (fun _ _ _ h => h) (Or.inl ⟨by rfl, ?_⟩) (by assumption) ?_
          rotate_left
          · (intro wx hSw; (try dsimp only at hSw); go_simp) <;> with_reducible rfl
          simp only [Act.put, List.setIfInBounds_toArray, List.set_cons_zero, List.set_cons_succ]
          refine takeH_at 16 44 (v := ?_) rfl rfl (by kernel_rfl) (by kernel_rfl) (by kernel_rfl) (fun _ _ _ h => h) (Or.inl ⟨by rfl, ?_⟩) (by assumption) ?_
          rotate_left
          · (intro wx hSw; (try dsimp only at hSw); go_simp) <;> with_reducible rfl
          simp only [Act.put, List.setIfInBounds_toArray, List.set_cons_zero, List.set_cons_succ]
          refine takeH_at 17 45 (v := ?_) rfl rfl (by kernel_rfl) (by kernel_rfl) (by kernel_rfl) (fun _ _ _ h => h) (Or.inl ⟨by rfl, ?_⟩) (by assumption) ?_
          rotate_left
          · (intro wx hSw; (try dsimp only at hSw); go_simp) <;> with_reducible rfl
          simp only [Act.put, List.setIfInBounds_toArray, List.set_cons_zero, List.set_cons_succ]
          refine takeH_at 18 46 (v := ?_) rfl rfl (by kernel_rfl) (by kernel_rfl) (by kernel_rfl) (fun _ _ _ h => h) (Or.inl ⟨by rfl, ?_⟩) (by assumption) ?_
          rotate_left
          · (intro wx hSw; (try dsimp only at hSw); go_simp) <;> with_reducible rfl
          simp only [Act.put, List.setIfInBounds_toArray, List.set_cons_zero, List.set_cons_succ]
          refine takeH_at 19 47 (v := ?_) rfl rfl (by kernel_rfl) (by kernel_rfl) (by kernel_rfl) (fun _ _ _ h => h) (Or.inl ⟨by rfl, ?_⟩) (by assumption) ?_
          rotate_left
          · (intro wx hSw; (try dsimp only at hSw); go_simp) <;> with_reducible rfl
          simp only [Act.put, List.setIfInBounds_toArray, List.set_cons_zero, List.set_cons_succ]
          refine takeH_at 20 48 (v := ?_) rfl rfl (by kernel_rfl) (by kernel_rfl) (by kernel_rfl) (fun _ _ _ h => h) (Or.inl ⟨by rfl, ?_⟩) (by assumption) ?_
          rotate_left
          · (intro wx hSw; (try dsimp only at hSw); go_simp) <;> with_reducible rfl
          simp only [Act.put, List.setIfInBounds_toArray, List.set_cons_zero, List.set_cons_succ]
          refine takeH_at 21 49 (v := ?_) rfl rfl (by kernel_rfl) (by kernel_rfl) (by kernel_rfl) (fun _ _ _ h => h) (Or.inl ⟨by rfl, ?_⟩) (by assumption) ?_
          rotate_left
          · (intro wx hSw; (try dsimp only at hSw); go_simp) <;> with_reducible rfl
          simp only [Act.put, List.setIfInBounds_toArray, List.set_cons_zero, List.set_cons_succ]
          refine takeH_at 22 50 (v := ?_) rfl rfl (by kernel_rfl) (by kernel_rfl) (by kernel_rfl) (fun _ _ _ h => h) (Or.inl ⟨by rfl, ?_⟩) (by assumption) ?_
          rotate_left
          · (intro wx hSw; (try dsimp only at hSw); go_simp) <;> with_reducible rfl
          simp only [Act.put, List.setIfInBounds_toArray, List.set_cons_zero, List.set_cons_succ]
          refine takeH_at 23 51 (v := ?_) rfl rfl (by kernel_rfl) (by kernel_rfl) (by kernel_rfl) (fun _ _ _ h => h) (Or.inl ⟨by rfl, ?_⟩) (by assumption) ?_
          rotate_left
          · (intro wx hSw; (try dsimp only at hSw); go_simp) <;> with_reducible rfl
          simp only [Act.put, List.setIfInBounds_toArray, List.set_cons_zero, List.set_cons_succ]
          refine wpAnyH_ready (rs := [24]) (by kernel_rfl) (by simp) ?_
          refine AllReadyH.cons rfl (fun K hK => ?_) ?_
          · go_simp
            refine (turned1_any (x := bits .xor .u32 (bits .xor .u32 (bits .xor .u32 x3 x8) x14) x16) (w := wr.drew)).mono ?_
            rintro e w1 ⟨rfl, rfl⟩
            refine hK.out _ _ ⟨g3, g8, g14, g16⟩ (fun hHeld1 => ?_)
            clear hK K
            rw [← HE.out]
            refine wpAnyH_ready (rs := [25]) (by kernel_rfl) (by simp) ?_
            refine AllReadyH.cons rfl (fun K hK => ?_) ?_
            · go_simp
              refine hK.out _ _ ?_ (fun hHeld2 => ?_)
              · exact ⟨(World.cell?_alloc_lt wr _ _ hg).trans g3, (World.cell?_alloc_lt wr _ _ hg).trans g8, (World.cell?_alloc_lt wr _ _ hg).trans g14, (World.cell?_alloc_lt wr _ _ hg).trans g16⟩
              clear hK K
              refine wpAnyH_ready (rs := [26]) (by kernel_rfl) (by simp) ?_
              refine AllReadyH.cons rfl (fun K hK => ?_) ?_
              · refine step_append_keep _ rfl 54 rfl (.tmp 28) (.tmp 53) _ _ rfl w.heap.size 90 i0 _ 4 Try.underlying99 hi hz0 hz1 hz2 rfl (.slice (some ⟨g, 0, none⟩) j c1) j (ucells (schI xs j)) rfl (HH.out.alloc _) (.slice (some ⟨wr.heap.size, 0, none⟩) 1 1) 1 (ucells [X]) rfl (src_u32 Try.underlying99 wr.drew 90 X) (by simp only [maxLen]; omega) (by omega) (by have := HB.out.size; simp; omega) ?_
                intro v2 w2 ho2 hg2 hat2
                have hdr : ∀ row, (wr.alloc (.cells #[.int .u32 X] 90)).grownBy (wr.alloc (.cells #[.int .u32 X] 90)).drew row := fun row => ⟨rfl, rfl, rfl, Nat.le_refl _, fun _ _ _ => rfl⟩
                have hk2 := HK.out v2 w2 ho2 (hat2.imp id fun h => ⟨h.1, grownBy_trans (hdr none) h.2⟩)
                refine hK.out _ _ ⟨(hk2 _ (by omega)).trans g3, (hk2 _ (by omega)).trans g8, (hk2 _ (by omega)).trans g14, (hk2 _ (by omega)).trans g16⟩ (fun hHeld3 => ?_)
                have HREL := Lib.hid (HR.out v2 w2 ho2 (grownBy_trans (hdr _) hg2))
                clear hK K ho2 hg2 hat2 hHeld1 hHeld2 hHeld hk2 hdr
                simp only [Act.put, List.setIfInBounds_toArray, List.set_cons_zero, List.set_cons_succ]
                refine takeH_at 27 3 (v := ?_) rfl rfl (by kernel_rfl) (by kernel_rfl) (by kernel_rfl) (fun _ _ _ h => h) (Or.inl ⟨by rfl, ?_⟩) (by assumption) ?_
                rotate_left
                · (intro wx hSw; (try dsimp only at hSw); go_simp) <;> with_reducible rfl
                simp only [Act.put, List.setIfInBounds_toArray, List.set_cons_zero, List.set_cons_succ]
                refine wpAnyH_done (by kernel_rfl) ?_ _
                refine NoPanic.normal ?_
                clear k3 k8 k14 k16 t3 t8 t14 t16
                go_wp2
                go_roundw
                case rel => exact ⟨HREL.out, by simp [intOf]; omega⟩
                case measure => simp [intOf]; omega
              exact AllReadyH.nil
            exact AllReadyH.nil
          exact AllReadyH.nil
        · obtain rfl : j = 80 := by omega
          go_wp2
          go_ret
          exact ⟨_, _, rfl, hown, hb⟩
end Go.Proofs.Ytjiiignbejbiiaa
