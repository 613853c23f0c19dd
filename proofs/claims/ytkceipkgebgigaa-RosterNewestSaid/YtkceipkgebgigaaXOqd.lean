/- Walk of RosterNewest. Condition: a length that an int holds. -/
import Derived.Test.YtkceipkgebgigaaXOqb
namespace Go.Proofs.Ytkceipkgebgigaa
open Go.Shelf Go.RowKit Go.Lib Go.Great
set_option maxRecDepth 100000
set_option maxHeartbeats 1000000
theorem rnewest_dark (w : World) (sa : Value) (h0 : Hid (Tells w 38 #[sa] false)) : Calls Try.prog 8 #[sa] w fun e w' => e = .returned (.bool true) ∧ Below w.heap.size w w' := by
  have HLI := Lib.hid rlives_any
  have hb0 := Below.refl w.heap.size w
  unfold Tells at h0
  go_enter Try.func8, Try.ntmps8
  go_wp2_with (first
    | (go_at_call 38; (with_reducible refine (h0.out _ hb0).mono ?_); rintro e w1 ⟨rfl, hb1⟩)
    | (go_at_call 34; (with_reducible refine (HLI.out _).mono ?_); rintro e w9 ⟨rfl, hb9⟩))
  go_ret
  exact ⟨rfl, hb1.trans (hb9.mono hb1.size)⟩
/-- Within the innermost loop: the newest one so far lies in block b. -/
structure InnR (wy : World) (b : Nat) (N : Ins) (W : World) : Prop where
  be : Below b wy W
  at9 : W.heap[b]? = some (.cells (encI N).toArray 28 (0, 0))
theorem InnR.bel {wy W W' : World} {b : Nat} {N : Ins} (h : InnR wy b N W) (hb : Below W.heap.size W W') : InnR wy b N W' := by
  have hlt := (Array.getElem?_eq_some_iff.1 h.at9).1
  exact ⟨h.be.trans (hb.mono (by omega)), (hb.block _ hlt).trans h.at9⟩
theorem InnR.store {wy W : World} {b : Nat} {N : Ins} (h : InnR wy b N W) (Y : Ins) : W.there b 0 28 ∧ InnR wy b Y (W.setCells b 0 (encI Y)) := by
  have ht := row_there h.at9
  rw [encI_length] at ht
  have h4 := heap_setCells_row b 28 (encI Y) 0 (encI N) W h.at9 (by rw [encI_length, encI_length]; omega)
  rw [List.take_zero, List.nil_append, List.drop_of_length_le (by rw [encI_length, encI_length]; omega), List.append_nil] at h4
  exact ⟨ht, below_cellsE (Nat.le_refl _) _ _ _ h.be, h4⟩
theorem rnewest_main (A : Option Addr) (c : Nat) (L : List Ins) (w : World) (hL : L.length ≤ 9223372036854775807) (hA : IAt w w.heap.size A L) (hd : lightR L = true) :
    Calls Try.prog 8 #[.slice A L.length c] w fun e w' => e = .returned (.bool true) ∧ Below w.heap.size w w' := by
  have H38 := Lib.hid (light_any A c L w hL hA)
  rw [hd] at H38
  obtain ⟨hlt, hl40⟩ := light_iff hd
  have HLI : Hid (∀ W, Calls Try.prog 34 #[] W fun e w' => e = .returned (.bool true) ∧ Below W.heap.size W w') := Lib.hid rlives_any
  have HLD : Hid (∀ k, k < L.length → ∃ b off, A = some ⟨b, off, none⟩ ∧ ∀ W', Below w.heap.size w W' → (loadVar 28 ⟨b, off + k * 28, none⟩).run Try.prog W' = .ok (.agg (encI L[k]!).toArray) W') := Lib.hid (fun k hk => by
    rcases hA with rfl | ⟨g, off, rfl, hg, hr⟩
    · simp at hk
    · exact ⟨g, off, rfl, fun W' hW' => row_load hr hg hW' hk⟩)
  have H14 : Hid (∀ k, k < L.length → ∀ W, Calls Try.prog 14 #[.agg (encI L[k]!).toArray] W fun e w' => e = .returned (.bool (goodI L[k]!)) ∧ Below W.heap.size W w') := Lib.hid (fun k hk W => igood_any _ (by have := hlt L[k]! (by rw [getElem!_pos L k hk]; exact List.getElem_mem _); omega) W)
  obtain ⟨n, hn⟩ : ∃ n, n = L.length := ⟨_, rfl⟩
  have HN := Lib.hid hn
  have HN40 : Hid (L.length ≤ 40) := Lib.hid hl40
  have R0 := Lib.hid (NwR.start w L)
  rw [← hn] at H38 HLD H14 hl40 ⊢
  clear hd hlt hA hL hn
  go_enter Try.func8, Try.ntmps8
  go_upto_region 5 with (first
    | (go_at_call 38; (with_reducible refine H38.out.mono ?_); rintro e w1 ⟨rfl, hb1⟩))
  have R1 := Lib.hid (R0.out.bel hb1)
  clear H38 R0 hb1
  go_loopw [3, 4, 20] (fun u3 u4 i wr => ∃ (k : Nat) (s3 s4 : Value), u3 = s3 ∧ u4 = s4 ∧ i = .int .i64 (k : Int) ∧ k ≤ n ∧ NwR w L k wr s3 s4) (fun _ _ i _ => n - (RowKit.intOf i).toNat)
  case atStart => exact ⟨0, _, _, rfl, rfl, rfl, by omega, R1.out⟩
  case round =>
    obtain ⟨k, s3, s4, e3, e4, rfl, hk, hR⟩ := hrel
    obtain rfl := e3.symm
    obtain rfl := e4.symm
    clear R1
    by_cases hlt : k < n
    · have hlt' : (k : Int) < (n : Int) := by omega
      obtain ⟨b, off, rfl, hld⟩ := HLD.out k hlt
      have hld := Lib.hid (hld wr hR.be)
      have hnew := heap_alloc_new wr (.cells (encI L[k]!).toArray 28)
      have hba : Below wr.heap.size wr (wr.alloc (.cells (encI L[k]!).toArray 28)) := (Below.refl _ wr).alloc (Nat.le_refl _) _
      have HLX : Hid (∀ W', Below (wr.alloc (.cells (encI L[k]!).toArray 28)).heap.size (wr.alloc (.cells (encI L[k]!).toArray 28)) W' → (loadVar 28 ⟨wr.heap.size, 0, none⟩).run Try.prog W' = .ok (.agg (encI L[k]!).toArray) W') := Lib.hid (fun W' h => load28 (row_range (by rw [h.block _ (Array.getElem?_eq_some_iff.1 hnew).1]; exact hnew)))
      have H14k := Lib.hid (H14.out k hlt)
      have hR1 := hR.bel hba
      obtain ⟨x, hx⟩ : ∃ x, x = L[k]! := ⟨_, rfl⟩
      have HX := Lib.hid hx
      rw [← hx] at hld HLX H14k
      obtain ⟨W1, hW1⟩ : ∃ W1, W1 = wr.alloc (.cells (encI x).toArray 28) := ⟨_, rfl⟩
      have HW1 := Lib.hid hW1
      rw [← hx, ← hW1] at hR1
      rw [← hW1] at HLX
      have HR1 := Lib.hid hR1
      have HB0 := Lib.hid hR.be
      clear hnew hba hR hR1 hW1 hx
      cases hg : goodI x
      · rw [hg] at H14k
        clear HLD H14
        go_wp2_with (first
          | ((with_reducible refine wpList_loadV (op := ⟨some 23, _, _, _, _, _⟩) rfl 28 (.tmp 22) rfl _ ?_ _ hld.out ?_); rfl)
          | (with_reducible refine wpList_alloc28 (o := ⟨some 6, _, _, _, _, _⟩) wr.heap.size rfl rfl 6 rfl rfl ?_)
          | ((with_reducible refine wpList_store28n (o := ⟨none, _, _, _, _, _⟩) rfl (.tmp 6) (.tmp 23) rfl wr.heap.size rfl zeroI x ?_ ?_ ?_); rfl; rfl; rw [← HW1.out])
          | ((with_reducible refine wpList_loadV (op := ⟨some 24, _, _, _, _, _⟩) rfl 28 (.tmp 6) rfl _ ?_ _ (HLX.out _ (Below.refl _ _)) ?_); rfl)
          | (go_at_call 14; (with_reducible refine (H14k.out _).mono ?_); rintro e w2 ⟨rfl, hb2⟩; have hR2 := HR1.out.bel hb2)
          | (go_at_call 34; (with_reducible refine (HLI.out _).mono ?_); rintro e w3 ⟨rfl, hb3⟩; have hR3 := hR2.bel hb3))
        go_ret
        exact ⟨rfl, hR3.be⟩
      · rw [hg] at H14k
        have HLK : Hid (k < L.length ∧ goodI L[k]! = true) := Lib.hid ⟨by rw [← HN.out]; exact hlt, by rw [← HX.out]; exact hg⟩
        have HLE : Hid ((L.take k).length + [x].length ≤ 1000000) := Lib.hid (by have := HN40.out; rw [List.length_take]; simp; omega)
        obtain ⟨N, hN⟩ : ∃ N, N = pubN (L.take (k + 1)) (L.take (k + 1)).length := ⟨_, rfl⟩
        have HNN := Lib.hid hN
        have HPUT : Hid (∀ W, NwR w L k W s3 s4 → Calls Try.prog 39 #[s3, .agg (encI x).toArray] W fun e w' => ∃ v r, e = .returned (.tuple #[v, .bool r]) ∧ NwP w L k W.heap.size w' v s4 ∧ Below W.heap.size W w') := Lib.hid (fun W h => by rw [HX.out]; exact h.put HLK.out.1 HLK.out.2)
        have HPSH : Hid (∀ {B : Nat} {W W' : World} {u v : Value}, NwP w L k B W u s4 → W.grownBy W' s4.ownBlock → W'.ownsRow w.heap.size 28 28 v (L.take k ++ [x]).length (flatE encI (L.take k ++ [x])) → NwR w L (k + 1) W' u v) := Lib.hid (fun h hg ho => h.push HLK.out.1 hg (by rw [← HX.out]; exact ho))
        have HGD : Hid (∀ W u v, NwR w L (k + 1) W u v → Calls Try.prog 40 #[u] W fun e w' => e = .returned (.bool true) ∧ NwR w L (k + 1) w' u v) := Lib.hid (fun W u v h => (h.gd HLK.out.1).mono (by rintro e w' ⟨rfl, hb⟩; exact ⟨rfl, h.bel hb⟩))
        have HPB : Hid (∀ W u v, NwR w L (k + 1) W u v → Calls Try.prog 41 #[v] W fun e w' => e = .returned (.int .i64 (N : Int)) ∧ NwR w L (k + 1) w' u v) := Lib.hid (fun W u v h => (h.pubs HN40.out).mono (by rintro e w' ⟨rfl, hb⟩; exact ⟨by rw [HNN.out], h.bel hb⟩))
        have HBA : Hid (∀ (B : Nat) (W : World) (u : Value), NwP w L k B W u s4 → NwP w L k B (W.alloc (.cells (encI x).toArray 28)) u s4 ∧ w.heap.size ≤ (W.alloc (.cells (encI x).toArray 28)).heap.size) := Lib.hid (fun B W u h => by
          have h2 := h.bel ((Below.refl _ W).alloc (Nat.le_refl _) (.cells (encI x).toArray 28))
          exact ⟨h2, h2.be.size⟩)
        have HSRC : Hid (∀ W : World, Src Try.prog 28 56 (.slice (some ⟨W.heap.size, 0, none⟩) 1 1) [x].length (flatE encI [x]) (W.alloc (.cells (encI x).toArray 28))) := Lib.hid (fun W => src_newI insT x W)
        clear HLD H14 hg hN
        by_cases h16 : N ≤ 16
        · have h16' : ¬ (N : Int) > 16 := by omega
          have hn16 : pubN (L.take (k + 1)) (L.take (k + 1)).length ≤ 16 := by rw [← HNN.out]; exact h16
          have H16 := Lib.hid hn16
          clear h16 hn16
          go_upto_region 14 with (first
            | ((with_reducible refine wpList_loadV (op := ⟨some 23, _, _, _, _, _⟩) rfl 28 (.tmp 22) rfl _ ?_ _ hld.out ?_); rfl)
            | (with_reducible refine wpList_alloc28 (o := ⟨some 6, _, _, _, _, _⟩) wr.heap.size rfl rfl 6 rfl rfl ?_)
            | ((with_reducible refine wpList_store28n (o := ⟨none, _, _, _, _, _⟩) rfl (.tmp 6) (.tmp 23) rfl wr.heap.size rfl zeroI x ?_ ?_ ?_); rfl; rfl; rw [← HW1.out])
            | ((with_reducible refine wpList_loadV (op := ⟨some 24, _, _, _, _, _⟩) rfl 28 (.tmp 6) rfl _ ?_ _ (HLX.out _ (Below.refl _ _)) ?_); rfl)
            | (go_at_call 14; (with_reducible refine (H14k.out _).mono ?_); rintro e w14 ⟨rfl, hb14⟩; have hR14 := HR1.out.bel hb14; have hput := Lib.hid (HPUT.out _ hR14))
            | ((with_reducible refine wpList_loadV (op := ⟨some 30, _, _, _, _, _⟩) rfl 28 (.tmp 6) rfl _ ?_ _ (HLX.out _ hb14) ?_); rfl)
            | (go_at_call 39; (with_reducible refine hput.out.mono ?_); rintro e w39 ⟨v39, r39, rfl, hP39, hb39⟩; have hb39b := hb14.trans (hb39.mono hb14.size); have hba39 := HBA.out _ _ _ hP39)
            | ((with_reducible refine wpList_loadV (op := ⟨some 35, _, _, _, _, _⟩) rfl 28 (.tmp 6) rfl _ ?_ _ (HLX.out _ hb39b) ?_); rfl)
            | ((with_reducible refine wpList_build_oneI insT x (o := ⟨some 36, _, _, _, _, _⟩) rfl (.tmp 35) rfl ?_ ?_); rfl)
            | (refine wpList_append_ins insT rfl (.tmp 34) (.tmp 36) rfl w.heap.size _ (L.take k) [x] rfl hba39.1.came _ rfl (HSRC.out _) HLE.out hba39.2 ?_; intro v37 w37 ho37 hg37; have hR37 := HPSH.out hba39.1 hg37 ho37; have hgd := Lib.hid (HGD.out _ _ _ hR37))
            | (go_at_call 40; (with_reducible refine hgd.out.mono ?_); rintro e w40 ⟨rfl, hR40⟩; have hpb := Lib.hid (HPB.out _ _ _ hR40))
            | (go_at_call 41; (with_reducible refine hpb.out.mono ?_); rintro e w42 ⟨rfl, hR42⟩))
          obtain ⟨g4, c4, rfl, hg4, hr4⟩ := hR42.form (by omega) HLK.out.1
          have HR := Lib.hid hR42
          obtain ⟨T, hT⟩ : ∃ T, T = L.take (k + 1) := ⟨_, rfl⟩
          have hTl : T.length = k + 1 := by rw [hT, List.length_take]; have := HLK.out.1; omega
          rw [← hT] at hr4
          have HTL : Hid (∀ j, j < k + 1 → ∀ W, Below w42.heap.size w42 W → (loadVar 28 ⟨g4, j * 28, none⟩).run Try.prog W = .ok (.agg (encI T[j]!).toArray) W) := Lib.hid (fun j hj W hW => by have := row_load hr4 hg4 hW (k := j) (by omega); rwa [Nat.zero_add] at this)
          have HGET : Hid (∀ j, j < k + 1 → ∀ W, Below w42.heap.size w42 W → Calls Try.prog 42 #[v39, .agg (bcells T[j]!.pub).toArray] W fun e w' => e = .returned (.tuple #[.agg (encI (newN T T[j]! (k + 1))).toArray, .bool true]) ∧ Below W.heap.size W w') := Lib.hid (fun j hj W hW => by
            have := (HR.out.bel hW).get HLK.out.1 H16.out (x := T[j]!) (by rw [← hT, getElem!_pos T j (by omega)]; exact List.getElem_mem _)
            rw [← hT] at this
            exact this)
          have HNE : Hid (∀ X m, newN T X (m + 1) = if T[m]!.pub == X.pub && decide (cmpI T[m]! (newN T X m) > 0) then T[m]! else newN T X m) := Lib.hid (fun X m => rfl)
          have HN0 : Hid (∀ X, newN T X 0 = X) := Lib.hid (fun X => rfl)
          clear hR42 hg4 hr4 hT hTl HPUT HPSH HGD HPB HBA HSRC HLE HNN H16 HLX HR1 HW1 HB0 H14k hld hR40 hpb hgd hR37 ho37 hg37 hba39 hb39b hb39 hP39 hput hR14 hb14
          generalize hNW : newN T = NW at *
          clear hNW
          go_wp2
          go_loopw [46] (fun i wr => ∃ j : Nat, i = .int .i64 (j : Int) ∧ j ≤ k + 1 ∧ Below w42.heap.size w42 wr) (fun i _ => k + 1 - (RowKit.intOf i).toNat)
          case atStart => exact ⟨0, rfl, by omega, Below.refl _ _⟩
          case round =>
            obtain ⟨j, rfl, hj, hbj⟩ := hrel
            by_cases hjl : j < k + 1
            · have hjl' : (j : Int) < ((k + 1 : Nat) : Int) := by omega
              have hld := Lib.hid (HTL.out j hjl _ hbj)
              have HGJ := Lib.hid (HGET.out j hjl)
              have hz := hbj.size
              obtain ⟨h8, h9, hb8⟩ := heap2 wr (.cells (encI T[j]!).toArray 28) (.cells (encI T[j]!).toArray 28)
              obtain ⟨X, hX⟩ : ∃ X, X = T[j]! := ⟨_, rfl⟩
              rw [← hX] at hld HGJ h8 h9 hb8
              clear hX HGET
              have HA8 := Lib.hid (heap_alloc_new wr (.cells (encI X).toArray 28))
              have HL8 : Hid ((loadVar 28 ⟨wr.heap.size, 0, none⟩).run Try.prog (wr.alloc (.cells (encI X).toArray 28)) = .ok (.agg (encI X).toArray) (wr.alloc (.cells (encI X).toArray 28))) := Lib.hid (load28 (row_range HA8.out))
              go_upto_region 18 with (first
                | ((with_reducible refine wpList_loadV (op := ⟨some 49, _, _, _, _, _⟩) rfl 28 (.tmp 48) rfl _ ?_ _ hld.out ?_); rfl)
                | (with_reducible refine wpList_alloc28 (o := ⟨some 8, _, _, _, _, _⟩) wr.heap.size rfl rfl 8 rfl rfl ?_)
                | ((with_reducible refine wpList_store28n (o := ⟨none, _, _, _, _, _⟩) rfl (.tmp 8) (.tmp 49) rfl wr.heap.size rfl zeroI X ?_ ?_ ?_); rfl; rfl)
                | ((with_reducible refine wpList_loadV (op := ⟨some 50, _, _, _, _, _⟩) rfl 28 (.tmp 8) rfl _ ?_ _ HL8.out ?_); rfl)
                | (with_reducible refine wpList_alloc28 (o := ⟨some 9, _, _, _, _, _⟩) (wr.heap.size + 1) (by simp) rfl 9 rfl rfl ?_)
                | ((with_reducible refine wpList_store28n (o := ⟨none, _, _, _, _, _⟩) rfl (.tmp 9) (.tmp 50) rfl (wr.heap.size + 1) (by simp) zeroI X ?_ ?_ ?_); rfl; rfl))
              obtain ⟨wy, hwy⟩ : ∃ y, y = (wr.alloc (.cells (encI X).toArray 28)).alloc (.cells (encI X).toArray 28) := ⟨_, rfl⟩
              rw [← hwy] at h8 h9 hb8 ⊢
              have l9 := (Array.getElem?_eq_some_iff.1 h9).1
              have HI0 : Hid (InnR wy (wr.heap.size + 1) (NW X 0) wy) := Lib.hid ⟨Below.refl _ _, by rw [HN0.out]; exact h9⟩
              have HBZ : Hid (∀ W N, InnR wy (wr.heap.size + 1) N W → Below w42.heap.size w42 W) := Lib.hid (fun W N h => (hbj.trans (hb8.mono hz)).trans (h.be.mono (by omega)))
              have HL8b : Hid (∀ W N, InnR wy (wr.heap.size + 1) N W → ∀ W', Below W.heap.size W W' → (loadVar 23 ⟨wr.heap.size, 0, none⟩).run Try.prog W' = .ok (.agg (bcells X.pub).toArray) W') := Lib.hid (fun W N h W' hW => by
                have hlt := (Array.getElem?_eq_some_iff.1 h.at9).1
                exact load23 (row_range (by rw [hW.block _ (by omega), h.be.block _ (by omega)]; exact h8)))
              clear hwy h8 h9 hb8 l9 hld HL8 HA8 hbj
              obtain ⟨b8, hb8⟩ : ∃ b, b = wr.heap.size := ⟨_, rfl⟩
              rw [← hb8] at HI0 HBZ HL8b ⊢
              clear hb8 hz
              go_wp2
              go_loopw [53] (fun i wr => ∃ m : Nat, i = .int .i64 (m : Int) ∧ m ≤ k + 1 ∧ InnR wy (b8 + 1) (NW X m) wr) (fun i _ => k + 1 - (RowKit.intOf i).toNat)
              case atStart => exact ⟨0, rfl, by omega, HI0.out⟩
              case round =>
                obtain ⟨m, rfl, hm, hI⟩ := hrel
                clear HI0
                by_cases hml : m < k + 1
                · have hml' : (m : Int) < ((k + 1 : Nat) : Int) := by omega
                  have hld := Lib.hid (HTL.out m hml _ (HBZ.out _ _ hI))
                  have hba : Below wr.heap.size wr (wr.alloc (.cells (encI T[m]!).toArray 28)) := (Below.refl _ wr).alloc (Nat.le_refl _) _
                  have hnew := heap_alloc_new wr (.cells (encI T[m]!).toArray 28)
                  have hne := HNE.out X m
                  have HLY23 := Lib.hid (load23 (row_range hnew))
                  have HLY : Hid (∀ W', Below (wr.alloc (.cells (encI T[m]!).toArray 28)).heap.size (wr.alloc (.cells (encI T[m]!).toArray 28)) W' → (loadVar 28 ⟨wr.heap.size, 0, none⟩).run Try.prog W' = .ok (.agg (encI T[m]!).toArray) W') := Lib.hid (fun W' h => load28 (row_range (by rw [h.block _ (Array.getElem?_eq_some_iff.1 hnew).1]; exact hnew)))
                  have HLX23 := Lib.hid (HL8b.out _ _ hI _ hba)
                  have hIa := hI.bel hba
                  have HL9 := Lib.hid (load28 (row_range hIa.at9))
                  have HI1 := Lib.hid hIa
                  have HMP := Lib.hid (T[m]!).hp
                  have HXP := Lib.hid X.hp
                  have HCM := Lib.hid (icmp_any T[m]! (NW X m))
                  clear HTL HNE HN0 HR HBZ HL8b HGJ hI hba hnew hIa
                  generalize T[m]! = Y at *
                  generalize NW X m = N0 at *
                  have heq := fun W => eq23 Y.pub X.pub HMP.out HXP.out W 9998
                  cases he : (Y.pub == X.pub)
                  · rw [he] at heq hne
                    simp only [Bool.false_and, Bool.false_eq_true, if_false] at hne
                    have HR2 : Hid (InnR wy (b8 + 1) (NW X (m + 1)) (wr.alloc (.cells (encI Y).toArray 28))) := Lib.hid (by rw [hne]; exact HI1.out)
                    clear hne he HCM HL9 HLY HI1
                    go_wp2_with (first
                      | ((with_reducible refine wpList_loadV (op := ⟨some 56, _, _, _, _, _⟩) rfl 28 (.tmp 55) rfl _ ?_ _ hld.out ?_); rfl)
                      | (with_reducible refine wpList_alloc28 (o := ⟨some 11, _, _, _, _, _⟩) wr.heap.size rfl rfl 11 rfl rfl ?_)
                      | ((with_reducible refine wpList_store28n (o := ⟨none, _, _, _, _, _⟩) rfl (.tmp 11) (.tmp 56) rfl wr.heap.size rfl zeroI Y ?_ ?_ ?_); rfl; rfl)
                      | ((with_reducible refine wpList_loadV (op := ⟨some 58, _, _, _, _, _⟩) rfl 23 (.tmp 57) rfl _ ?_ _ HLY23.out ?_); rfl)
                      | ((with_reducible refine wpList_loadV (op := ⟨some 60, _, _, _, _, _⟩) rfl 23 (.tmp 59) rfl _ ?_ _ HLX23.out ?_); rfl))
                    go_roundw
                    case rel => exact ⟨m + 1, by go_num, by omega, HR2.out⟩
                    case measure => simp [RowKit.intOf]; omega
                  · rw [he] at heq hne
                    rw [Bool.true_and] at hne
                    by_cases hc : cmpI Y N0 > 0
                    · rw [decide_eq_true hc, if_pos rfl] at hne
                      have HI3 : Hid (∀ W, Below (wr.alloc (.cells (encI Y).toArray 28)).heap.size (wr.alloc (.cells (encI Y).toArray 28)) W → W.there (b8 + 1) 0 28 ∧ InnR wy (b8 + 1) (NW X (m + 1)) (W.setCells (b8 + 1) 0 (encI Y))) := Lib.hid (fun W hW => by rw [hne]; exact (HI1.out.bel hW).store Y)
                      clear hne he HI1
                      generalize cmpI Y N0 = cv at *
                      go_wp2_with (first
                        | ((with_reducible refine wpList_loadV (op := ⟨some 56, _, _, _, _, _⟩) rfl 28 (.tmp 55) rfl _ ?_ _ hld.out ?_); rfl)
                        | (with_reducible refine wpList_alloc28 (o := ⟨some 11, _, _, _, _, _⟩) wr.heap.size rfl rfl 11 rfl rfl ?_)
                        | ((with_reducible refine wpList_store28n (o := ⟨none, _, _, _, _, _⟩) rfl (.tmp 11) (.tmp 56) rfl wr.heap.size rfl zeroI Y ?_ ?_ ?_); rfl; rfl)
                        | ((with_reducible refine wpList_loadV (op := ⟨some 58, _, _, _, _, _⟩) rfl 23 (.tmp 57) rfl _ ?_ _ HLY23.out ?_); rfl)
                        | ((with_reducible refine wpList_loadV (op := ⟨some 60, _, _, _, _, _⟩) rfl 23 (.tmp 59) rfl _ ?_ _ HLX23.out ?_); rfl)
                        | ((with_reducible refine wpList_loadG (o := ⟨some 63, _, _, _, _, _⟩) rfl 28 (.tmp 11) rfl _ ?_ _ (HLY.out _ (Below.refl _ _)) ?_); rfl)
                        | ((with_reducible refine wpList_loadG (o := ⟨some 64, _, _, _, _, _⟩) rfl 28 (.tmp 9) rfl _ ?_ _ HL9.out ?_); rfl)
                        | (go_at_call 24; (with_reducible refine (HCM.out _).mono ?_); rintro e w65 ⟨rfl, hb65⟩; have hi3 := HI3.out _ hb65)
                        | ((with_reducible refine wpList_loadV (op := ⟨some 68, _, _, _, _, _⟩) rfl 28 (.tmp 11) rfl _ ?_ _ (HLY.out _ hb65) ?_); rfl)
                        | ((with_reducible refine wpList_store28 (o := ⟨none, _, _, _, _, _⟩) rfl (.tmp 9) (.tmp 68) rfl (b8 + 1) Y ?_ ?_ hi3.1 ?_); rfl; rfl))
                      go_roundw
                      case rel => exact ⟨m + 1, by go_num, by omega, hi3.2⟩
                      case measure => simp [RowKit.intOf]; omega
                    · rw [decide_eq_false hc] at hne
                      simp only [Bool.false_eq_true, if_false] at hne
                      have HI3 : Hid (∀ W, Below (wr.alloc (.cells (encI Y).toArray 28)).heap.size (wr.alloc (.cells (encI Y).toArray 28)) W → InnR wy (b8 + 1) (NW X (m + 1)) W) := Lib.hid (fun W hW => by rw [hne]; exact HI1.out.bel hW)
                      clear hne he HI1
                      generalize cmpI Y N0 = cv at *
                      go_wp2_with (first
                        | ((with_reducible refine wpList_loadV (op := ⟨some 56, _, _, _, _, _⟩) rfl 28 (.tmp 55) rfl _ ?_ _ hld.out ?_); rfl)
                        | (with_reducible refine wpList_alloc28 (o := ⟨some 11, _, _, _, _, _⟩) wr.heap.size rfl rfl 11 rfl rfl ?_)
                        | ((with_reducible refine wpList_store28n (o := ⟨none, _, _, _, _, _⟩) rfl (.tmp 11) (.tmp 56) rfl wr.heap.size rfl zeroI Y ?_ ?_ ?_); rfl; rfl)
                        | ((with_reducible refine wpList_loadV (op := ⟨some 58, _, _, _, _, _⟩) rfl 23 (.tmp 57) rfl _ ?_ _ HLY23.out ?_); rfl)
                        | ((with_reducible refine wpList_loadV (op := ⟨some 60, _, _, _, _, _⟩) rfl 23 (.tmp 59) rfl _ ?_ _ HLX23.out ?_); rfl)
                        | ((with_reducible refine wpList_loadG (o := ⟨some 63, _, _, _, _, _⟩) rfl 28 (.tmp 11) rfl _ ?_ _ (HLY.out _ (Below.refl _ _)) ?_); rfl)
                        | ((with_reducible refine wpList_loadG (o := ⟨some 64, _, _, _, _, _⟩) rfl 28 (.tmp 9) rfl _ ?_ _ HL9.out ?_); rfl)
                        | (go_at_call 24; (with_reducible refine (HCM.out _).mono ?_); rintro e w65 ⟨rfl, hb65⟩; have hi3 := HI3.out _ hb65))
                      go_roundw
                      case rel => exact ⟨m + 1, by go_num, by omega, hi3⟩
                      case measure => simp [RowKit.intOf]; omega
                · obtain rfl : m = k + 1 := by omega
                  have hbz := HBZ.out _ _ hI
                  have HG := Lib.hid (HGJ.out _ hbz)
                  have HLX23 := Lib.hid (HL8b.out _ _ hI _ (Below.refl _ _))
                  have HI := Lib.hid hI
                  have HBZ2 := Lib.hid hbz
                  have heq := fun W => eqIns (NW X (k + 1)) (NW X (k + 1)) W
                  rw [eqI_self] at heq
                  clear HTL HNE HN0 HR HBZ HL8b HGJ hI hbz
                  generalize NW X (k + 1) = N0 at *
                  have HBA : Hid (∀ W, Below wr.heap.size wr W → Below w42.heap.size w42 (W.alloc (.cells (encI N0).toArray 28)) ∧ (loadVar 28 ⟨W.heap.size, 0, none⟩).run Try.prog (W.alloc (.cells (encI N0).toArray 28)) = .ok (.agg (encI N0).toArray) (W.alloc (.cells (encI N0).toArray 28)) ∧ (loadVar 28 ⟨b8 + 1, 0, none⟩).run Try.prog (W.alloc (.cells (encI N0).toArray 28)) = .ok (.agg (encI N0).toArray) (W.alloc (.cells (encI N0).toArray 28))) := Lib.hid (fun W hW => by
                    have h1 : Below W.heap.size W (W.alloc (.cells (encI N0).toArray 28)) := (Below.refl _ W).alloc (Nat.le_refl _) _
                    have h2 := hW.trans (h1.mono hW.size)
                    exact ⟨HBZ2.out.trans (h2.mono HBZ2.out.size), load28 (row_range (heap_alloc_new W _)), load28 (row_range (HI.out.bel h2).at9)⟩)
                  clear HI HBZ2
                  go_wp2_with (first
                    | ((with_reducible refine wpList_loadV (op := ⟨some 73, _, _, _, _, _⟩) rfl 23 (.tmp 72) rfl _ ?_ _ HLX23.out ?_); rfl)
                    | (go_at_call 42; (with_reducible refine HG.out.mono ?_); rintro e w74 ⟨rfl, hb74⟩; have hba := HBA.out _ hb74)
                    | (with_reducible refine wpList_alloc28 (o := ⟨some 12, _, _, _, _, _⟩) w74.heap.size rfl rfl 12 rfl rfl ?_)
                    | ((with_reducible refine wpList_store28n (o := ⟨none, _, _, _, _, _⟩) rfl (.tmp 12) (.tmp 75) rfl w74.heap.size rfl zeroI N0 ?_ ?_ ?_); rfl; rfl)
                    | ((with_reducible refine wpList_loadG (o := ⟨some 80, _, _, _, _, _⟩) rfl 28 (.tmp 12) rfl _ ?_ _ hba.2.1 ?_); rfl)
                    | ((with_reducible refine wpList_loadG (o := ⟨some 81, _, _, _, _, _⟩) rfl 28 (.tmp 9) rfl _ ?_ _ hba.2.2 ?_); rfl))
                  go_roundw
                  case rel => exact ⟨j + 1, by go_num, by omega, hba.1⟩
                  case measure => simp [RowKit.intOf]; omega
            · obtain rfl : j = k + 1 := by omega
              have hr := Lib.hid (HR.out.bel hbj)
              clear HTL HGET HNE HN0 HR hbj
              go_wp2
              go_roundw
              case rel => exact ⟨k + 1, _, _, rfl, rfl, by go_num, by omega, hr.out⟩
              case measure => simp [RowKit.intOf]; omega
        · have h16' : (N : Int) > 16 := by omega
          clear h16
          go_wp2_with (first
            | ((with_reducible refine wpList_loadV (op := ⟨some 23, _, _, _, _, _⟩) rfl 28 (.tmp 22) rfl _ ?_ _ hld.out ?_); rfl)
            | (with_reducible refine wpList_alloc28 (o := ⟨some 6, _, _, _, _, _⟩) wr.heap.size rfl rfl 6 rfl rfl ?_)
            | ((with_reducible refine wpList_store28n (o := ⟨none, _, _, _, _, _⟩) rfl (.tmp 6) (.tmp 23) rfl wr.heap.size rfl zeroI x ?_ ?_ ?_); rfl; rfl; rw [← HW1.out])
            | ((with_reducible refine wpList_loadV (op := ⟨some 24, _, _, _, _, _⟩) rfl 28 (.tmp 6) rfl _ ?_ _ (HLX.out _ (Below.refl _ _)) ?_); rfl)
            | (go_at_call 14; (with_reducible refine (H14k.out _).mono ?_); rintro e w14 ⟨rfl, hb14⟩; have hR14 := HR1.out.bel hb14; have hput := Lib.hid (HPUT.out _ hR14))
            | ((with_reducible refine wpList_loadV (op := ⟨some 30, _, _, _, _, _⟩) rfl 28 (.tmp 6) rfl _ ?_ _ (HLX.out _ hb14) ?_); rfl)
            | (go_at_call 39; (with_reducible refine hput.out.mono ?_); rintro e w39 ⟨v39, r39, rfl, hP39, hb39⟩; have hb39b := hb14.trans (hb39.mono hb14.size); have hba39 := HBA.out _ _ _ hP39)
            | ((with_reducible refine wpList_loadV (op := ⟨some 35, _, _, _, _, _⟩) rfl 28 (.tmp 6) rfl _ ?_ _ (HLX.out _ hb39b) ?_); rfl)
            | ((with_reducible refine wpList_build_oneI insT x (o := ⟨some 36, _, _, _, _, _⟩) rfl (.tmp 35) rfl ?_ ?_); rfl)
            | (refine wpList_append_ins insT rfl (.tmp 34) (.tmp 36) rfl w.heap.size _ (L.take k) [x] rfl hba39.1.came _ rfl (HSRC.out _) HLE.out hba39.2 ?_; intro v37 w37 ho37 hg37; have hR37 := HPSH.out hba39.1 hg37 ho37; have hgd := Lib.hid (HGD.out _ _ _ hR37))
            | (go_at_call 40; (with_reducible refine hgd.out.mono ?_); rintro e w40 ⟨rfl, hR40⟩; have hpb := Lib.hid (HPB.out _ _ _ hR40))
            | (go_at_call 41; (with_reducible refine hpb.out.mono ?_); rintro e w42 ⟨rfl, hR42⟩))
          go_roundw
          case rel => exact ⟨k + 1, _, _, rfl, rfl, by go_num, by omega, hR42⟩
          case measure => simp [RowKit.intOf]; omega
    · obtain rfl : k = n := by omega
      have HR := Lib.hid hR
      clear HLD H14 hR
      go_wp2_with (first | (go_at_call 34; (with_reducible refine (HLI.out _).mono ?_); rintro e w3 ⟨rfl, hb3⟩))
      go_ret
      exact ⟨rfl, (HR.out.bel hb3).be⟩
theorem rnewest_walk (A : Option Addr) (c : Nat) (L : List Ins) (w : World) (hL : L.length ≤ 9223372036854775807) (hA : IAt w w.heap.size A L) :
    Calls Try.prog 8 #[.slice A L.length c] w fun e w' => e = .returned (.bool true) ∧ Below w.heap.size w w' := by
  cases hd : lightR L with
  | false =>
    have h0 := light_tells A c L w hL hA
    rw [hd] at h0
    exact rnewest_dark w _ (Lib.hid h0)
  | true => exact rnewest_main A c L w hL hA hd
end Go.Proofs.Ytkceipkgebgigaa
