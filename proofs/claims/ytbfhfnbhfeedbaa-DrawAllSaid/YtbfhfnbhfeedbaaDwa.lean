/- The walk of DrawAll. No condition. -/
import Derived.Test.YtbfhfnbhfeedbaaDsg
namespace Go.Proofs.Ytbfhfnbhfeedbaa
set_option maxRecDepth 100000
set_option maxHeartbeats 1000000
open Go.RowKit Go.Lib Go.Great
/-- The bytes that tell the first j numbers of an order. -/
def codeP (L : List Nat) : Nat → List UInt8
  | 0 => []
  | j + 1 => codeP L j ++ (if 1 < L.length - j then [UInt8.ofNat ((L.drop (j + 1)).filter (· < L.getD j 0)).length] else [])
theorem codeP_codeL (L : List Nat) : ∀ j, j ≤ L.length → codeP L j ++ codeL (L.drop j) = codeL L := by
  intro j
  induction j with
  | zero => intro _; rfl
  | succ j ih =>
    intro hj
    rw [← ih (by omega), codeP, List.append_assoc]
    congr 1
    have hg : L.getD j 0 = L[j] := by rw [List.getD_eq_getElem?_getD, List.getElem?_eq_getElem (by omega)]; rfl
    rw [List.drop_eq_getElem_cons (show j < L.length by omega), hg]
    by_cases h1 : 1 < L.length - j
    · rw [if_pos h1]
      have : (L.drop (j + 1)).length ≠ 0 := by rw [List.length_drop]; omega
      cases hd : L.drop (j + 1) with
      | nil => rw [hd] at this; simp at this
      | cons y t => rfl
    · rw [if_neg h1]
      have : L.drop (j + 1) = [] := List.drop_of_length_le (by omega)
      rw [this]
      rfl
theorem codeP_all (L : List Nat) : codeP L L.length = codeL L := by
  have := codeP_codeL L L.length (Nat.le_refl _)
  rwa [List.drop_length, show codeL [] = [] from rfl, List.append_nil] at this
theorem codeP_len (L : List Nat) (j : Nat) : (codeP L j).length ≤ j := by
  induction j with
  | zero => simp [codeP]
  | succ j ih =>
    rw [codeP, List.length_append]
    split
    · simp; omega
    · simp; omega
def DaRel (W2 : World) (L : List Nat) (v6 i : Value) (wr : World) : Prop :=
  ∃ j : Nat, j ≤ L.length ∧ i = .int .i64 (j : Int) ∧ wr.ownsRow W2.heap.size 5 1 v6 (codeP L j).length (bcells (codeP L j)) ∧ Below W2.heap.size W2 wr
def DbRel (T : List Nat) (x : Nat) (wr0 : World) (v9 i : Value) (wr : World) : Prop :=
  ∃ k : Nat, k ≤ T.length ∧ i = .int .i64 (k : Int) ∧ v9 = .int .i64 (((T.take k).filter (· < x)).length : Int) ∧ wr = wr0
theorem ordOf_small (N : Nat) (h : N ≤ 1024) (r : List UInt8) : ordOf (N : Int) r = ordG N (List.range N) r := by
  unfold ordOf
  by_cases h0 : 1 ≤ N
  · rw [if_pos (by omega), Int.toNat_natCast]
  · obtain rfl : N = 0 := by omega
    rw [if_neg (by omega)]
    rfl
theorem below_made {w w1 w2 : World} {h : Nat} (hb : Below w.heap.size w w1) (hh : w.heap.size ≤ h) (hg : w1.grownBy w2 (pblk (some ⟨h, 0, none⟩))) : Below w.heap.size w w2 := below_grown_made hb hh hg
/-- New, then Order, of any bytes. -/
theorem filt_step (T : List Nat) (x k : Nat) (hk : k < T.length) : ((T.take (k + 1)).filter (· < x)).length = ((T.take k).filter (· < x)).length + (if T[k] < x then 1 else 0) := by
  rw [List.take_succ_eq_append_getElem hk, List.filter_append, List.length_append]
  congr 1
  by_cases h : T[k] < x
  · rw [List.filter_cons_of_pos (by simpa using h), if_pos h]; rfl
  · rw [List.filter_cons_of_neg (by simpa using h), if_neg h]; rfl
theorem filt_le (T : List Nat) (x k : Nat) : ((T.take k).filter (· < x)).length ≤ T.length := Nat.le_trans (List.length_filter_le _ _) (List.length_take_le' _ _)

theorem src_byteN (f : Nat) (hf : f < 256) (W : World) : Src Try.prog 1 22 (.slice (some ⟨W.heap.size, 0, none⟩) 1 1) [UInt8.ofNat f].length (bcells [UInt8.ofNat f]) (W.alloc (.cells #[.int .u8 (f : Int)] 5)) := by
  have h := src_byte (UInt8.ofNat f) W
  rw [UInt8.toNat_ofNat', Nat.mod_eq_of_lt (show f < 2 ^ 8 by omega)] at h
  exact h
theorem drawall_big (A : Option Addr) (c : Nat) (bs : List UInt8) (n : Int) (w : World) (h : 1000 < bs.length ∨ n < 0 ∨ 200 < n) :
    Calls Try.prog 5 #[.slice A bs.length c, .int .i64 n] w fun e w' => e = .returned (.bool true) ∧ Below w.heap.size w w' := by
  have HL := Lib.hid (lives_any w)
  have hq : (1000 : Int) < (bs.length : Int) ∨ (¬ (1000 : Int) < (bs.length : Int) ∧ n < 0) ∨ (¬ (1000 : Int) < (bs.length : Int) ∧ ¬ n < 0 ∧ 200 < n) := by omega
  clear h
  generalize bs.length = l at *
  rcases hq with q | ⟨q, q2⟩ | ⟨q, q2, q3⟩
  all_goals
    go_enter Try.func5, Try.ntmps5
    go_wp2_with (go_at_call 10; (with_reducible refine HL.out.mono ?_); rintro e w1 ⟨rfl, hb1⟩)
    go_ret
    exact ⟨rfl, hb1⟩
theorem drawall_in (A : Option Addr) (c : Nat) (bs : List UInt8) (N : Nat) (w : World) (hl : bs.length ≤ 1000) (hN : N ≤ 200) (hA : BAt w w.heap.size A bs) :
    Calls Try.prog 5 #[.slice A bs.length c, .int .i64 (N : Int)] w fun e w' => e = .returned (.bool true) ∧ Below w.heap.size w w' := by
  have HN := Lib.hid (new_any c hA (by omega))
  obtain ⟨L, hL⟩ : ∃ L, L = (ordG N (List.range N) bs).1 := ⟨_, rfl⟩
  have hLN : L.length = N := by rw [hL]; exact ordG_length _ _ _ List.length_range
  have hag : (ordG N (List.range N) (codeL L)).1 = L := by rw [hL, ord_again N (by omega) bs]
  have HO : Hid (∀ w1 h go, DMade w1 h go bs → w.heap.size ≤ h → Below w.heap.size w w1 → Calls Try.prog 25 #[.pointer (some ⟨h, 0, none⟩), .int .i64 (N : Int)] w1 fun e w2 => ∃ A5 c5, e = .returned (.slice A5 N c5) ∧ N ≤ c5 ∧ NAt w2 w2.heap.size A5 L ∧ Below w.heap.size w w2) := by
    refine Lib.hid (fun w1 h go hm hh hb1 => (norder_any hm.st (N : Int)).mono ?_)
    rintro e w2 ⟨v, rfl, o2, _, g2⟩
    rw [ordOf_small N (by omega), ← hL] at o2
    obtain ⟨A5, c5, rfl, hc5, hn5⟩ := nat_own o2
    exact ⟨A5, c5, by rw [hLN], by omega, hn5, below_made hb1 hh g2⟩
  have HAG := Lib.hid hag
  have HLN := Lib.hid hLN
  have q1 : ¬ (1000 : Int) < (bs.length : Int) := by omega
  have q2 : ¬ (N : Int) < 0 := by omega
  have q3 : ¬ (200 : Int) < (N : Int) := by omega
  clear hA hL hag hl
  generalize bs.length = l at *
  go_enter Try.func5, Try.ntmps5
  go_upto_region 4 with (first
    | (go_at_call 11; (with_reducible refine HN.out.mono ?_); rintro e w1 ⟨h, go, rfl, hm, hh, hgo, hb1⟩)
    | (go_at_call 25; (with_reducible refine (HO.out _ _ _ hm hh hb1).mono ?_); rintro e W2 ⟨A5, c5, rfl, hc5, hn5, hb2⟩))
  have HB2 := Lib.hid hb2
  have HN5 := Lib.hid hn5
  have R0 : Hid (DaRel W2 L (.slice none 0 0) (.int .i64 0) W2) := Lib.hid ⟨0, by omega, rfl, World.ownsRow_nil W2 _ 5 1, Below.refl _ _⟩
  clear HN HO hm hh hgo hb1 hb2 hn5 q1 q2 q3
  go_upto_region 6 with fail
  go_loopw [6, 30] (DaRel W2 L) (fun _ i _ => N - (RowKit.intOf i).toNat)
  case atStart => exact R0.out
  case round =>
    obtain ⟨j, hj, rfl, hown, hb⟩ := hrel
    clear R0
    have HB := Lib.hid hb
    have HOW := Lib.hid hown
    have hLN := HLN.out
    by_cases hlt : j < N
    · have hlt' : (j : Int) < (N : Int) := by omega
      obtain ⟨g5, o5, rfl, hg5, hc5'⟩ := (HN5.out.below hb).some_ (by omega)
      have k1 := hc5' j L[j] (List.getElem?_eq_getElem (by omega))
      have hcell : ∀ k, (hk : k < (L.drop (j + 1)).length) → wr.cell? ⟨g5, o5 + (j + 1) + k, none⟩ = some (.int .i64 ((L.drop (j + 1))[k] : Int)) := fun k hk => by
        rw [List.length_drop] at hk
        have := hc5' (j + 1 + k) (L[j + 1 + k]'(by omega)) (List.getElem?_eq_getElem (by omega))
        rw [List.getElem_drop]
        rw [show o5 + (j + 1) + k = o5 + (j + 1 + k) from by omega]
        exact this
      have HCELL := Lib.hid hcell
      obtain ⟨T, hT⟩ : ∃ T, T = L.drop (j + 1) := ⟨_, rfl⟩
      have hTl : T.length = N - (j + 1) := by rw [hT, List.length_drop, hLN]
      have hgx : L.getD j 0 = L[j] := by rw [List.getD_eq_getElem?_getD, List.getElem?_eq_getElem (by omega)]; rfl
      have hstep : codeP L (j + 1) = codeP L j ++ (if 1 < L.length - j then [UInt8.ofNat (T.filter (· < L[j])).length] else []) := by rw [codeP, hgx, hT]
      have hcl := codeP_len L j
      have HREL1 : Hid (1 < N - j → ∀ v w', w'.ownsRow W2.heap.size 5 1 v (codeP L j ++ [UInt8.ofNat (T.filter (· < L[j])).length]).length (bcells (codeP L j ++ [UInt8.ofNat (T.filter (· < L[j])).length])) → Below W2.heap.size W2 w' → DaRel W2 L v (.int .i64 ((j : Int) + 1)) w') := Lib.hid (fun h v w' o b => ⟨j + 1, by omega, by go_num, by rw [hstep, if_pos (by omega)]; exact o, b⟩)
      have HREL0 : Hid (¬ 1 < N - j → DaRel W2 L u6 (.int .i64 ((j : Int) + 1)) wr) := Lib.hid (fun h => ⟨j + 1, by omega, by go_num, by rw [hstep, if_neg (by omega), List.append_nil]; exact HOW.out, HB.out⟩)
      rw [← hT] at HCELL
      have HTL := Lib.hid hTl
      have HX : Hid (∀ k, k < N - (j + 1) → k < T.length) := Lib.hid (fun k hk => by omega)
      clear hown hb hc5' hcell hT hgx hstep hcl
      obtain ⟨x, hx⟩ : ∃ x, x = L[j] := ⟨_, rfl⟩
      rw [← hx] at k1 HREL1
      have HFL : Hid ((T.filter (· < x)).length < 256) := Lib.hid (by have := List.length_filter_le (fun y => decide (y < x)) T; omega)
      clear hx
      have R1 : Hid (DbRel T x wr (.int .i64 0) (.int .i64 0) wr) := Lib.hid ⟨0, by omega, rfl, rfl, rfl⟩
      by_cases hlast : 1 < N - j
      · have hm1 : (1 : Int) < (N : Int) - (j : Int) := by omega
        have hcap : ¬ c5 = j + 1 := by omega
        replace HREL1 := Lib.hid (HREL1.out hlast)
        clear HREL0
        go_upto_region 10 with fail
        go_loopw [9, 40] (DbRel T x wr) (fun _ i _ => T.length - (RowKit.intOf i).toNat)
        case atStart => exact R1.out
        case round =>
          obtain ⟨k, hk, rfl, rfl, hww⟩ := hrel
          subst hww
          clear R1
          have hfl := filt_le T x k
          have hTl := HTL.out
          by_cases hkl : k < T.length
          · have hki : (k : Int) < ((N - (j + 1) : Nat) : Int) := by omega
            have c1 := HCELL.out k hkl
            have hst := filt_step T x k hkl
            have HREL2 : Hid (∀ v, v = ((((T.take k).filter (· < x)).length : Int) + (if T[k] < x then 1 else 0)) → DbRel T x wr (.int .i64 v) (.int .i64 ((k : Int) + 1)) wr) := Lib.hid (fun v hv => ⟨k + 1, by omega, by go_num, by rw [hst, hv]; split <;> go_num, rfl⟩)
            clear hst
            generalize ((T.take k).filter (· < x)).length = f at *
            obtain ⟨y, hy⟩ : ∃ y, y = T[k] := ⟨_, rfl⟩
            rw [← hy] at c1 HREL2
            clear hy
            by_cases hyx : y < x
            · have hyx' : (y : Int) < (x : Int) := by omega
              rw [if_pos hyx] at HREL2
              go_wp2
              go_roundw
              case rel => exact HREL2.out _ rfl
              case measure => simp [RowKit.intOf]; omega
            · have hyx' : ¬ (y : Int) < (x : Int) := by omega
              rw [if_neg hyx] at HREL2
              go_wp2
              go_roundw
              case rel => exact HREL2.out _ (by omega)
              case measure => simp [RowKit.intOf]; omega
          · have hkT : k = T.length := by omega
            have hki : ¬ (k : Int) < ((N - (j + 1) : Nat) : Int) := by omega
            have hff : ((T.take k).filter (· < x)).length = (T.filter (· < x)).length := by rw [hkT, List.take_length]
            rw [hff]
            have hf256 := HFL.out
            have HOK : Hid (∀ W, Below wr.heap.size wr W → ∀ o, (W.alloc o).ownsRow W2.heap.size 5 1 u6 (codeP L j).length (bcells (codeP L j))) := Lib.hid (fun W hW o => (HOW.out.kept (grown_of_bel hW none) (by cases u6.ownBlock <;> simp)).alloc o)
            have HLL : Hid ((codeP L j).length + [UInt8.ofNat (T.filter (· < x)).length].length ≤ 10000000) := Lib.hid (by have := codeP_len L j; simp; omega)
            have HSRC := Lib.hid (src_byteN (T.filter (· < x)).length hf256 wr)
            have HBW : Hid (∀ v w3, w3.ownsRow W2.heap.size 5 1 v (codeP L j ++ [UInt8.ofNat (T.filter (· < x)).length]).length (bcells (codeP L j ++ [UInt8.ofNat (T.filter (· < x)).length])) → (wr.alloc (.cells #[.int .u8 ((T.filter (· < x)).length : Int)] 5)).grownBy w3 u6.ownBlock → DaRel W2 L v (.int .i64 ((j : Int) + 1)) w3) := Lib.hid (fun v w3 o g => HREL1.out v w3 o ((HB.out.alloc HB.out.size _).grown g (by have := HB.out.size; simp; omega) (fun k hk => (HOW.out.lt k hk).1)))
            have HO3 := Lib.hid (HOK.out wr (Below.refl _ _) (.cells #[.int .u8 ((T.filter (· < x)).length : Int)] 5))
            have HSZ : Hid (W2.heap.size ≤ (wr.alloc (.cells #[.int .u8 ((T.filter (· < x)).length : Int)] 5)).heap.size) := Lib.hid (by have := HB.out.size; simp; omega)
            clear hff hfl hkT HFL HREL1 HOW HOK HCELL k1 hTl HTL HX
            generalize (T.filter (· < x)).length = f at *
            go_upto_region 17 with (refine wpList_append_bytes rfl (.tmp 54) (.tmp 57) rfl W2.heap.size u6 (codeP L j) rfl HO3.out _ [UInt8.ofNat f] rfl HSRC.out HLL.out HSZ.out ?_; intro v3 w3 ho3 hg3)
            have HR3 := Lib.hid (HBW.out v3 w3 ho3 hg3)
            clear ho3 hg3 HBW HO3 HSRC
            go_wp2
            go_roundw
            case rel => exact HR3.out
            case measure => simp [RowKit.intOf]; omega
      · have hm1 : ¬ (1 : Int) < (N : Int) - (j : Int) := by omega
        obtain rfl : N = j + 1 := by omega
        have HR3 := Lib.hid (HREL0.out hlast)
        clear HREL0 HREL1 HFL HCELL HOW R1 HX
        by_cases hcap : c5 = j + 1
        · subst hcap
          go_wp2
          refine wp_loop_rounds 1 ?_
          rw [rounds_succ]
          go_wp2
          go_roundw
          case rel => exact ⟨_, _, _, _, _, _, _, _, _, _, _, _, _, _, _, _, _, _, _, _, _, _, _, _, _, _, _, _, _, _, _, _, _, _, _, HR3.out, rfl⟩
          case measure => simp [RowKit.intOf]
        · go_wp2
          refine wp_loop_rounds 1 ?_
          rw [rounds_succ]
          go_wp2
          go_roundw
          case rel => exact ⟨_, _, _, _, _, _, _, _, _, _, _, _, _, _, _, _, _, _, _, _, _, _, _, _, _, _, _, _, _, _, _, _, _, _, _, HR3.out, rfl⟩
          case measure => simp [RowKit.intOf]
    · obtain rfl : j = N := by omega
      have hcode : codeP L j = codeL L := by rw [← hLN]; exact codeP_all L
      rw [hcode] at hown
      obtain ⟨A6, c6, rfl, hbat, _⟩ := own_bat hown
      have hcl : (codeL L).length ≤ 200 := by rw [← hcode]; have := codeP_len L j; omega
      have HN := Lib.hid (new_any c6 hbat (by omega))
      have HO : Hid (∀ w1 h go, DMade w1 h go (codeL L) → wr.heap.size ≤ h → Below wr.heap.size wr w1 → Calls Try.prog 25 #[.pointer (some ⟨h, 0, none⟩), .int .i64 (j : Int)] w1 fun e w2 => ∃ A7 c7, e = .returned (.slice A7 j c7) ∧ NAt w2 w2.heap.size A7 L ∧ Below wr.heap.size wr w2) := by
        refine Lib.hid (fun w1 h go hm hh hb1 => (norder_any hm.st (j : Int)).mono ?_)
        rintro e w2 ⟨v, rfl, o2, _, g2⟩
        rw [ordOf_small j (by omega), HAG.out] at o2
        obtain ⟨A7, c7, rfl, _, hn7⟩ := nat_own o2
        exact ⟨A7, c7, by rw [hLN], hn7, below_made hb1 hh g2⟩
      have HI : Hid (∀ A7 c7 w2, NAt w2 w2.heap.size A7 L → Below wr.heap.size wr w2 → Calls Try.prog 26 #[.slice A7 j c7, .slice A5 j c5] w2 fun e w3 => e = .returned (.bool true) ∧ Below w.heap.size w w3) := by
        refine Lib.hid (fun A7 c7 w2 hn7 hb7 => ?_)
        have hb8 := HB.out.trans (hb7.mono HB.out.size)
        have hn5 := (HN5.out.below hb8).more hb8.size
        have := ints_same A7 A5 c7 c5 L w2 (by omega) hn7 hn5
        rw [hLN] at this
        refine this.mono ?_
        rintro e w3 ⟨rfl, hb9⟩
        have hb10 := HB2.out.trans (hb8.mono HB2.out.size)
        exact ⟨rfl, hb10.trans (hb9.mono hb10.size)⟩
      have HLV : Hid (∀ w3, Below w.heap.size w w3 → Calls Try.prog 10 #[] w3 fun e w4 => e = .returned (.bool true) ∧ Below w.heap.size w w4) := Lib.hid (fun w3 hb3 => (lives_any w3).mono (by rintro e w4 ⟨rfl, hb4⟩; exact ⟨rfl, hb3.trans (hb4.mono hb3.size)⟩))
      clear hown hb hbat hcode hcl
      generalize (codeL L).length = l6 at *
      go_wp2_with (first
        | (go_at_call 11; (with_reducible refine HN.out.mono ?_); rintro e w3 ⟨h3, go3, rfl, hm3, hh3, hgo3, hb3⟩)
        | (go_at_call 25; (with_reducible refine (HO.out _ _ _ hm3 hh3 hb3).mono ?_); rintro e w4 ⟨A7, c7, rfl, hn7, hb7⟩)
        | (go_at_call 26; (with_reducible refine (HI.out _ _ _ hn7 hb7).mono ?_); rintro e w5 ⟨rfl, hb5⟩)
        | (go_at_call 10; (with_reducible refine (HLV.out _ hb5).mono ?_); rintro e w6 ⟨rfl, hb6⟩))
      go_ret
      exact ⟨rfl, hb6⟩
theorem drawall_any (A : Option Addr) (c : Nat) (bs : List UInt8) (n : Int) (w : World) (hA : BAt w w.heap.size A bs) :
    Calls Try.prog 5 #[.slice A bs.length c, .int .i64 n] w fun e w' => e = .returned (.bool true) ∧ Below w.heap.size w w' := by
  by_cases h : 1000 < bs.length ∨ n < 0 ∨ 200 < n
  · exact drawall_big A c bs n w h
  · obtain ⟨N, rfl⟩ : ∃ N : Nat, n = (N : Int) := ⟨n.toNat, by omega⟩
    exact drawall_in A c bs N w (by omega) (by omega) hA
end Go.Proofs.Ytbfhfnbhfeedbaa
