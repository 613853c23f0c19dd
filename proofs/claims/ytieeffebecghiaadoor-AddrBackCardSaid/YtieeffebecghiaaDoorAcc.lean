/- Contract of Text of package addr, where the library's table of powers of ten reads as it is laid. Conditions: a host fits 32 bits, a port 16. -/
import Derived.Test.YtieeffebecghiaaDoorAcb
import Derived.Lib.AppendIntMem
namespace Go.Proofs.YtieeffebecghiaaDoor
set_option maxRecDepth 100000
set_option maxHeartbeats 1000000
open Go.RowKit Go.Lib Go.Great

theorem decL_lib (n : Nat) : Lib.decDigits n = decL n := by
  induction n using Nat.strongRecOn with
  | _ n ih =>
    by_cases h : n < 10
    · rw [Lib.decDigits, dif_pos h, decL_small h]
      rfl
    · rw [Lib.decDigits, dif_neg h, decL_big h, ih (n / 10) (by omega)]
      rfl
/-- The table of powers of ten reads as it is laid. -/
def Tab (w : World) : Prop := Lib.TabIs Tryd.prog w "internal/strconv.uint64pow10" .u64 Lib.pow10Tab
theorem Tab.on {w W : World} (h : Tab w) (hb : Below w.heap.size w W) : Tab W := Lib.tabBelow_of_tabIs h W hb
theorem append_any (B u : Nat) (hu : u < 100000) (v : Value) (xs : List UInt8) (w : World) (hown : w.ownsRow B 5 1 v xs.length (bcells xs)) (hB : B ≤ w.heap.size) (hl : xs.length ≤ 100000) (ht : Tab w) :
    Calls Tryd.prog 20 #[v, .int .u64 (u : Int), .int .i64 10] w fun e w' => ∃ v', e = .returned v' ∧ w'.ownsRow B 5 1 v' (xs ++ decL u).length (bcells (xs ++ decL u)) ∧ Below B w w' := by
  have H := Lib.hid (Tryd.internal_strconv_AppendUint_10 B xs.length u (by omega) v (bcells xs) w hown hB (by omega) ht)
  have HX := Lib.hid (decL_lib u)
  clear hown ht
  go_enter Tryd.func20, Tryd.ntmps20
  go_wp2_with (go_at_call 33; (with_reducible refine H.out.mono ?_); rintro e w1 ⟨v', rfl, h1, h2, _⟩)
  go_ret
  rw [HX.out] at h1
  refine ⟨v', rfl, ?_, h2⟩
  rw [List.length_append, bcells_append]
  exact h1
theorem wpList_append_bs {w : World} {ops : Array Oper} {rest : List Oper} {o : Oper} {a : Act} {Q : Exit → Act → World → Prop} (hgd : o.guard = none) (s x : Operand)
    (ho : o.op = .call { callee := .builtin .append, args := #[s, x], argTypes := #[31, 31] })
    (base : Nat) (v : Value) (L : List UInt8) (hs : a.eval s = v) (hown : w.ownsRow base 5 1 v L.length (bcells L))
    (y : Value) (M : List UInt8) (hx : a.eval x = y) (hr : Src Tryd.prog 1 31 y M.length (bcells M) w) (h63 : L.length + M.length ≤ 1000000) (hbase : base ≤ w.heap.size)
    (h : ∀ v' w', w'.ownsRow base 5 1 v' (L ++ M).length (bcells (L ++ M)) → w.grownBy w' v.ownBlock → wpList Tryd.prog ops Q rest (a.put o.dst v') w') : wpList Tryd.prog ops Q (o :: rest) a w :=
  wpList_plain hgd fun _ hK => by
    obtain ⟨i0, hi, hz0, hz1, hz2⟩ := info_parts info5
    obtain ⟨v', w', hrun, h2, h3, _⟩ := run_append_srcK w base 31 31 o.type 5 i0 _ 1 1 Tryd.underlying31 hi hz0 hz1 hz2 rfl v L.length (bcells L) hown y M.length (bcells M) hr (by simp only [maxLen]; omega) (by omega) hbase
    unfold Oper.wp execOp
    simp only [ho, resolve, invoke, builtin, Sem.run_bind, Sem.run_pure, Result.andThen_ok, List.map_toArray, List.map_cons, List.map_nil, hs, hx, hrun]
    refine hK _ _ (h v' w' ?_ h3)
    rw [List.length_append, bcells_append]
    exact h2
theorem src_mark (b : UInt8) (n : Int) (hn : (b.toNat : Int) = n) (W : World) : Src Tryd.prog 1 31 (.slice (some ⟨W.heap.size, 0, none⟩) 1 1) [b].length (bcells [b]) (W.alloc (.cells #[.int .u8 n] 5)) := by
  subst hn
  refine Src.ofSlice _ Tryd.underlying31 _ 1 1 (bcells [b]) rfl (fun j u hu => ?_) (bcells_one _)
  rw [Addr.add_mid]
  exact row_range (cs := [.int .u8 (b.toNat : Int)]) (heap_alloc_new W (.cells #[.int .u8 (b.toNat : Int)] 5)) j u hu
/-- The first bytes of a host, each with what stands behind it. -/
def preX (bs : List UInt8) : Nat → List UInt8
  | 0 => []
  | j + 1 => preX bs j ++ decL (bs.getD j 0).toNat ++ [if j = 3 then 58 else 46]
theorem preX_len (bs : List UInt8) : ∀ j, (preX bs j).length ≤ 4 * j
  | 0 => by simp [preX]
  | j + 1 => by
    have := preX_len bs j
    have := dec_byte (bs.getD j 0)
    simp only [preX, List.length_append, List.length_cons, List.length_nil]
    omega
theorem adT_preX (h p : Nat) : adT h p = preX (putB h 4) 4 ++ decL p := by
  have e : ∀ i, i < 4 → (adB h p).getD i 0 = (putB h 4).getD i 0 := fun i hi => by
    unfold adB
    rw [List.getD_eq_getElem?_getD, List.getElem?_append_left (by rw [putB_length]; omega), List.getD_eq_getElem?_getD]
  unfold adT
  simp only [preT, preX, e 0 (by omega), e 1 (by omega), e 2 (by omega), e 3 (by omega)]
  simp
def XtRel (B : Nat) (W0 : World) (bs : List UInt8) (v i : Value) (wr : World) : Prop := ∃ j : Nat, j ≤ 4 ∧ i = .int .i64 (j : Int) ∧ wr.ownsRow B 5 1 v (preX bs j).length (bcells (preX bs j)) ∧ Below B W0 wr
theorem text_any (h p : Nat) (hh : h < 4294967296) (hp : p < 65536) (w : World) (ht : Tab w) : Calls Tryd.prog 8 #[.agg (adr h p)] w fun e w' => e = .returned (.string (bsA (adT h p))) ∧ Below w.heap.size w w' := by
  have hb0 : Below w.heap.size w (w.alloc (.cells (adr h p) 25)) := (Below.refl _ w).alloc (Nat.le_refl _) _
  have h0 := heap_alloc_new w (.cells (adr h p) 25)
  have HP := Lib.hid (put_yes none 0 h 4 [] (w.alloc (.cells (adr h p) 25)) (.inl rfl) (by simp) (by omega) (by omega) (by omega))
  obtain ⟨W0, hW0⟩ : ∃ W0, W0 = w.alloc (.cells (adr h p) 25) := ⟨_, rfl⟩
  rw [← hW0] at hb0 h0 HP
  have c0 : W0.cell? ⟨w.heap.size, 0, none⟩ = some (.int .u32 (h : Int)) := by rw [cell_of_row _ _ 0 _ 25 (0, 0) h0]; rfl
  have hwh : IntKind.u64.wrap (h : Int) = (h : Int) := by rw [IntKind.wrap_u64]; omega
  have hwp : IntKind.u64.wrap (p : Int) = (p : Int) := by rw [IntKind.wrap_u64]; omega
  have HT := Lib.hid ht
  have HB0 := Lib.hid hb0
  have H0 := Lib.hid h0
  have HW := Lib.hid hW0
  have HX := Lib.hid (adT_preX h p)
  have HL4 : Hid ((putB h 4).length = 4) := Lib.hid (putB_length h 4)
  generalize hbs : putB h 4 = bs at HX HL4 HP
  clear ht hb0 h0 hbs
  unfold adr at *
  go_enter Tryd.func8, Tryd.ntmps8
  go_upto_region 2 with fail
  rw [← HW.out]
  clear HW hW0
  go_upto_region 3 with (go_at_call 19; (refine HP.out.mono ?_); rintro e w1 ⟨v9, rfl, ho9, hb1⟩; obtain ⟨A9, c9, hv9, hc9, hA9⟩ := BsIs.of_own ho9; rw [List.nil_append, HL4.out] at hv9; subst hv9; clear ho9)
  rw [List.nil_append] at hA9 hc9
  have HB1 := Lib.hid (HB0.out.trans (hb1.mono HB0.out.size))
  have H1 : Hid (w1.heap[w.heap.size]? = some (.cells #[.int .u32 (h : Int), .int .u16 (p : Int)] 25 (0, 0))) := Lib.hid ((hb1.block _ (Array.getElem?_eq_some_iff.1 H0.out).1).trans H0.out)
  have R0 : Hid (XtRel w1.heap.size w1 bs (.slice none 0 0) (.int .i64 0) w1) := Lib.hid ⟨0, by omega, rfl, World.ownsRow_nil w1 _ 5 1, Below.refl _ _⟩
  have HA9 := Lib.hid hA9
  have HC9 := Lib.hid hc9
  clear hA9 hc9 hb1 c0 HP H0 HB0 hwh
  go_loopw [3, 11] (XtRel w1.heap.size w1 bs) (fun _ i _ => 4 - (RowKit.intOf i).toNat)
  case atStart => exact R0.out
  case round =>
    obtain ⟨j, hj, rfl, hown, hb⟩ := hrel
    clear R0
    have HB := Lib.hid hb
    have HO := Lib.hid hown
    by_cases hlt : j < 4
    · obtain ⟨g, off, rfl, hcell⟩ := bs_cell HA9.out hb j (by rw [HL4.out]; exact hlt)
      have HLT := Lib.hid (preX_len bs j)
      have HTT : Hid (Tab wr) := Lib.hid (HT.out.on (HB1.out.trans (hb.mono HB1.out.size)))
      have hbt : bs[j]'(by rw [HL4.out]; exact hlt) = bs.getD j 0 := by rw [List.getD_eq_getElem?_getD, List.getElem?_eq_getElem (by rw [HL4.out]; exact hlt)]; rfl
      rw [hbt] at hcell
      have hb255 := (bs.getD j 0).toNat_lt
      have HAP := Lib.hid (append_any w1.heap.size (bs.getD j 0).toNat (by omega) u3 (preX bs j) wr HO.out HB.out.size (by have := HLT.out; omega) HTT.out)
      have HSX : Hid (preX bs (j + 1) = preX bs j ++ decL (bs.getD j 0).toNat ++ [if j = 3 then 58 else 46]) := Lib.hid rfl
      have hl2 := dec_byte (bs.getD j 0)
      have HLL : Hid ((preX bs j ++ decL (bs.getD j 0).toNat).length ≤ 100) := Lib.hid (by rw [List.length_append]; have := HLT.out; omega)
      generalize (bs.getD j 0).toNat = bj at hcell HAP HSX HLL hb255
      have hwb : IntKind.u64.wrap (bj : Int) = (bj : Int) := by rw [IntKind.wrap_u64]; omega
      clear hown hb hbt hl2
      generalize preX bs j ++ decL bj = L at HAP HSX HLL
      have hjj : j = 0 ∨ j = 1 ∨ j = 2 ∨ j = 3 := by omega
      rcases hjj with rfl | rfl | rfl | rfl
      · rw [Nat.add_zero] at hcell
        go_upto_region 6 with (go_at_call 20; (with_reducible refine HAP.out.mono ?_); rintro e w2 ⟨v2, rfl, ho2, hb2⟩)
        have HB2 := Lib.hid (HB.out.trans hb2)
        have HO2 := Lib.hid (ho2.alloc (.cells #[.int .u8 46] 5))
        have HS2 := Lib.hid (src_mark 46 46 rfl w2)
        clear ho2 hb2
        go_upto_region 7 with (refine wpList_append_bs rfl (.tmp 20) (.tmp 23) rfl w1.heap.size v2 L rfl HO2.out _ [46] rfl HS2.out (by have := HLL.out; simp; omega) (by have := HB2.out.size; simp; omega) ?_; intro v3 w3 ho3 hg3)
        have HR2 : Hid (XtRel w1.heap.size w1 bs v3 (.int .i64 (1 : Int)) w3) := Lib.hid ⟨1, by omega, rfl, by rw [HSX.out]; exact ho3, (HB2.out.alloc HB2.out.size _).grown hg3 (by have := HB2.out.size; simp; omega) (fun k hk => (HO2.out.lt k hk).1)⟩
        clear ho3 hg3 HO2 HS2 HB2
        go_wp2
        go_roundw
        case rel => exact HR2.out
        case measure => simp [RowKit.intOf]
      · go_upto_region 6 with (go_at_call 20; (with_reducible refine HAP.out.mono ?_); rintro e w2 ⟨v2, rfl, ho2, hb2⟩)
        have HB2 := Lib.hid (HB.out.trans hb2)
        have HO2 := Lib.hid (ho2.alloc (.cells #[.int .u8 46] 5))
        have HS2 := Lib.hid (src_mark 46 46 rfl w2)
        clear ho2 hb2
        go_upto_region 7 with (refine wpList_append_bs rfl (.tmp 20) (.tmp 23) rfl w1.heap.size v2 L rfl HO2.out _ [46] rfl HS2.out (by have := HLL.out; simp; omega) (by have := HB2.out.size; simp; omega) ?_; intro v3 w3 ho3 hg3)
        have HR2 : Hid (XtRel w1.heap.size w1 bs v3 (.int .i64 (2 : Int)) w3) := Lib.hid ⟨2, by omega, rfl, by rw [HSX.out]; exact ho3, (HB2.out.alloc HB2.out.size _).grown hg3 (by have := HB2.out.size; simp; omega) (fun k hk => (HO2.out.lt k hk).1)⟩
        clear ho3 hg3 HO2 HS2 HB2
        go_wp2
        go_roundw
        case rel => exact HR2.out
        case measure => simp [RowKit.intOf]
      · go_upto_region 6 with (go_at_call 20; (with_reducible refine HAP.out.mono ?_); rintro e w2 ⟨v2, rfl, ho2, hb2⟩)
        have HB2 := Lib.hid (HB.out.trans hb2)
        have HO2 := Lib.hid (ho2.alloc (.cells #[.int .u8 46] 5))
        have HS2 := Lib.hid (src_mark 46 46 rfl w2)
        clear ho2 hb2
        go_upto_region 7 with (refine wpList_append_bs rfl (.tmp 20) (.tmp 23) rfl w1.heap.size v2 L rfl HO2.out _ [46] rfl HS2.out (by have := HLL.out; simp; omega) (by have := HB2.out.size; simp; omega) ?_; intro v3 w3 ho3 hg3)
        have HR2 : Hid (XtRel w1.heap.size w1 bs v3 (.int .i64 (3 : Int)) w3) := Lib.hid ⟨3, by omega, rfl, by rw [HSX.out]; exact ho3, (HB2.out.alloc HB2.out.size _).grown hg3 (by have := HB2.out.size; simp; omega) (fun k hk => (HO2.out.lt k hk).1)⟩
        clear ho3 hg3 HO2 HS2 HB2
        go_wp2
        go_roundw
        case rel => exact HR2.out
        case measure => simp [RowKit.intOf]
      · go_upto_region 6 with (go_at_call 20; (with_reducible refine HAP.out.mono ?_); rintro e w2 ⟨v2, rfl, ho2, hb2⟩)
        have HB2 := Lib.hid (HB.out.trans hb2)
        have HO2 := Lib.hid (ho2.alloc (.cells #[.int .u8 58] 5))
        have HS2 := Lib.hid (src_mark 58 58 rfl w2)
        clear ho2 hb2
        go_upto_region 7 with (refine wpList_append_bs rfl (.tmp 20) (.tmp 23) rfl w1.heap.size v2 L rfl HO2.out _ [58] rfl HS2.out (by have := HLL.out; simp; omega) (by have := HB2.out.size; simp; omega) ?_; intro v3 w3 ho3 hg3)
        have HR2 : Hid (XtRel w1.heap.size w1 bs v3 (.int .i64 (4 : Int)) w3) := Lib.hid ⟨4, by omega, rfl, by rw [HSX.out]; exact ho3, (HB2.out.alloc HB2.out.size _).grown hg3 (by have := HB2.out.size; simp; omega) (fun k hk => (HO2.out.lt k hk).1)⟩
        clear ho3 hg3 HO2 HS2 HB2
        go_wp2
        go_roundw
        case rel => exact HR2.out
        case measure => simp [RowKit.intOf]
    · obtain rfl : j = 4 := by omega
      have r1 := (hb.block w.heap.size (Array.getElem?_eq_some_iff.1 H1.out).1).trans H1.out
      have c1 : wr.cell? ⟨w.heap.size, 1, none⟩ = some (.int .u16 (p : Int)) := by rw [cell_of_row _ _ 1 _ 25 (0, 0) r1]; rfl
      have HTT : Hid (Tab wr) := Lib.hid (HT.out.on (HB1.out.trans (hb.mono HB1.out.size)))
      have HAP := Lib.hid (append_any w1.heap.size p (by omega) u3 (preX bs 4) wr HO.out HB.out.size (by have := preX_len bs 4; omega) HTT.out)
      rw [← HX.out] at HAP
      have HBW := Lib.hid (HB1.out.trans (hb.mono HB1.out.size))
      clear hown hb r1 HO HTT
      go_upto_region 8 with fail
      go_wp2_with (first
        | (go_at_call 20; (with_reducible refine HAP.out.mono ?_); rintro e w2 ⟨v2, rfl, ho2, hb2⟩; have hcv := run_convert_own 31 9 5 Tryd.underlying31 Tryd.underlying5 Tryd.underlying9 ho2; have HF := Lib.hid (HB1.out.trans ((HB.out.trans hb2).mono HB1.out.size)); clear ho2 hb2))
      go_ret
      exact ⟨rfl, HF.out⟩
end Go.Proofs.YtieeffebecghiaaDoor
