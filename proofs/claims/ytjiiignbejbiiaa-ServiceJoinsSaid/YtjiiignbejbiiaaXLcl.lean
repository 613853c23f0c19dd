/- Contract of read of package label. Conditions: at most 255 bytes. -/
import Derived.Test.YtjiiignbejbiiaaXLci
import Derived.Test.YtjiiignbejbiiaaXLcf
import Derived.Test.YtjiiignbejbiiaaXLpb
namespace Go.Proofs.Ytjiiignbejbiiaa
open Go.Shelf Go.RowKit Go.Lib Go.Great
set_option maxRecDepth 100000
set_option maxHeartbeats 1000000
theorem info9 : (Try.prog.info? 9).map (fun i => (i.zero, i.size, i.bytes)) = some (some (.string ⟨#[]⟩), 1, 16) := by kernel_rfl
theorem src_str (p : ByteArray) (w : World) : Src Try.prog 1 25 (.slice (some ⟨w.heap.size, 0, none⟩) 1 1) 1 [.string p] (w.alloc (.cells #[.string p] 9)) := by
  refine Src.ofSlice _ Try.underlying25 _ 1 1 [.string p] rfl (fun j u hu => ?_) (by simp [Value.oneCell'])
  match j, hu with
  | 0, hu =>
    simp at hu
    subst hu
    simp [Addr.add]
/-- Where read stands. -/
def ReadR (l : List UInt8) (w : World) (v sz : Value) (wr : World) : Prop := ∃ (L : List (List UInt8)) (i : Nat), sz = .int .i64 (i : Int) ∧ i = sizeD L ∧ i ≤ l.length ∧ OwnT w.heap.size v L wr ∧ Below w.heap.size w wr ∧ rd l = (rd (l.drop i)).map fun x => (L ++ x.1, i + x.2)
/-- What read tells. -/
def ReadP (l : List UInt8) (w : World) (e : Ending) (w' : World) : Prop := ∃ (v : Value) (L : List (List UInt8)) (sz : Int) (ok : Bool), e = .returned (.tuple #[v, .int .i64 sz, .bool ok]) ∧ OwnT w.heap.size v L w' ∧ sizeD L ≤ l.length ∧ Below w.heap.size w w' ∧
  (match rd l with | none => ok = false | some x => ok = true ∧ L = x.1 ∧ sz = x.2)
theorem app_below {W w1 : World} {n₀ : Nat} {e : TypeId} {size : Nat} {v : Value} {k : Nat} {xs : List Value} {tmp : Obj} (hrow : W.ownsRow n₀ e size v k xs) (hn₀ : n₀ ≤ W.heap.size) (hgrow : (W.alloc tmp).grownBy w1 v.ownBlock) : Below n₀ W w1 := by
  refine ((Below.refl n₀ W).alloc hn₀ tmp).grown hgrow (by simp; omega) fun j ej => ?_
  rcases hrow.2 with ⟨rfl, _⟩ | ⟨g, cap, cur, rfl, hb, _, _⟩
  · simp [Value.ownBlock] at ej
  · obtain rfl : g = j := by simpa [Value.ownBlock] using ej
    exact hb
theorem sizeD_le (L : List (List UInt8)) : L.length ≤ sizeD L := by
  induction L with
  | nil => exact Nat.le_refl _
  | cons p r ih => rw [sizeD_cons, List.length_cons]; omega
theorem OwnT.nil {B : Nat} {w : World} : OwnT B (.slice none 0 0) [] w := ⟨rfl, .inl ⟨rfl, rfl⟩⟩
theorem read_any (A : Option Addr) (c : Nat) (l : List UInt8) (hl : l.length ≤ 255) (hlc : l.length ≤ c) (w : World) (hA : BAt w w.heap.size A l) : Calls Try.prog 44 #[.slice A l.length c] w fun e w' => ReadP l w e w' := by
  obtain ⟨i0, hi, hz0, hz1, hz2⟩ := info_parts info9
  have R0 : Hid (ReadR l w (.slice none 0 0) (.int .i64 0) w) := Lib.hid ⟨[], 0, rfl, rfl, by omega, OwnT.nil, Below.refl _ _, by simp⟩
  have HA := Lib.hid hA
  obtain ⟨n, hn⟩ : ∃ n, n = l.length := ⟨_, rfl⟩
  have HN := Lib.hid hn
  rw [← hn] at hl hlc ⊢
  clear hA hn
  go_enter Try.func44, Try.ntmps44
  go_upto_region 1 with fail
  go_loopw [2, 3] (ReadR l w) (fun _ s _ => n - (RowKit.intOf s).toNat)
  case atStart => exact R0.out
  case round =>
    obtain ⟨L, i, rfl, hiL, hil, hO, hb, hrd⟩ := hrel
    rw [← HN.out] at hil
    clear R0
    have HX := HA.out.below hb
    by_cases hlt : i < n
    · have hls : i < l.length := by rw [← HN.out]; exact hlt
      obtain ⟨g, off, rfl, hg, hcell⟩ := HX.some_ (by omega)
      have hc1 := hcell i hls
      have hbyte := l[i].toNat_lt
      have hdrop := rd_at hls
      rw [hdrop] at hrd
      have HRD := Lib.hid hrd
      have HCELL := Lib.hid hcell
      by_cases h0 : l[i] = 0
      · have hz : (l[i].toNat : Int) = 0 := by rw [h0]; rfl
        rw [hz] at hc1
        have HE : Hid (rd l = some (L, i + 1)) := Lib.hid (by rw [hrd, h0, rd_zero]; simp)
        have HO := Lib.hid hO
        have HB := Lib.hid hb
        have HIL := Lib.hid hiL
        clear hrd hcell hdrop HRD HCELL hO hb HX hbyte hz h0 HA hg hiL
        have hlt' : (i : Int) < (n : Int) := by omega
        go_wp2
        refine bodyPost_ret (v := .tuple #[_, .int .i64 ((i : Int) + 1), .bool true]) (results_3 (p := 2) (q := 3) (r := 4) rfl _ _ _ _ _ rfl rfl rfl) rfl ?_
        refine ⟨_, L, (i : Int) + 1, true, rfl, HO.out, by rw [← HIL.out, ← HN.out]; omega, HB.out, ?_⟩
        rw [HE.out]
        exact ⟨rfl, rfl, by simp⟩
      · obtain ⟨q, hq⟩ : ∃ q, q = l[i].toNat := ⟨_, rfl⟩
        have hq0 : ¬ (q : Int) = 0 := fun e => h0 (UInt8.toNat_inj.1 (by rw [← hq, show (0 : UInt8).toNat = 0 from rfl]; omega))
        rw [← hq] at hc1 hbyte
        have HO := Lib.hid hO
        have HB := Lib.hid hb
        have HIL := Lib.hid hiL
        have hlt' : (i : Int) < (n : Int) := by omega
        by_cases hsh : i + 1 + q ≤ n
        · have hsh' : ¬ (n : Int) < (i : Int) + 1 + (q : Int) := by omega
          have hnl : ¬ (l.drop (i + 1)).length < l[i].toNat := by rw [List.length_drop, ← HN.out, ← hq]; omega
          obtain ⟨p, hp⟩ : ∃ p, p = (l.drop (i + 1)).take q := ⟨_, rfl⟩
          have hpl : p.length = q := by rw [hp, List.length_take, List.length_drop, ← HN.out]; omega
          have hsl : ∀ W, (Instr.slice 29 (.slice (some ⟨g, off, none⟩) n c) (some (.int .i64 ((i : Int) + 1))) (some (.int .i64 ((i : Int) + 1 + (q : Int)))) none).run Try.prog W = .ok (.slice (cutA (some ⟨g, off, none⟩) c (i + 1)) q (c - (i + 1))) W := fun W => by
            rw [run_slice_lh W 29 (some ⟨g, off, none⟩) n c under22 .i64 .i64 _ _ (by omega) (by omega) (by omega), size5]
            simp only [Result.andThen, sliced, cutA]
            congr 2
            · simp [show ((i : Int) + 1).toNat = i + 1 by omega]
            · simp [show ((i : Int) + 1).toNat = i + 1 by omega, show ((i : Int) + 1 + (q : Int)).toNat = i + 1 + q by omega]
          have hBp : BAt wr w.heap.size (cutA (some ⟨g, off, none⟩) c (i + 1)) p := by
            have h1 := HX.cut (c := c) (k := i + 1) (by omega) (by rw [← HN.out]; exact hlc)
            rcases h1 with h1 | ⟨g', off', e, hg', hc'⟩
            · rw [h1] at hp
              exact .inl (by simpa using hp)
            · refine .inr ⟨g', off', e, hg', fun j hj => ?_⟩
              have hj2 : j < (l.drop (i + 1)).length := by rw [hp, List.length_take] at hj; omega
              rw [hc' j hj2]
              subst hp
              simp
          have hcv : (convert 29 9 (.slice (cutA (some ⟨g, off, none⟩) c (i + 1)) q (c - (i + 1)))).run Try.prog wr = .ok (.string (bstr p)) wr := by
            have := run_convert_bat (P := Try.prog) 29 9 5 (c - (i + 1)) Try.underlying29 Try.underlying5 Try.underlying9 hBp
            rwa [hpl] at this
          have HPA := Lib.hid (part_any p wr)
          clear hO hb hiL hcell hdrop HCELL HX HA hg
          cases hpp : partL p
          · rw [hpp] at HPA
            have HE : Hid (rd l = none) := Lib.hid (by
              rw [HRD.out, rd_bad h0 hnl (by rw [← hq, ← hp]; exact hpp)]
              rfl)
            clear hrd hp hBp hnl hpl HRD h0 hpp hq
            go_wp2_with (go_at_call 11; (with_reducible refine HPA.out.mono ?_); rintro e w1 ⟨rfl, hb1⟩)
            refine bodyPost_ret (v := .tuple #[.slice none 0 0, .int .i64 0, .bool false]) (results_3 (p := 2) (q := 3) (r := 4) rfl _ _ _ _ _ rfl rfl rfl) rfl ?_
            refine ⟨.slice none 0 0, [], 0, false, rfl, OwnT.nil, by simp [sizeD], HB.out.trans (hb1.mono HB.out.size), ?_⟩
            rw [HE.out]
          · rw [hpp] at HPA
            have HNX : Hid (rd l = (rd (l.drop (i + 1 + q))).map fun x => ((L ++ [p]) ++ x.1, i + 1 + q + x.2)) := Lib.hid (by
              rw [HRD.out, rd_part h0 hnl (by rw [← hq, ← hp]; exact hpp), List.drop_drop, ← hq, ← hp, Option.map_map]
              congr 1
              funext x
              simp only [Function.comp_apply, List.append_assoc, List.singleton_append]
              congr 1
              omega)
            have HSZ : Hid (i + 1 + q = sizeD (L ++ [p])) := Lib.hid (by rw [sizeD_append, ← HIL.out, sizeD_cons, hpl, sizeD_nil]; omega)
            have HLL : Hid (L.length ≤ 255) := Lib.hid (by have := sizeD_le L; have := HIL.out; omega)
            have hll := HLL.out
            have HBS := Lib.hid hsh
            clear hrd hp hBp hnl hpl HRD h0 hpp hq
            have HO2 : Hid (∀ w1, Below wr.heap.size wr w1 → OwnT w.heap.size _ L w1) := Lib.hid (fun w1 h1 => World.ownsRow.kept HO.out (below_grown h1) (by
              rcases HO.out.2 with ⟨rfl, _⟩ | ⟨g', cap', cur', rfl, _⟩
              · exact .inl rfl
              · exact .inr (by simp [Value.ownBlock])))
            have HSIZE : Hid (∀ w1, Below wr.heap.size wr w1 → w.heap.size ≤ w1.heap.size) := Lib.hid (fun w1 h1 => Nat.le_trans HB.out.size h1.size)
            go_wp2_with (first
              | (go_at_call 11; (with_reducible refine HPA.out.mono ?_); rintro e w1 ⟨rfl, hb1⟩)
              | (at_builtin; refine wpList_append_src _ rfl (.tmp 39) (.tmp 41) 25 25 rfl w.heap.size 9 i0 _ 16 Try.underlying25 hi hz0 hz1 hz2 rfl _ _ _ rfl ((HO2.out _ hb1).alloc _) _ 1 [.string (bstr p)] rfl (src_str _ _) (by simp only [maxLen]; omega) (by omega) (by have := HSIZE.out _ hb1; simp; omega) ?_; intro v2 w2 hown2 hg2 _))
            go_roundw
            case rel => exact ⟨L ++ [p], i + 1 + q, by simp, HSZ.out, by rw [← HN.out]; exact HBS.out, by unfold OwnT; simpa [encT] using hown2, (HB.out.trans (hb1.mono HB.out.size)).trans (app_below (HO2.out _ hb1) (HSIZE.out _ hb1) hg2), HNX.out⟩
            case measure => simp [RowKit.intOf]; omega
        · have hsh' : (n : Int) < (i : Int) + 1 + (q : Int) := by omega
          have HE : Hid (rd l = none) := Lib.hid (by
            rw [HRD.out, rd_short h0 (by rw [List.length_drop, ← HN.out, ← hq]; omega)]
            rfl)
          clear hrd hcell hdrop HRD HCELL hO hb HX hq h0 HA hg hiL
          go_wp2
          refine bodyPost_ret (v := .tuple #[.slice none 0 0, .int .i64 0, .bool false]) (results_3 (p := 2) (q := 3) (r := 4) rfl _ _ _ _ _ rfl rfl rfl) rfl ?_
          refine ⟨.slice none 0 0, [], 0, false, rfl, OwnT.nil, by simp [sizeD], HB.out, ?_⟩
          rw [HE.out]
    · obtain rfl : i = n := by omega
      have HE : Hid (rd l = none) := Lib.hid (by
        rw [hrd, HN.out, List.drop_length]
        rfl)
      have HO := Lib.hid hO
      have HB := Lib.hid hb
      have HIL := Lib.hid hiL
      have hlt' : ¬ (i : Int) < (i : Int) := by omega
      clear hrd hO hb HX HA hiL
      go_wp2
      refine bodyPost_ret (v := .tuple #[_, .int .i64 ((i : Int) + 1), .bool false]) (results_3 (p := 2) (q := 3) (r := 4) rfl _ _ _ _ _ rfl rfl rfl) rfl ?_
      refine ⟨_, L, (i : Int) + 1, false, rfl, HO.out, by rw [← HIL.out, ← HN.out]; omega, HB.out, ?_⟩
      rw [HE.out]
end Go.Proofs.Ytjiiignbejbiiaa
