/- The walk of the law OctetBack. Conditions: the arguments are values of their types. -/
import Derived.Test.YteglihgoccemmaaBacka
namespace Go.Proofs.Yteglihgoccemmaa
open Go.RowKit
set_option linter.unusedVariables false

/-- What is put for the numbers, and for the texts. -/
def prF (ns : Nat → Nat) (nw : Nat) (ws : Nat → Int) (i : Nat) : List UInt8 := putB (ns i) (wdF nw ws i)
def txF (ts : Nat → ByteArray) (i : Nat) : List UInt8 := putB (ts i).size 2 ++ (ts i).data.toList

def Rel1 (w : World) (m : Nat) (f : Nat → List UInt8) (v i : Value) (wr : World) : Prop :=
  ∃ (j : Nat) (ys : List UInt8) (A : Option Addr) (c : Nat), j ≤ m ∧ i = .int .i64 (j : Int) ∧ v = .slice A ys.length c ∧ Hid (ys = cat f j) ∧ OwnS w wr A c ys ∧ Below w.heap.size w wr
def Rel2 (w : World) (t : Nat) (pre : List UInt8) (ts : Nat → ByteArray) (v i : Value) (wr : World) : Prop :=
  ∃ (j : Nat) (ys : List UInt8) (A : Option Addr) (c : Nat), j ≤ t ∧ i = .int .i64 (j : Int) ∧ v = .slice A ys.length c ∧ Hid (ys = pre ++ cat (txF ts) j) ∧ OwnS w wr A c ys ∧ Below w.heap.size w wr ∧ (∀ q, q < j → (ts q).size ≤ 1024)
def Rel3 (w : World) (g1 g2 m : Nat) (f : Nat → List UInt8) (post bs : List UInt8) (v i : Value) (wr : World) : Prop :=
  ∃ (j : Nat) (o : List UInt8) (A : Option Addr) (c : Nat) (s : St), j ≤ m ∧ i = .int .i64 (j : Int) ∧ v = .slice A o.length c ∧ Three w g1 g2 A c o wr ⟨rest f m j ++ post, false⟩ s ∧ Back bs o s ∧ o.length ≤ 8 * j
def Rel4 (w : World) (g1 g2 t : Nat) (f : Nat → List UInt8) (bs : List UInt8) (K : Nat) (v i : Value) (wr : World) : Prop :=
  ∃ (j : Nat) (o : List UInt8) (A : Option Addr) (c : Nat) (s : St), j ≤ t ∧ i = .int .i64 (j : Int) ∧ v = .slice A o.length c ∧ Three w g1 g2 A c o wr ⟨rest f t j, false⟩ s ∧ Back bs o s ∧ o.length ≤ K + 1026 * j

theorem cat_congr (f g : Nat → List UInt8) (j : Nat) (h : ∀ i, i < j → f i = g i) : cat f j = cat g j := by
  induction j with
  | zero => rfl
  | succ j ih => rw [cat_succ, cat_succ, ih (fun i hi => h i (by omega)), h j (by omega)]
theorem prF_len (ns : Nat → Nat) (nw : Nat) (ws : Nat → Int) (i : Nat) : (prF ns nw ws i).length ≤ 8 := by
  unfold prF
  rw [putB_length]
  exact (wdF_bd nw ws i).2

theorem shift_false (N k : Nat) (h1 : 1 ≤ k) (h8 : k ≤ 8) : ((N : Int) % 256 ^ k != IntKind.u64.wrap ((N : Int) * 2 ^ (64 - 8 * k)) / 2 ^ (64 - 8 * k)) = false := by
  have e := shift_back N k h1 h8
  have e1 : IntKind.u64.wrap ((N : Int) * 2 ^ (64 - 8 * k)) / 2 ^ (64 - 8 * k) = ((N * 2 ^ (64 - 8 * k) % 18446744073709551616 / 2 ^ (64 - 8 * k) : Nat) : Int) := by
    rw [IntKind.wrap_u64, Int.natCast_ediv, Int.natCast_emod, Int.natCast_mul, Int.natCast_pow]
    rfl
  have e2 : (N : Int) % 256 ^ k = ((N % 256 ^ k : Nat) : Int) := by
    rw [Int.natCast_emod, Int.natCast_pow]
    rfl
  rw [e1, e2, e]
  simp
theorem bstr_data (s : ByteArray) : bstr s.data.toList = s := by
  cases s
  simp [bstr]
theorem bstr_size (l : List UInt8) : (bstr l).size = l.length := by simp [bstr, ByteArray.size]
theorem bstr_list (l : List UInt8) : (bstr l).data.toList = l := by simp [bstr]
theorem data_len (s : ByteArray) : s.data.toList.length = s.size := by
  rw [Array.length_toList]
  rfl
theorem numV_lt (s : St) (k : Nat) (h8 : k ≤ 8) : numV s (k : Int) < 18446744073709551616 := by
  unfold numV
  split
  · rw [Int.toNat_natCast]
    exact getN_take_lt _ _ h8
  · omega

set_option maxRecDepth 100000 in
set_option maxHeartbeats 4000000 in
theorem back_near (A0 A1 A2 A3 : Option Addr) (m nw t c0 c1 c2 c3 : Nat) (ns : Nat → Nat) (ws : Nat → Int) (ts : Nat → ByteArray) (bs : List UInt8) (w : World)
    (h0 : ValsAt w w.heap.size A0 m (fun j => .int .u64 (ns j : Int))) (hns : ∀ j, j < m → ns j < 18446744073709551616) (h1 : ValsAt w w.heap.size A1 nw (fun j => .int .i64 (ws j))) (hnw : nw ≤ maxLen)
    (h2 : ValsAt w w.heap.size A2 t (fun j => .string (ts j))) (hts : ∀ j, j < t → (ts j).size ≤ maxLen) (h3 : BAt w w.heap.size A3 bs) (hm : m ≤ 50) (ht : t ≤ 50) (hb : bs.length ≤ 4000) :
    Calls Try.prog 5 #[.slice A0 m c0, .slice A1 nw c1, .slice A2 t c2, .slice A3 bs.length c3] w fun e w' => e = .returned (.bool true) ∧ Below w.heap.size w w' := by
  have d1 : decide (50 < (m : Int)) = false := by simp; omega
  have d2 : decide (50 < (t : Int)) = false := by simp; omega
  have d3 : decide (4000 < (bs.length : Int)) = false := by simp; omega
  have H0 := Lib.hid h0
  have H1 := Lib.hid h1
  have H2 := Lib.hid h2
  have H3 := Lib.hid h3
  have HNS := Lib.hid hns
  have HNW := Lib.hid hnw
  have HTS := Lib.hid hts
  clear h0 h1 h2 h3 hns hnw hts
  go_enter Try.func5, Try.ntmps5
  go_wp2
  go_loopw [9, 40] (Rel1 w m (prF ns nw ws)) (fun _ i _ => m - (intOf i).toNat)
  case atStart => exact ⟨0, [], none, 0, Nat.zero_le _, rfl, rfl, rfl, World.ownsRow_nil _ _ _ _, Below.refl _ _⟩
  case round =>
    obtain ⟨j, ys, A, c, hj, rfl, rfl, hys, hown, hbl⟩ := hrel
    by_cases hlt : j < m
    · obtain ⟨b, off, rfl, hbB, hcell⟩ : ∃ b off, A0 = some ⟨b, off, none⟩ ∧ b < w.heap.size ∧ ∀ j, j < m → w.cell? ⟨b, off + j, none⟩ = some (.int .u64 (ns j : Int)) := by
        rcases H0.out with h | h
        · omega
        · exact h
      have hcj := (hbl.cell (p := ⟨b, off + j, none⟩) hbB).trans (hcell j hlt)
      have hW := width_any A1 nw c1 j ws wr ((H1.out.below hbl).elim .inl fun ⟨b, off, e, hB, hc⟩ => .inr ⟨b, off, e, by have := hbl.size; omega, hc⟩) (by omega) HNW.out
      have hwd := wdF_bd nw ws j
      have hlen : ys.length ≤ 400 := by
        rw [hys.out]
        have := cat_length (prF ns nw ws) 8 (prF_len ns nw ws) j
        omega
      have hP := put_sl hown hbl.size (ns j) (wdF nw ws j) (by omega) (HNS.out j hlt) hwd.1 hwd.2
      have R : ∀ A1 c1 ys' w', Hid (ys' = ys ++ putB (ns j) (wdF nw ws j)) → OwnS w w' A1 c1 ys' → Below wr.heap.size wr w' → Rel1 w m (prF ns nw ws) (.slice A1 ys'.length c1) (.int .i64 ((j : Int) + 1)) w' := fun A1 c1 ys' w' q1 q2 q3 =>
        ⟨j + 1, ys', A1, c1, by omega, by go_num, rfl, by rw [cat_succ, ← hys.out]; exact q1, q2, hbl.trans (q3.mono hbl.size)⟩
      have HW := Lib.hid hW
      have HP := Lib.hid hP
      have HR := Lib.hid R
      clear hcell hbB hW hP R hwd hys hown hbl
      generalize wdF nw ws j = kk at HW HP HR
      generalize ns j = N at hcj HP HR
      go_wp2_with (first
        | (go_at_call 30; refine (HW.out).mono ?_; rintro e w1 ⟨rfl, rfl⟩)
        | (go_at_call 16; refine (HP.out).mono ?_; rintro e w2 ⟨A1', c1', ys', rfl, q1, q2, q3⟩))
      go_roundw
      case rel => exact HR.out _ _ _ _ q1 q2 q3
      case measure => simp [intOf]; omega
    · obtain rfl : m = j := by omega
      have R0 : Rel2 w t (cat (prF ns nw ws) m) ts (.slice A ys.length c) (.int .i64 0) wr := ⟨0, ys, A, c, Nat.zero_le _, rfl, rfl, by rw [show cat (txF ts) 0 = [] from rfl, List.append_nil]; exact hys, hown, hbl, fun q hq => by omega⟩
      have HR0 := Lib.hid R0
      clear hlt hj hys hown hbl R0
      go_wp2
      go_loopw [9, 54] (Rel2 w t (cat (prF ns nw ws) m) ts) (fun _ i _ => t - (intOf i).toNat)
      case atStart => exact HR0.out
      case round =>
        obtain ⟨j, ys, A, c, hj, rfl, rfl, hys, hown, hbl, hall⟩ := hrel
        clear HR0
        have hpre := cat_length (prF ns nw ws) 8 (prF_len ns nw ws) m
        have hlen : ys.length ≤ 400 + 1026 * 50 := by
          rw [hys.out, List.length_append]
          have := cat_length (fun i => if i < j then txF ts i else []) 1026 (fun i => by
            split
            · rename_i hi
              have h1 := hall i hi
              have h2 := putB_length (ts i).size 2
              unfold txF
              rw [List.length_append, h2]
              have h3 : (ts i).data.toList.length = (ts i).size := by rw [Array.length_toList]; rfl
              omega
            · simp) j
          have e : cat (fun i => if i < j then txF ts i else []) j = cat (txF ts) j := cat_congr _ _ j fun i hi => by rw [if_pos hi]
          rw [e] at this
          omega
        by_cases hlt : j < t
        · obtain ⟨b, off, rfl, hbB, hcell⟩ : ∃ b off, A2 = some ⟨b, off, none⟩ ∧ b < w.heap.size ∧ ∀ j, j < t → w.cell? ⟨b, off + j, none⟩ = some (.string (ts j)) := by
            rcases H2.out with h | h
            · omega
            · exact h
          have hcj := (hbl.cell (p := ⟨b, off + j, none⟩) hbB).trans (hcell j hlt)
          have hsz := HTS.out j hlt
          unfold maxLen at hsz
          by_cases hbig : 1024 < (ts j).size
          · have HL := Lib.hid (lives_from hbl)
            clear hcell hbB hys hown hbl hall hlen hpre
            generalize ts j = s at hcj hsz hbig
            go_wp2_with (go_at_call 11; refine (HL.out).mono ?_; rintro e w5 ⟨rfl, hb5⟩)
            go_ret
            exact ⟨rfl, hb5⟩
          · have hT := text_sl hown hbl.size (ts j) (by omega) (by omega)
            have R : ∀ A1 c1 ys' w', Hid (ys' = ys ++ (putB (ts j).size 2 ++ (ts j).data.toList)) → OwnS w w' A1 c1 ys' → Below wr.heap.size wr w' → Rel2 w t (cat (prF ns nw ws) m) ts (.slice A1 ys'.length c1) (.int .i64 ((j : Int) + 1)) w' := fun A1 c1 ys' w' q1 q2 q3 =>
              ⟨j + 1, ys', A1, c1, by omega, by go_num, rfl, by
                have q1' := q1.out
                rw [hys.out] at q1'
                rw [cat_succ, ← List.append_assoc]
                exact q1', q2, hbl.trans (q3.mono hbl.size), fun q hq => by
                  by_cases hq' : q < j
                  · exact hall q hq'
                  · obtain rfl : q = j := by omega
                    omega⟩
            have HT := Lib.hid hT
            have HR := Lib.hid R
            clear hcell hbB hys hown hbl hall hlen hpre hT R
            generalize ts j = s at hcj hsz hbig HT HR
            go_wp2_with (go_at_call 14; refine (HT.out).mono ?_; rintro e w2 ⟨A1', c1', ys', rfl, q1, q2, q3⟩)
            go_roundw
            case rel => exact HR.out _ _ _ _ q1 q2 q3
            case measure => simp [intOf]; omega
        · obtain rfl : t = j := by omega
          have hO := open_any A c ys wr hown.bat (by omega)
          have hO2 := fun W (hb : Below w.heap.size w W) => open_any A3 c3 bs W ((H3.out.below hb).more hb.size) (by omega)
          have HO := Lib.hid hO
          have HO2 := Lib.hid hO2
          have HBL := Lib.hid hbl
          have HALL := Lib.hid hall
          clear hO hO2 hown hlt hj hlen hpre hbl hall
          go_wp2_with (first
            | (go_at_call 18; refine (HO.out).mono ?_; rintro e w1 ⟨g1, rfl, hg1, hr1, hb1⟩; have hbw : Below w.heap.size w w1 := HBL.out.trans (hb1.mono HBL.out.size); have HBW := Lib.hid hbw; have HR1 := Lib.hid hr1; have HG1 := Lib.hid hg1; clear HO hr1 hb1 hbw hg1)
            | (go_at_call 18; refine (HO2.out _ HBW.out).mono ?_; rintro e w2 ⟨g2, rfl, hg2, hr2, hb2⟩))
          have T0 : Rel3 w g1 g2 m (prF ns nw ws) (cat (txF ts) t) bs (.slice none 0 0) (.int .i64 0) w2 := by
            refine ⟨0, [], none, 0, ⟨bs, false⟩, Nat.zero_le _, rfl, rfl, ⟨⟨?_, hr2, HBW.out.trans (hb2.mono HBW.out.size), Nat.le_trans HBL.out.size HG1.out, Nat.le_trans HBW.out.size hg2, ?_⟩, World.ownsRow_nil _ _ _ _⟩, fun _ => rfl, Nat.zero_le _⟩
            · rw [rest_all, ← hys.out]
              exact HR1.out.below hb2 (Nat.le_refl _)
            · have := HR1.out.lt
              omega
          have HT0 := Lib.hid T0
          clear T0 hr2 hb2 hg2 HR1 HBW HG1 HO2 HBL hys
          go_loopw [18, 84] (Rel3 w g1 g2 m (prF ns nw ws) (cat (txF ts) t) bs) (fun _ i _ => m - (intOf i).toNat)
          case atStart => exact HT0.out
          case round =>
            obtain ⟨j, o, A, c, st, hj, rfl, rfl, h3w, hback, hol⟩ := hrel
            clear HT0
            by_cases hlt : j < m
            · obtain ⟨b, off, rfl, hbB, hcell⟩ : ∃ b off, A0 = some ⟨b, off, none⟩ ∧ b < w.heap.size ∧ ∀ j, j < m → w.cell? ⟨b, off + j, none⟩ = some (.int .u64 (ns j : Int)) := by
                rcases H0.out with h | h
                · omega
                · exact h
              have hbl : Below w.heap.size w wr := h3w.1.2.2.1
              have hcj := (hbl.cell (p := ⟨b, off + j, none⟩) hbB).trans (hcell j hlt)
              have hW := width_any A1 nw c1 j ws wr ((H1.out.below hbl).elim .inl fun ⟨b, off, e, hB, hc⟩ => .inr ⟨b, off, e, by have := hbl.size; omega, hc⟩) (by omega) HNW.out
              have hwd := wdF_bd nw ws j
              have hNj := HNS.out j hlt
              rw [rest_step _ _ _ hlt, List.append_assoc] at h3w
              unfold prF at h3w
              have hnb := num_back (ns j) (wdF nw ws j) (rest (prF ns nw ws) m (j + 1) ++ cat (txF ts) t) hwd.1 hwd.2
              have hL := num_l h3w (wdF nw ws j : Int) (by omega)
              unfold prF at hnb
              rw [hnb.1, hnb.2] at hL
              have HW := Lib.hid hW
              have HL := Lib.hid hL
              have HB := Lib.hid hback
              have hsf := shift_false (ns j) (wdF nw ws j) hwd.1 hwd.2
              have hP : ∀ W s1 s2, Three w g1 g2 A c o W s1 s2 → Calls Try.prog 16 #[.slice A o.length c, .int .u64 (numV st (wdF nw ws j : Int) : Int), .int .i64 (wdF nw ws j : Int)] W (PutS w W (o ++ putB (numV st (wdF nw ws j : Int)) (wdF nw ws j))) := fun W s1 s2 q =>
                put_sl q.2 q.1.2.2.1.size _ _ (by omega) (numV_lt st _ hwd.2) hwd.1 hwd.2
              have hbn := back_num bs o st (wdF nw ws j) hback
              have R : ∀ W A1 c1 o' w', Two w g1 g2 W ⟨rest (prF ns nw ws) m (j + 1) ++ cat (txF ts) t, false⟩ (numS st (wdF nw ws j : Int)) → Hid (o' = o ++ putB (numV st (wdF nw ws j : Int)) (wdF nw ws j)) → OwnS w w' A1 c1 o' → Below W.heap.size W w' →
                  Rel3 w g1 g2 m (prF ns nw ws) (cat (txF ts) t) bs (.slice A1 o'.length c1) (.int .i64 ((j : Int) + 1)) w' := fun W A1 c1 o' w' q0 q1 q2 q3 =>
                ⟨j + 1, o', A1, c1, numS st (wdF nw ws j : Int), by omega, by go_num, rfl, ⟨q0.below q3 (Nat.le_refl _), q2⟩, by rw [q1.out]; exact hbn, by rw [q1.out, List.length_append, putB_length]; omega⟩
              have HP := Lib.hid hP
              have HR := Lib.hid R
              clear hcell hbB hW hnb hL h3w hback hbl hP hbn R
              generalize wdF nw ws j = kk at HW HL hwd hsf HP HR
              generalize ns j = N at hcj HL hNj hsf
              unfold prF at HR
              go_wp2_with (first
                | (go_at_call 30; refine (HW.out).mono ?_; rintro e w1 ⟨rfl, rfl⟩)
                | (go_at_call 19; refine (HL.out).mono ?_; rintro e w2 ⟨rfl, q1⟩; have Q1 := Lib.hid q1; clear q1 HL)
                | (go_at_call 19; refine (num_r Q1.out (kk : Int) (by omega)).mono ?_; rintro e w3 ⟨rfl, q2⟩; have Q2 := Lib.hid q2; clear q2)
                | (go_at_call 16; refine (HP.out _ _ _ Q2.out).mono ?_; rintro e w4 ⟨A1', c1', o', rfl, r1, r2, r3⟩))
              go_roundw
              case rel =>
                unfold prF
                exact HR.out _ _ _ _ _ Q2.out.1 r1 r2 r3
              case measure => simp [intOf]; omega
            · obtain rfl : m = j := by omega
              have T0 : Rel4 w g1 g2 t (txF ts) bs 400 (.slice A o.length c) (.int .i64 0) wr := by
                refine ⟨0, o, A, c, st, Nat.zero_le _, rfl, rfl, ?_, hback, by omega⟩
                rw [rest_end, List.nil_append, ← rest_all] at h3w
                exact h3w
              have HT0 := Lib.hid T0
              clear T0 h3w hback hol hlt hj
              go_wp2
              go_loopw [18, 116] (Rel4 w g1 g2 t (txF ts) bs 400) (fun _ i _ => t - (intOf i).toNat)
              case atStart => exact HT0.out
              case round =>
                obtain ⟨j, o, A, c, st, hj, rfl, rfl, h3w, hback, hol⟩ := hrel
                clear HT0
                by_cases hlt : j < t
                · obtain ⟨b, off, rfl, hbB, hcell⟩ : ∃ b off, A2 = some ⟨b, off, none⟩ ∧ b < w.heap.size ∧ ∀ j, j < t → w.cell? ⟨b, off + j, none⟩ = some (.string (ts j)) := by
                    rcases H2.out with h | h
                    · omega
                    · exact h
                  have hbl : Below w.heap.size w wr := h3w.1.2.2.1
                  have hcj := (hbl.cell (p := ⟨b, off + j, none⟩) hbB).trans (hcell j hlt)
                  have hsz := HALL.out j hlt
                  rw [rest_step _ _ _ hlt] at h3w
                  have hL : Calls Try.prog 23 #[.pointer (some ⟨g1, 0, none⟩), .int .i64 1024] wr fun e w' => e = .returned (.string (ts j)) ∧ Three w g1 g2 A c o w' ⟨rest (txF ts) t (j + 1), false⟩ st := by
                    have hL := txt_l h3w 1024 (by omega)
                    have htb := txt_back (ts j).data.toList (rest (txF ts) t (j + 1)) (by rw [data_len]; exact hsz)
                    rw [data_len] at htb
                    unfold txF at hL htb
                    rw [htb.1, htb.2, bstr_data] at hL
                    exact hL
                  have hvl := txtV_le st
                  have hT : ∀ W s1 s2, Three w g1 g2 A c o W s1 s2 → Calls Try.prog 14 #[.slice A o.length c, .string (bstr (txtV st 1024))] W (TextS w W (o ++ (putB (txtV st 1024).length 2 ++ txtV st 1024))) := fun W s1 s2 q => by
                    have := text_sl q.2 q.1.2.2.1.size (bstr (txtV st 1024)) (by omega) (by rw [bstr_size]; exact hvl)
                    rw [bstr_size, bstr_list] at this
                    exact this
                  have hbn := back_txt bs o st hback
                  have R : ∀ W A1 c1 o' w', Two w g1 g2 W ⟨rest (txF ts) t (j + 1), false⟩ (txtS st 1024) → Hid (o' = o ++ (putB (txtV st 1024).length 2 ++ txtV st 1024)) → OwnS w w' A1 c1 o' → Below W.heap.size W w' →
                      Rel4 w g1 g2 t (txF ts) bs 400 (.slice A1 o'.length c1) (.int .i64 ((j : Int) + 1)) w' := fun W A1 c1 o' w' q0 q1 q2 q3 =>
                    ⟨j + 1, o', A1, c1, txtS st 1024, by omega, by go_num, rfl, ⟨q0.below q3 (Nat.le_refl _), q2⟩, by rw [q1.out]; exact hbn, by
                      have hp := putB_length (txtV st 1024).length 2
                      rw [q1.out, List.length_append, List.length_append, hp]
                      omega⟩
                  have HL := Lib.hid hL
                  have HT := Lib.hid hT
                  have HR := Lib.hid R
                  clear hcell hbB hbl h3w hback hL hT hbn R hvl hol
                  generalize ts j = s at hcj hsz HL
                  go_wp2_with (first
                    | (go_at_call 23; refine (HL.out).mono ?_; rintro e w2 ⟨rfl, q1⟩; have Q1 := Lib.hid q1; clear q1 HL)
                    | (go_at_call 23; refine (txt_r Q1.out 1024 (by omega)).mono ?_; rintro e w3 ⟨rfl, q2⟩; have Q2 := Lib.hid q2; clear q2)
                    | (go_at_call 14; refine (HT.out _ _ _ Q2.out).mono ?_; rintro e w4 ⟨A1', c1', o', rfl, r1, r2, r3⟩))
                  go_roundw
                  case rel => exact HR.out _ _ _ _ _ Q2.out.1 r1 r2 r3
                  case measure => simp [intOf]; omega
                · obtain rfl : t = j := by omega
                  rw [rest_end] at h3w
                  have hD1 : Calls Try.prog 28 #[.pointer (some ⟨g1, 0, none⟩)] wr fun e w' => e = .returned (.int .i64 0) ∧ wr = w' := done_any h3w.1.1
                  have hD2 := done_any h3w.1.2.1
                  have hbl : Below w.heap.size w wr := h3w.1.2.2.1
                  have co : (convert 22 9 (.slice A o.length c)).run Try.prog wr = .ok (.string (bstr o)) wr := conv_own h3w.2
                  have cb : (convert 22 9 (.slice A3 bs.length c3)).run Try.prog wr = .ok (.string (bstr bs)) wr := run_convert_bat 22 9 5 c3 Try.underlying22 Try.underlying5 Try.underlying9 (H3.out.below hbl)
                  have HL := Lib.hid (lives_from hbl)
                  have HD1 := Lib.hid hD1
                  have HD2 := Lib.hid hD2
                  by_cases hd : doneE st = 0
                  · have := back_done bs o st hback hd
                    subst this
                    rw [hd] at HD2
                    clear hD1 hD2 hbl h3w hback hd hol
                    go_wp2_with (first
                      | (go_at_call 28; refine (HD1.out).mono ?_; rintro e w1 ⟨rfl, rfl⟩; clear HD1)
                      | (go_at_call 28; refine (HD2.out).mono ?_; rintro e w1 ⟨rfl, rfl⟩)
                      | (go_at_call 11; refine (HL.out).mono ?_; rintro e w5 ⟨rfl, hb5⟩))
                    go_ret
                    exact ⟨rfl, hb5⟩
                  · have hd' : (doneE st != 0) = true := by simpa using hd
                    clear hD1 hD2 hbl h3w hback hd hol co cb
                    generalize doneE st = de at HD2 hd'
                    go_wp2_with (first
                      | (go_at_call 28; refine (HD1.out).mono ?_; rintro e w1 ⟨rfl, rfl⟩; clear HD1)
                      | (go_at_call 28; refine (HD2.out).mono ?_; rintro e w1 ⟨rfl, rfl⟩)
                      | (go_at_call 11; refine (HL.out).mono ?_; rintro e w5 ⟨rfl, hb5⟩))
                    go_ret
                    exact ⟨rfl, hb5⟩

set_option maxRecDepth 100000 in
theorem back_far (A0 A1 A2 A3 : Option Addr) (m nw t c0 c1 c2 c3 l : Nat) (w : World) (q1 : m ≤ maxLen) (q2 : t ≤ maxLen) (q3 : l ≤ maxLen) (h : 50 < m ∨ 50 < t ∨ 4000 < l) :
    Calls Try.prog 5 #[.slice A0 m c0, .slice A1 nw c1, .slice A2 t c2, .slice A3 l c3] w fun e w' => e = .returned (.bool true) ∧ Below w.heap.size w w' := by
  unfold maxLen at q1 q2 q3
  by_cases h1 : 50 < m
  · clear h
    go_enter Try.func5, Try.ntmps5
    go_wp2_with (go_at_call 11; refine (lives_any _).mono ?_; rintro e w1 ⟨rfl, hb1⟩)
    go_ret
    exact ⟨rfl, hb1⟩
  · by_cases h2 : 50 < t
    · clear h
      go_enter Try.func5, Try.ntmps5
      go_wp2_with (go_at_call 11; refine (lives_any _).mono ?_; rintro e w1 ⟨rfl, hb1⟩)
      go_ret
      exact ⟨rfl, hb1⟩
    · have h3 : 4000 < l := by omega
      clear h
      go_enter Try.func5, Try.ntmps5
      go_wp2_with (go_at_call 11; refine (lives_any _).mono ?_; rintro e w1 ⟨rfl, hb1⟩)
      go_ret
      exact ⟨rfl, hb1⟩
end Go.Proofs.Yteglihgoccemmaa
