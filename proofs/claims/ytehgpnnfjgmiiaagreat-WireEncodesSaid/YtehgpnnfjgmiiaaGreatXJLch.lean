/- Contracts of Fold and Same of package label. Conditions: at most 100,000 bytes. Contracts of Same and Under of package label. Conditions: at most 100,000 bytes. Contract of read of package label. Conditions: at most 255 bytes. Contracts of letter and Part of signpostref09. No condition. Contract of Parts of signpostref09. Conditions: at most 100,000 bytes. -/
import Derived.Test.YtehgpnnfjgmiiaaGreatProg
import Derived.Lib.ConvBytes
import Derived.Test.YtehgpnnfjgmiiaaGreatXJLcb
import Derived.Test.YtehgpnnfjgmiiaaGreatXJPWords
section
namespace Go.Proofs.YtehgpnnfjgmiiaaGreat
open Go.Shelf Go.RowKit Go.Lib Go.Great
set_option maxRecDepth 100000
set_option maxHeartbeats 1000000
/-- The bytes stand in the block g, and may be written. -/
structure BytesIn (w : World) (g : Nat) (ys : List UInt8) (W : World) : Prop where
  cell : ∀ j (h : j < ys.length), W.cell? ⟨g, j, none⟩ = some (.int .u8 (ys[j].toNat : Int))
  free : ∀ j, j < ys.length → W.frozen? ⟨g, j, none⟩ = false
  bel : Below w.heap.size w W
  lt : g < W.heap.size
theorem BytesIn.set {w W : World} {g i : Nat} {ys : List UInt8} (h : BytesIn w g ys W) (hg : w.heap.size ≤ g) (hi : i < ys.length) (c : UInt8) : BytesIn w g (ys.set i c) (W.setCell ⟨g, i, none⟩ (.int .u8 (c.toNat : Int))) :=
  ⟨fun j hj => by
    rw [List.length_set] at hj
    by_cases e : i = j
    · subst e
      rw [World.cell?_setCell_same' _ _ _ (by rw [h.cell i hi]; rfl)]
      simp
    · rw [World.cell?_setCell_other _ ⟨g, i, none⟩ ⟨g, j, none⟩ _ (fun he => e (by injection he)), h.cell j hj]
      simp [e],
   fun j hj => by rw [World.frozen?_setCell]; exact h.free j (by simpa using hj), h.bel.setCell (p := ⟨g, i, none⟩) hg _, by rw [World.size_setCell]; exact h.lt⟩
theorem BytesIn.bat {w W : World} {g : Nat} {ys : List UInt8} (h : BytesIn w g ys W) : BAt W W.heap.size (some ⟨g, 0, none⟩) ys :=
  .inr ⟨g, 0, rfl, h.lt, fun j hj => by rw [Nat.zero_add]; exact h.cell j hj⟩
theorem str_in (xs : List UInt8) (w : World) : ∃ c W', (convert 9 31 (.string (bstr xs))).run Tryz.prog w = .ok (.slice (some ⟨w.heap.size, 0, none⟩) xs.length c) W' ∧ BytesIn w w.heap.size xs W' ∧ xs.length ≤ c := by
  have hr := Lib.run_convert_string_bytes (P := Tryz.prog) w 9 31 5 (bstr xs) Tryz.underlying9 Tryz.underlying31 Tryz.underlying5
  refine ⟨_, _, hr, ⟨fun j hj => ?_, fun j hj => ?_, ?_, ?_⟩, ?_⟩
  · rw [Lib.bytesWorld_cell w 5 (bstr xs) j hj]
    simp [bstr, List.getElem?_eq_getElem hj]
  · have hz := bstr_size xs
    simp [World.frozen?, bytesWorld_at_new, bytesCells]
    omega
  · refine ⟨rfl, rfl, rfl, by rw [Lib.bytesWorld_size]; omega, fun k hk => Lib.bytesWorld_at_old w 5 (bstr xs) k hk⟩
  · rw [Lib.bytesWorld_size]; omega
  · exact grownCap_ge w xs.length 0 5
def FoldR (s : List UInt8) (w : World) (i : Value) (wr : World) : Prop := ∃ k : Nat, i = .int .i64 (k : Int) ∧ k ≤ s.length ∧ BytesIn w w.heap.size (foldL (s.take k) ++ s.drop k) wr
theorem foldC_eq (c : UInt8) : (65 ≤ c.toNat ∧ c.toNat ≤ 90 → ((c.toNat : Int) - 65 + 97) % 256 = ((foldC c).toNat : Int)) ∧ (¬ (65 ≤ c.toNat ∧ c.toNat ≤ 90) → foldC c = c) := by
  have h8 := c.toNat_lt
  refine ⟨fun h => ?_, fun h => by rw [foldC, if_neg h]⟩
  have e : (foldC c).toNat = c.toNat + 32 := by
    rw [foldC, if_pos h, UInt8.toNat_add]
    simp
    omega
  rw [e]
  omega
theorem fold_step (s : List UInt8) (k : Nat) (hk : k < s.length) : (foldL (s.take k) ++ s.drop k).set k (foldC s[k]) = foldL (s.take (k + 1)) ++ s.drop (k + 1) := by
  have hl : (foldL (s.take k)).length = k := by rw [foldL_length, List.length_take]; omega
  rw [List.set_append_right _ _ (by omega), hl, Nat.sub_self, List.drop_eq_getElem_cons hk, List.set_cons_zero, List.take_succ_eq_append_getElem hk, show foldL (s.take k ++ [s[k]]) = foldL (s.take k) ++ [foldC s[k]] by simp only [foldL, List.map_append, List.map_cons, List.map_nil], List.append_assoc]
  rfl
theorem fold_at (s : List UInt8) (k : Nat) (hk : k < s.length) : (foldL (s.take k) ++ s.drop k)[k]'(by simp [foldL_length]; omega) = s[k] := by
  have hl : (foldL (s.take k)).length = k := by rw [foldL_length, List.length_take]; omega
  rw [List.getElem_append_right (by omega)]
  simp [hl]
theorem fold_any (s : List UInt8) (hs : s.length ≤ 100000) (w : World) : Calls Tryz.prog 104 #[.string (bstr s)] w fun e w' => e = .returned (.string (bstr (foldL s))) ∧ Below w.heap.size w w' := by
  obtain ⟨c, W1, hcv, hB1, hc⟩ := str_in s w
  have R0 : Hid (FoldR s w (.int .i64 0) W1) := Lib.hid ⟨0, rfl, by omega, by simpa [foldL] using hB1⟩
  have HCONV : Hid (∀ W, BytesIn w w.heap.size (foldL s) W → (convert 31 9 (.slice (some ⟨w.heap.size, 0, none⟩) s.length c)).run Tryz.prog W = .ok (.string (bstr (foldL s))) W) := Lib.hid (fun W h => by
    have := run_convert_bat (P := Tryz.prog) 31 9 5 c Tryz.underlying31 Tryz.underlying5 Tryz.underlying9 h.bat
    rwa [foldL_length] at this)
  have HCAP := Lib.hid (fun c W => cap_any c W)
  obtain ⟨n, hn⟩ : ∃ n, n = s.length := ⟨_, rfl⟩
  have HN := Lib.hid hn
  rw [← hn] at hcv HCONV hs hc
  clear hB1 hn
  generalize hS : bstr s = S at *
  generalize hT : bstr (foldL s) = T at *
  clear hS hT
  go_enter Tryz.func104, Tryz.ntmps104
  go_upto_region 3 with fail
  go_loopw [10] (FoldR s w) (fun i _ => n - (RowKit.intOf i).toNat)
  case atStart => exact R0.out
  case round =>
    obtain ⟨k, rfl, hk, hB⟩ := hrel
    rw [← HN.out] at hk
    clear R0 hcv
    by_cases hlt : k < n
    · have hlt' : (k : Int) < (n : Int) := by omega
      have hls : k < s.length := by rw [← HN.out]; exact hlt
      have hll : k < (foldL (s.take k) ++ s.drop k).length := by rw [List.length_append, foldL_length, List.length_take, List.length_drop]; omega
      have hget := hB.cell k hll
      rw [fold_at s k hls] at hget
      have hfree := hB.free k hll
      have HB2 := Lib.hid (hB.set (Nat.le_refl _) hll (foldC s[k]))
      rw [fold_step s k hls] at HB2
      have HSAME : Hid (foldC s[k] = s[k] → BytesIn w w.heap.size (foldL (s.take (k + 1)) ++ s.drop (k + 1)) wr) := Lib.hid (fun e => by
        rw [← fold_step s k hls, e]
        have : (foldL (s.take k) ++ s.drop k).set k s[k] = foldL (s.take k) ++ s.drop k := by
          rw [← fold_at s k hls, List.set_getElem_self]
        rw [this]
        exact hB)
      have HQ := Lib.hid (foldC_eq s[k])
      have hbyte := s[k].toNat_lt
      have HK1 : Hid (k + 1 ≤ s.length) := Lib.hid hls
      clear hB hll hk
      generalize s[k] = ch at *
      clear hls
      cases hcb : capB ch
      · have HF : Hid (foldC ch = ch) := Lib.hid (HQ.out.2 (fun h => by simp [capB] at hcb; omega))
        have HCB := Lib.hid hcb
        clear hcb
        go_wp2_with (go_at_call 122; (with_reducible refine (HCAP.out _ _).mono ?_); rw [HCB.out]; rintro e w1 ⟨rfl, rfl⟩)
        go_roundw
        case rel => exact ⟨k + 1, by simp, HK1.out, HSAME.out HF.out⟩
        case measure => simp [RowKit.intOf]; omega
      · have hwr := HQ.out.1 (by simp [capB] at hcb; omega)
        have HCB := Lib.hid hcb
        clear hcb
        go_wp2_with (go_at_call 122; (with_reducible refine (HCAP.out _ _).mono ?_); rw [HCB.out]; rintro e w1 ⟨rfl, rfl⟩)
        go_roundw
        case rel => exact ⟨k + 1, by simp, HK1.out, HB2.out⟩
        case measure => simp [RowKit.intOf]; omega
    · obtain rfl : k = n := by omega
      have hB' : BytesIn w w.heap.size (foldL s) wr := by
        rw [HN.out, List.take_length, List.drop_length, List.append_nil] at hB
        exact hB
      have HBW := Lib.hid hB'.bel
      have hcv2 := HCONV.out wr hB'
      clear hB hB' HCONV
      go_wp2
      go_ret
      exact ⟨rfl, HBW.out⟩
end Go.Proofs.YtehgpnnfjgmiiaaGreat
end
section
namespace Go.Proofs.YtehgpnnfjgmiiaaGreat
open Go.Shelf Go.RowKit Go.Lib Go.Great
set_option maxRecDepth 100000
set_option maxHeartbeats 1000000
theorem bstr_list (a : List UInt8) : (bstr a).toList = a := by rw [ByteArray.toList_eq]; simp [bstr]
/-- The address leads to the texts L, in a block below B. -/
def SAt (w : World) (B : Nat) (A : Option Addr) (L : List (List UInt8)) : Prop := L = [] ∨ ∃ g off, A = some ⟨g, off, none⟩ ∧ g < B ∧ ∀ j (h : j < L.length), w.cell? ⟨g, off + j, none⟩ = some (encT L[j])
theorem SAt.below {w w' : World} {B : Nat} {A : Option Addr} {L : List (List UInt8)} (h : SAt w B A L) (hb : Below B w w') : SAt w' B A L := by
  rcases h with h | ⟨g, off, e, hg, hr⟩
  · exact .inl h
  · exact .inr ⟨g, off, e, hg, fun j hj => by rw [hb.cell (p := ⟨g, off + j, none⟩) hg]; exact hr j hj⟩
theorem SAt.more {w : World} {B B' : Nat} {A : Option Addr} {L : List (List UInt8)} (h : SAt w B A L) (hB : B ≤ B') : SAt w B' A L := by
  rcases h with h | ⟨g, off, e, hg, hr⟩
  · exact .inl h
  · exact .inr ⟨g, off, e, by omega, hr⟩
theorem OwnT.at_ {w : World} {base : Nat} {v : Value} {L : List (List UInt8)} (h : OwnT base v L w) : ∃ A c, v = .slice A L.length c ∧ L.length ≤ c ∧ SAt w w.heap.size A L := by
  unfold OwnT at h
  rcases h.2 with ⟨hv, hn⟩ | ⟨g, cap, cur, hv, hb, hg, hn, _⟩
  · exact ⟨none, 0, by rw [hv, hn], by omega, .inl (List.eq_nil_of_length_eq_zero hn)⟩
  · exact ⟨some ⟨g, 0, none⟩, cap, hv, hn, .inr ⟨g, 0, rfl, (Array.getElem?_eq_some_iff.1 hg).1, fun j hj => by
      subst hv
      rw [Nat.zero_add, h.cellAt j (by omega)]
      simp [hj]⟩⟩
theorem goodp_any (s : List UInt8) (w : World) : Calls Tryz.prog 103 #[.string (bstr s)] w fun e w' => e = .returned (.bool (goodL s)) ∧ Below w.heap.size w w' := by
  unfold goodL
  by_cases h : s.length ≤ 253
  · rw [decide_eq_true h, Bool.and_true]
    exact good_short s h w
  · rw [decide_eq_false h, Bool.and_false]
    exact good_long s (by omega) w
end Go.Proofs.YtehgpnnfjgmiiaaGreat
end
section
namespace Go.Proofs.YtehgpnnfjgmiiaaGreat
open Go.Shelf Go.RowKit Go.Lib Go.Great
set_option maxRecDepth 100000
set_option maxHeartbeats 1000000
theorem info9 : (Tryz.prog.info? 9).map (fun i => (i.zero, i.size, i.bytes)) = some (some (.string ⟨#[]⟩), 1, 16) := by kernel_rfl
theorem src_str (p : ByteArray) (w : World) : Src Tryz.prog 1 134 (.slice (some ⟨w.heap.size, 0, none⟩) 1 1) 1 [.string p] (w.alloc (.cells #[.string p] 9)) := by
  refine Src.ofSlice _ Tryz.underlying134 _ 1 1 [.string p] rfl (fun j u hu => ?_) (by simp [Value.oneCell'])
  match j, hu with
  | 0, hu =>
    simp at hu
    subst hu
    simp [Addr.add]
theorem app_below {W w1 : World} {n₀ : Nat} {e : TypeId} {size : Nat} {v : Value} {k : Nat} {xs : List Value} {tmp : Obj} (hrow : W.ownsRow n₀ e size v k xs) (hn₀ : n₀ ≤ W.heap.size) (hgrow : (W.alloc tmp).grownBy w1 v.ownBlock) : Below n₀ W w1 := by
  refine ((Below.refl n₀ W).alloc hn₀ tmp).grown hgrow (by simp; omega) fun j ej => ?_
  rcases hrow.2 with ⟨rfl, _⟩ | ⟨g, cap, cur, rfl, hb, _, _⟩
  · simp [Value.ownBlock] at ej
  · obtain rfl : g = j := by simpa [Value.ownBlock] using ej
    exact hb
theorem OwnT.nil {B : Nat} {w : World} : OwnT B (.slice none 0 0) [] w := ⟨rfl, .inl ⟨rfl, rfl⟩⟩
end Go.Proofs.YtehgpnnfjgmiiaaGreat
end
section
namespace Go.Proofs.YtehgpnnfjgmiiaaGreat
open Go.Shelf Go.RowKit Go.Lib Go.Great
set_option maxRecDepth 100000
set_option maxHeartbeats 1000000
theorem rlet_any (c : UInt8) (w : World) : Calls Tryz.prog 123 #[.int .u8 (c.toNat : Int)] w fun e w' => e = .returned (.bool (letB c)) ∧ w' = w := by
  unfold letB capB
  generalize c.toNat = n
  by_cases h1 : 97 ≤ n
  · have h1' : (97 : Int) ≤ (n : Int) := by omega
    by_cases h2 : n ≤ 122
    · have h2' : (n : Int) ≤ 122 := by omega
      go_enter Tryz.func123, Tryz.ntmps123
      go_wp2
      go_ret
      simp [h1, h2]
    · have h2' : ¬ (n : Int) ≤ 122 := by omega
      have h3' : (65 : Int) ≤ (n : Int) := by omega
      have h4' : ¬ (n : Int) ≤ 90 := by omega
      go_enter Tryz.func123, Tryz.ntmps123
      go_wp2
      go_ret
      simp [h2]
      omega
  · have h1' : ¬ (97 : Int) ≤ (n : Int) := by omega
    by_cases h3 : 65 ≤ n
    · have h3' : (65 : Int) ≤ (n : Int) := by omega
      by_cases h4 : n ≤ 90
      · have h4' : (n : Int) ≤ 90 := by omega
        go_enter Tryz.func123, Tryz.ntmps123
        go_wp2
        go_ret
        simp [h3, h4]
      · have h4' : ¬ (n : Int) ≤ 90 := by omega
        go_enter Tryz.func123, Tryz.ntmps123
        go_wp2
        go_ret
        simp [h1, h4]
    · have h3' : ¬ (65 : Int) ≤ (n : Int) := by omega
      go_enter Tryz.func123, Tryz.ntmps123
      go_wp2
      go_ret
      simp [h1, h3]
theorem nameB_eq (c : UInt8) : nameB c = (letB c || digitB c || c.toNat == 45 || c.toNat == 95) := by
  rw [Bool.eq_iff_iff]
  simp only [nameB, letB, capB, digitB, Bool.or_eq_true, Bool.and_eq_true, decide_eq_true_iff, beq_iff_eq]
def namesTo (s : List UInt8) (i : Nat) : Prop := ∀ j, j < i → nameB s[j]! = true
def RPartR (s : List UInt8) (w : World) (i : Value) (wr : World) : Prop := ∃ k : Nat, i = .int .i64 (k : Int) ∧ k ≤ s.length ∧ namesTo s k ∧ Below w.heap.size w wr
theorem rpart_any (s : List UInt8) (hs : s.length ≤ 100000) (w : World) : Calls Tryz.prog 107 #[.string (bstr s)] w fun e w' => e = .returned (.bool (partL s)) ∧ Below w.heap.size w w' := by
  have hsz := bstr_size s
  have HB := Lib.hid (bstr_get s)
  have R0 : Hid (RPartR s w (.int .i64 0) w) := Lib.hid ⟨0, rfl, by omega, fun j hj => absurd hj (by omega), Below.refl _ _⟩
  have HPL := Lib.hid (partL_iff s)
  have HM : Hid (namesTo s s.length ↔ ∀ c ∈ s, nameB c = true) := Lib.hid (by
    constructor
    · intro h c hc
      obtain ⟨i, hi, rfl⟩ := List.mem_iff_getElem.1 hc
      have := h i hi
      rwa [getElem!_pos s i hi] at this
    · intro h j hj
      rw [getElem!_pos s j hj]
      exact h _ (List.getElem_mem hj))
  obtain ⟨n, hn⟩ : ∃ n, n = s.length := ⟨_, rfl⟩
  rw [← hn] at hsz hs HPL HM
  have HN := Lib.hid hn
  clear hn
  generalize bstr s = B at *
  go_enter Tryz.func107, Tryz.ntmps107
  go_upto_region 2 with fail
  go_loopw [3] (RPartR s w) (fun i _ => n - (RowKit.intOf i).toNat)
  case atStart => exact R0.out
  case round =>
    obtain ⟨k, rfl, hk, hF, hb⟩ := hrel
    rw [← HN.out] at hk
    clear R0
    have HF := Lib.hid hF
    have HBW := Lib.hid hb
    clear hF hb
    by_cases hlt : k < n
    · have hlt' : (k : Int) < (n : Int) := by omega
      have hget := HB.out k (by omega)
      have HL := Lib.hid (fun W => rlet_any s[k]! W)
      have HNEXT : Hid (nameB s[k]! = true → RPartR s w (.int .i64 ((k : Int) + 1)) wr) := Lib.hid (fun h => ⟨k + 1, by simp, by rw [← HN.out]; omega, fun j hj => by
        by_cases e : j = k
        · subst e; exact h
        · exact HF.out j (by omega), HBW.out⟩)
      have HSTOP : Hid (nameB s[k]! = false → partL s = false) := Lib.hid (fun h => by
        rw [← Bool.not_eq_true]
        intro hp
        have := HM.out.2 (HPL.out.1 hp).2.1 k hlt
        rw [h] at this
        cases this)
      rw [nameB_eq] at HNEXT HSTOP
      clear HB HF HPL HM
      generalize s[k]! = ch at *
      unfold digitB at HNEXT HSTOP
      generalize letB ch = q at *
      have h8 := ch.toNat_lt
      obtain ⟨m, hm⟩ : ∃ m, ch.toNat = m := ⟨_, rfl⟩
      rw [hm] at HL HNEXT HSTOP h8
      cases q
      · by_cases d1 : 48 ≤ m
        · have d1' : (48 : Int) ≤ (m : Int) := by omega
          by_cases d2 : m ≤ 57
          · have d2' : (m : Int) ≤ 57 := by omega
            go_wp2_with (go_at_call 123; (with_reducible refine (HL.out _).mono ?_); rintro e w1 ⟨rfl, rfl⟩)
            go_roundw
            case rel => exact HNEXT.out (by simp; try omega)
            case measure => simp [RowKit.intOf]; omega
          · have d2' : ¬ (m : Int) ≤ 57 := by omega
            have d2e : decide ((m : Int) ≤ 57) = false := by simp; omega
            by_cases e45 : m = 45
            · have e45b : ((m : Int) == 45) = true := by simp; omega
              have e45c : ((m : Int) != 45) = false := by simp; omega
              have E45 := Lib.hid e45
              clear e45
              go_wp2_with (go_at_call 123; (with_reducible refine (HL.out _).mono ?_); rintro e w1 ⟨rfl, rfl⟩)
              go_roundw
              case rel => exact HNEXT.out (by have := E45.out; simp; try omega)
              case measure => simp [RowKit.intOf]; omega
            · have e45' : ((m : Int) == 45) = false := by simp; omega
              have e45c : ((m : Int) != 45) = true := by simp; omega
              have e45d : ¬ (m : Int) = 45 := by omega
              by_cases e95 : m = 95
              · have e95b : ((m : Int) == 95) = true := by simp; omega
                have e95c : ((m : Int) != 95) = false := by simp; omega
                have E95 := Lib.hid e95
                clear e95
                go_wp2_with (go_at_call 123; (with_reducible refine (HL.out _).mono ?_); rintro e w1 ⟨rfl, rfl⟩)
                go_roundw
                case rel => exact HNEXT.out (by have := E95.out; simp; try omega)
                case measure => simp [RowKit.intOf]; omega
              · have e95' : ((m : Int) == 95) = false := by simp; omega
                have e95c : ((m : Int) != 95) = true := by simp; omega
                have e95d : ¬ (m : Int) = 95 := by omega
                go_wp2_with (go_at_call 123; (with_reducible refine (HL.out _).mono ?_); rintro e w1 ⟨rfl, rfl⟩)
                go_ret
                have hno := HSTOP.out (by simp; omega)
                exact ⟨by simp [hno], HBW.out⟩
        · have d1' : ¬ (48 : Int) ≤ (m : Int) := by omega
          by_cases e45 : m = 45
          · have e45b : ((m : Int) == 45) = true := by simp; omega
            have e45c : ((m : Int) != 45) = false := by simp; omega
            have E45 := Lib.hid e45
            clear e45
            go_wp2_with (go_at_call 123; (with_reducible refine (HL.out _).mono ?_); rintro e w1 ⟨rfl, rfl⟩)
            go_roundw
            case rel => exact HNEXT.out (by have := E45.out; simp; try omega)
            case measure => simp [RowKit.intOf]; omega
          · have e45' : ((m : Int) == 45) = false := by simp; omega
            have e45c : ((m : Int) != 45) = true := by simp; omega
            have e45d : ¬ (m : Int) = 45 := by omega
            by_cases e95 : m = 95
            · have e95b : ((m : Int) == 95) = true := by simp; omega
              have e95c : ((m : Int) != 95) = false := by simp; omega
              have E95 := Lib.hid e95
              clear e95
              go_wp2_with (go_at_call 123; (with_reducible refine (HL.out _).mono ?_); rintro e w1 ⟨rfl, rfl⟩)
              go_roundw
              case rel => exact HNEXT.out (by have := E95.out; simp; try omega)
              case measure => simp [RowKit.intOf]; omega
            · have e95' : ((m : Int) == 95) = false := by simp; omega
              have e95c : ((m : Int) != 95) = true := by simp; omega
              have e95d : ¬ (m : Int) = 95 := by omega
              go_wp2_with (go_at_call 123; (with_reducible refine (HL.out _).mono ?_); rintro e w1 ⟨rfl, rfl⟩)
              go_ret
              have hno := HSTOP.out (by simp; omega)
              exact ⟨by simp [hno], HBW.out⟩
      · go_wp2_with (go_at_call 123; (with_reducible refine (HL.out _).mono ?_); rintro e w1 ⟨rfl, rfl⟩)
        go_roundw
        case rel => exact HNEXT.out (by simp; try omega)
        case measure => simp [RowKit.intOf]; omega
    · obtain rfl : k = n := by omega
      have HT : Hid (namesTo s k) := HF
      clear HF
      have hnl : ¬ (k : Int) < (k : Int) := by omega
      by_cases k0 : k = 0
      · subst k0
        have HNO : Hid (partL s = false) := Lib.hid (by rw [← Bool.not_eq_true]; intro h; have := (HPL.out.1 h).1; omega)
        clear HPL HM HB
        go_wp2
        go_ret
        exact ⟨by simp [HNO.out], HBW.out⟩
      · have k1 : (1 : Int) ≤ (k : Int) := by omega
        by_cases k63 : k ≤ 63
        · have k63' : (k : Int) ≤ 63 := by omega
          obtain ⟨j, hj⟩ : ∃ j, k = j + 1 := ⟨k - 1, by omega⟩
          have hsub : (k : Int) - 1 = (j : Int) := by omega
          have hj' : (j : Int) < (k : Int) := by omega
          have hk0' : (0 : Int) < (k : Int) := by omega
          have hget0 := HB.out 0 (by omega)
          have hget1 := HB.out j (by omega)
          have HP2 : Hid (s[0]! ≠ 45 → s[j]! ≠ 45 → partL s = true) := Lib.hid (fun h1 h2 => HPL.out.2 ⟨⟨by omega, k63⟩, HM.out.1 HT.out, h1, by rw [show k - 1 = j by omega]; exact h2⟩)
          have HP0 : Hid (s[0]! = 45 → partL s = false) := Lib.hid (fun h1 => by rw [← Bool.not_eq_true]; intro h; exact (HPL.out.1 h).2.2.1 h1)
          have HP1 : Hid (s[j]! = 45 → partL s = false) := Lib.hid (fun h1 => by rw [← Bool.not_eq_true]; intro h; exact (HPL.out.1 h).2.2.2 (by rw [show k - 1 = j by omega]; exact h1))
          have HCE : Hid (∀ c : UInt8, (c = 45 ↔ c.toNat = 45)) := Lib.hid (fun c => ⟨fun h => by rw [h]; rfl, fun h => UInt8.toNat_inj.1 (by rw [h]; rfl)⟩)
          clear HPL HM HT HB
          generalize s[0]! = a at *
          generalize s[j]! = z at *
          by_cases ha : a = 45
          · have ha' : (a.toNat : Int) = 45 := by rw [(HCE.out a).1 ha]; rfl
            have HNO := Lib.hid (HP0.out ha)
            clear ha
            go_wp2
            go_ret
            exact ⟨by simp [HNO.out], HBW.out⟩
          · have ha' : ¬ (a.toNat : Int) = 45 := fun h => ha ((HCE.out a).2 (by omega))
            by_cases hz : z = 45
            · have hz' : (z.toNat : Int) = 45 := by rw [(HCE.out z).1 hz]; rfl
              have HNO := Lib.hid (HP1.out hz)
              clear hz ha
              go_wp2
              go_ret
              exact ⟨by simp [HNO.out], HBW.out⟩
            · have hz' : ¬ (z.toNat : Int) = 45 := fun h => hz ((HCE.out z).2 (by omega))
              have HYES := Lib.hid (HP2.out ha hz)
              clear hz ha
              go_wp2
              go_ret
              exact ⟨by simp [HYES.out]; exact ⟨ha', hz'⟩, HBW.out⟩
        · have k63' : ¬ (k : Int) ≤ 63 := by omega
          have HNO : Hid (partL s = false) := Lib.hid (by rw [← Bool.not_eq_true]; intro h; have := (HPL.out.1 h).1; omega)
          clear HPL HM HB
          go_wp2
          go_ret
          exact ⟨by simp [HNO.out], HBW.out⟩
end Go.Proofs.YtehgpnnfjgmiiaaGreat
end
section
namespace Go.Proofs.YtehgpnnfjgmiiaaGreat
open Go.Shelf Go.RowKit Go.Lib Go.Great
set_option maxRecDepth 100000
set_option maxHeartbeats 1000000
theorem bstr_cut (s : List UInt8) (a b : Nat) : (bstr s).extract a b = bstr ((s.take b).drop a) := by
  apply ByteArray.ext
  apply Array.ext'
  simp [bstr, ByteArray.data_extract, List.drop_take]
/-- Where Parts stands: within the text, or behind it. -/
def RPartsR (s : List UInt8) (w : World) (v f i : Value) (wr : World) : Prop :=
  ∃ (L : List (List UInt8)) (a k : Nat), f = .int .i64 (a : Int) ∧ i = .int .i64 (k : Int) ∧ OwnT w.heap.size v L wr ∧ Below w.heap.size w wr ∧ L.length ≤ k ∧
    ((k ≤ s.length ∧ a ≤ k ∧ L ++ splitD (s.drop a) = splitD s ∧ ∀ j, a ≤ j → j < k → s[j]! ≠ 46) ∨ (k = s.length + 1 ∧ L = splitD s))
theorem nodot_cut (s : List UInt8) (a k : Nat) (ha : a ≤ k) (hk : k ≤ s.length) (h : ∀ j, a ≤ j → j < k → s[j]! ≠ 46) : ∀ c ∈ (s.take k).drop a, c ≠ 46 := by
  intro c hc
  obtain ⟨i, hi, rfl⟩ := List.mem_iff_getElem.1 hc
  rw [List.length_drop, List.length_take] at hi
  have := h (a + i) (by omega) (by omega)
  rw [getElem!_pos s (a + i) (by omega)] at this
  simpa using this
theorem split_mid (s : List UInt8) (a k : Nat) (ha : a ≤ k) (hk : k < s.length) (hd : s[k]! = 46) (h : ∀ j, a ≤ j → j < k → s[j]! ≠ 46) : splitD (s.drop a) = (s.take k).drop a :: splitD (s.drop (k + 1)) := by
  rw [← splitD_dot _ _ (nodot_cut s a k ha (by omega) h)]
  congr 1
  rw [getElem!_pos s k hk] at hd
  rw [← hd, ← List.drop_eq_getElem_cons hk]
  rw [List.drop_take]
  conv => lhs; rw [← List.take_append_drop (k - a) (s.drop a), List.drop_drop, show a + (k - a) = k by omega]
theorem split_last (s : List UInt8) (a : Nat) (ha : a ≤ s.length) (h : ∀ j, a ≤ j → j < s.length → s[j]! ≠ 46) : splitD (s.drop a) = [(s.take s.length).drop a] := by
  rw [← splitD_none _ (nodot_cut s a s.length ha (Nat.le_refl _) h), List.take_length]
theorem rparts_any (s : List UInt8) (hs : s.length ≤ 100000) (w : World) : Calls Tryz.prog 106 #[.string (bstr s)] w fun e w' => ∃ v, e = .returned v ∧ OwnT w.heap.size v (splitD s) w' ∧ Below w.heap.size w w' := by
  obtain ⟨i0, hi, hz0, hz1, hz2⟩ := info_parts info9
  have hsz := bstr_size s
  have HG := Lib.hid (bstr_get s)
  have HX := Lib.hid (bstr_cut s)
  have R0 : Hid (RPartsR s w (.slice none 0 0) (.int .i64 0) (.int .i64 0) w) := Lib.hid ⟨[], 0, 0, rfl, rfl, OwnT.nil, Below.refl _ _, by simp, .inl ⟨by omega, by omega, by simp, fun j h1 h2 => absurd h2 (by omega)⟩⟩
  obtain ⟨n, hn⟩ : ∃ n, n = s.length := ⟨_, rfl⟩
  have HN := Lib.hid hn
  rw [← hn] at hsz hs
  clear hn
  generalize bstr s = B at *
  go_enter Tryz.func106, Tryz.ntmps106
  go_upto_region 4 with fail
  go_loopw [3, 4, 5] (RPartsR s w) (fun _ _ i _ => n + 1 - (RowKit.intOf i).toNat)
  case atStart => exact R0.out
  case round =>
    obtain ⟨L, a, k, rfl, rfl, hO, hb, hL, hcase⟩ := hrel
    clear R0
    have HO := Lib.hid hO
    have HBW := Lib.hid hb
    clear hO hb
    rcases hcase with ⟨hk, ha, hsp, hno⟩ | ⟨hk, rfl⟩
    · rw [← HN.out] at hk
      have hk' : (k : Int) ≤ (n : Int) := by omega
      have HSP := Lib.hid hsp
      have HNO := Lib.hid hno
      clear hsp hno
      have hext := HX.out a k
      by_cases hend : k = n
      · subst hend
        have HNX : Hid (L ++ [(s.take k).drop a] = splitD s) := Lib.hid (by
          rw [← HSP.out, split_last s a (by rw [← HN.out]; exact ha) (fun j h1 h2 => HNO.out j h1 (by rw [HN.out]; exact h2)), ← HN.out])
        have HK := Lib.hid HN.out
        have hak : (a : Int) ≤ (k : Int) := by omega
        clear HSP HNO HG HX
        generalize (s.take k).drop a = p at *
        go_wp2_with (at_builtin; refine wpList_append_src _ rfl (.tmp 22) (.tmp 27) 134 134 rfl w.heap.size 9 i0 _ 16 Tryz.underlying134 hi hz0 hz1 hz2 rfl _ _ _ rfl (World.ownsRow.alloc HO.out _) _ 1 [.string (bstr p)] rfl (src_str _ _) (by simp only [maxLen]; omega) (by omega) (by have := HBW.out.size; simp; omega) ?_; intro v2 w2 hown2 hg2 _)
        refine ⟨⟨L ++ [p], k + 1, k + 1, by simp, by simp, by unfold OwnT; simpa [encT] using hown2, HBW.out.trans (app_below HO.out HBW.out.size hg2), by simp; omega, .inr ⟨by rw [← HK.out], HNX.out⟩⟩, by simp [RowKit.intOf]⟩
      · have hlt : k < n := by omega
        have hlt' : (k : Int) < (n : Int) := by omega
        have hne : ((k : Int) == (n : Int)) = false := by simp; omega
        have hget := HG.out k (by omega)
        have hls : k < s.length := by rw [← HN.out]; exact hlt
        have hak : (a : Int) ≤ (k : Int) := by omega
        by_cases hd : s[k]! = 46
        · have HNX : Hid ((L ++ [(s.take k).drop a]) ++ splitD (s.drop (k + 1)) = splitD s) := Lib.hid (by
            rw [← HSP.out, split_mid s a k ha hls hd HNO.out]
            simp)
          rw [hd] at hget
          have HK := Lib.hid hls
          clear HSP HNO HG HX hd hls hend
          generalize (s.take k).drop a = p at *
          go_wp2_with (at_builtin; refine wpList_append_src _ rfl (.tmp 22) (.tmp 27) 134 134 rfl w.heap.size 9 i0 _ 16 Tryz.underlying134 hi hz0 hz1 hz2 rfl _ _ _ rfl (World.ownsRow.alloc HO.out _) _ 1 [.string (bstr p)] rfl (src_str _ _) (by simp only [maxLen]; omega) (by omega) (by have := HBW.out.size; simp; omega) ?_; intro v2 w2 hown2 hg2 _)
          refine ⟨⟨L ++ [p], k + 1, k + 1, by simp, by simp, by unfold OwnT; simpa [encT] using hown2, HBW.out.trans (app_below HO.out HBW.out.size hg2), by simp; omega, .inl ⟨HK.out, by omega, HNX.out, fun j h1 h2 => absurd h2 (by omega)⟩⟩, by simp [RowKit.intOf]; omega⟩
        · have HC : Hid ((s[k]!).toNat = 46 → False) := Lib.hid (fun h => hd (UInt8.toNat_inj.1 (by rw [h]; rfl)))
          have HD := Lib.hid hd
          have HK := Lib.hid hls
          have hsk : (((s[k]!).toNat : Int) == 46) = false := by
            rw [beq_eq_false_iff_ne]
            intro h
            exact HC.out (by omega)
          have HNO2 : Hid (∀ j, a ≤ j → j < k + 1 → s[j]! ≠ 46) := Lib.hid (fun j h1 h2 => by
            by_cases e : j = k
            · subst e; exact hd
            · exact HNO.out j h1 (by omega))
          clear HG HX hd hls hend HNO
          generalize s[k]! = ch at *
          go_wp2
          refine ⟨⟨L, a, k + 1, rfl, by simp, HO.out, HBW.out, by omega, .inl ⟨HK.out, by omega, HSP.out, HNO2.out⟩⟩, by simp [RowKit.intOf]; omega⟩
    · rw [← HN.out] at hk
      have hk' : ¬ (k : Int) ≤ (n : Int) := by omega
      clear HG HX
      go_wp2
      go_ret
      exact ⟨_, rfl, HO.out, HBW.out⟩
end Go.Proofs.YtehgpnnfjgmiiaaGreat
end
