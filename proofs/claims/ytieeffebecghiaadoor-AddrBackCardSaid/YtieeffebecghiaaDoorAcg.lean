/- Contracts of number of package addr at any text, and of strings.Cut at a mark of one byte. Conditions: fewer than 2^62 bytes. -/
import Derived.Test.YtieeffebecghiaaDoorAcf
namespace Go.Proofs.YtieeffebecghiaaDoor
set_option maxRecDepth 100000
set_option maxHeartbeats 1000000
open Go.RowKit Go.Lib Go.Great

theorem numb_no (l : List UInt8) (h : l.length = 0 ∨ 5 < l.length) (most : Nat) (w : World) : Calls Tryd.prog 24 #[.string (bsA l), .int .u64 (most : Int)] w fun e w' => NumP2 l most e ∧ Below w.heap.size w w' := by
  have hmf : ∀ (fn : Fn) (first cap : Array Value) (w : World), (Instr.makeFunc fn first cap).run Tryd.prog w = .ok (.func fn first cap) w := fun _ _ _ _ => rfl
  have HN := Lib.hid (num_none l most h)
  have HPF := Lib.hid (fun W => Tryd.strings_HasPrefix (bsA l) ⟨#[48]⟩ W)
  have hsz : (bsA l).size = l.length := bsA_size _
  generalize Lib.hasPrefix (bsA l).data.toList (⟨#[48]⟩ : ByteArray).data.toList = q at HPF
  have HS0 := Lib.hid (num_start w l (!q))
  have HS3 := Lib.hid (num_start w l false)
  have HCE : Hid (∀ (W : World) b n, NumS w W l b n → W.cell? ⟨w.heap.size, 0, none⟩ = some (.string (bsA l)) ∧ W.cell? ⟨w.heap.size + 1, 0, none⟩ = some (.int .u64 (n : Int)) ∧ W.cell? ⟨w.heap.size + 1 + 1, 0, none⟩ = some (.bool b)) := Lib.hid (fun W b n h => h.cells)
  generalize bsA l = B at *
  have n1 : ¬ (l.length : Int) = 1 := by omega
  have n2 : ¬ (l.length : Int) = 2 := by omega
  have n3 : ¬ (l.length : Int) = 3 := by omega
  have n4 : ¬ (l.length : Int) = 4 := by omega
  have n5 : ¬ (l.length : Int) = 5 := by omega
  rw [← hsz] at n1 n2 n3 n4 n5
  clear h hsz
  go_enter Tryd.func24, Tryd.ntmps24
  go_upto_region 3 with (go_at_call 35; (with_reducible refine (HPF.out _).mono ?_); rintro e w1 ⟨rfl, rfl⟩)
  obtain ⟨cs, cn0, co0⟩ := HCE.out _ _ _ HS0.out
  have f2 := frozen_of_row _ (w.heap.size + 1 + 1) 0 _ 4 HS0.out.okc
  go_upto_region 16 with fail
  clear cs cn0 co0 f2
  have HS2 := HS3
  generalize ((w.alloc (.cells #[.string B] 9)).alloc (.cells #[.int .u64 0] 48)).alloc (.cells #[.bool false] 4) = W2 at HS2 ⊢
  obtain ⟨_, cn, co⟩ := HCE.out _ _ _ HS2.out
  have HBF : Hid (∀ k, Below w.heap.size w (W2.drewN k)) := Lib.hid (fun k => below_drewN HS2.out.bel k)
  clear HS0 HS2 HS3 HCE HPF
  go_wp2
  go_quiet (fail)
  go_wp2
  go_ret2
  exact ⟨⟨0, false, rfl, by omega, HN.out⟩, HBF.out _⟩
theorem number_any (l : List UInt8) (most : Nat) (w : World) : Calls Tryd.prog 24 #[.string (bsA l), .int .u64 (most : Int)] w fun e w' => NumP2 l most e ∧ Below w.heap.size w w' := by
  match l with
  | [] => exact numb_no [] (.inl rfl) most w
  | [a] => exact number_1 a most w
  | [a, b] => exact number_2 a b most w
  | [a, b, c] => exact number_3 a b c most w
  | [a, b, c, d] => exact number_4 a b c d most w
  | [a, b, c, d, e] => exact number_5 a b c d e most w
  | a :: b :: c :: d :: e :: f :: l => exact numb_no _ (.inr (by simp)) most w

/-- What Cut tells at a mark. -/
def CutP (r : List UInt8) (c : UInt8) (e : Ending) : Prop := (∃ a b, r = a ++ c :: b ∧ c ∉ a ∧ e = .returned (.tuple #[.string (bsA a), .string (bsA b), .bool true])) ∨ (c ∉ r ∧ e = .returned (.tuple #[.string (bsA r), .string ⟨#[]⟩, .bool false]))
theorem index_facts (r : List UInt8) (c : UInt8) : (Lib.indexByte r c = -1 ∧ c ∉ r) ∨ ∃ k : Nat, Lib.indexByte r c = (k : Int) ∧ k < r.length ∧ r = r.take k ++ c :: r.drop (k + 1) ∧ c ∉ r.take k := by
  have hge := Lib.indexByte_ge r c
  by_cases h : Lib.indexByte r c = -1
  · left
    refine ⟨h, fun hm => ?_⟩
    obtain ⟨k, hk⟩ := List.mem_iff_getElem?.1 hm
    exact Lib.indexByte_none h k hk
  · right
    obtain ⟨k, hk⟩ : ∃ k : Nat, Lib.indexByte r c = (k : Int) := ⟨(Lib.indexByte r c).toNat, by omega⟩
    obtain ⟨h1, h2⟩ := Lib.indexByte_some hk
    obtain ⟨hlt, he⟩ := List.getElem?_eq_some_iff.1 h1
    refine ⟨k, hk, hlt, ?_, fun hm => ?_⟩
    · rw [← he, ← List.drop_eq_getElem_cons hlt, List.take_append_drop]
    · obtain ⟨j, hj⟩ := List.mem_iff_getElem?.1 hm
      rw [List.getElem?_take] at hj
      split at hj
      · exact h2 j (by assumption) hj
      · cases hj
theorem bsA_take (r : List UInt8) (k : Nat) (hk : k ≤ r.length) : (bsA r).extract 0 k = bsA (r.take k) := by
  apply ByteArray.ext
  apply Array.ext'
  simp [bsA, ByteArray.data_extract]
theorem bsA_drop (r : List UInt8) (k : Nat) : (bsA r).extract k r.length = bsA (r.drop k) := by
  apply ByteArray.ext
  apply Array.ext'
  simp [bsA, ByteArray.data_extract]
  exact List.take_of_length_le (by simp)
theorem results_3 {fn : Func} {p q r : Tmp} (h : fn.results = #[.tmp p, .tmp q, .tmp r]) {P : Program} (tmps : Array Value) (w : World) (u v x : Value) (hp : tmps.getD p undef = u) (hq : tmps.getD q undef = v) (hr : tmps.getD r undef = x) : (results fn tmps).run P w = .ok (.tuple #[u, v, x]) w := by
  have hp' : tmps[p]?.getD undef = u := by simpa using hp
  have hq' : tmps[q]?.getD undef = v := by simpa using hq
  have hr' : tmps[r]?.getD undef = x := by simpa using hr
  simp [results, h, hp', hq', hr']
theorem cutS_any (r : List UInt8) (c : UInt8) (hr : r.length ≤ 100000) (w : World) : Calls Tryd.prog 34 #[.string (bsA r), .string ⟨#[c]⟩] w fun e w' => CutP r c e ∧ Below w.heap.size w w' := by
  have HI := Lib.hid (fun W => Tryd.stringslite_Index_one (bsA r) c W)
  have hd : (bsA r).data.toList = r := by simp [bsA]
  rw [hd] at HI
  have hsz := bsA_size r
  have hs1 : (⟨#[c]⟩ : ByteArray).size = 1 := rfl
  rcases index_facts r c with ⟨h1, h2⟩ | ⟨k, h1, h2, h3, h4⟩
  · rw [h1] at HI
    have HM := Lib.hid h2
    clear h1 h2 hd
    go_enter Tryd.func34, Tryd.ntmps34
    go_wp2_with (go_at_call 46; (with_reducible refine (HI.out _).mono ?_); rintro e w1 ⟨rfl, rfl⟩)
    refine bodyPost_ret (v := .tuple #[.string (bsA r), .string ⟨#[]⟩, .bool false]) (results_3 (p := 4) (q := 5) (r := 6) rfl _ _ _ _ _ rfl rfl rfl) rfl ?_
    exact ⟨.inr ⟨HM.out, rfl⟩, Below.refl _ _⟩
  · rw [h1] at HI
    have H3 := Lib.hid h3
    have H4 := Lib.hid h4
    have hkl : (k : Int) ≤ ((bsA r).size : Int) := by omega
    have hkl2 : (k : Int) + 1 ≤ ((bsA r).size : Int) := by omega
    clear h1 h3 h4 hd
    go_enter Tryd.func34, Tryd.ntmps34
    go_upto_region 3 with (go_at_call 46; (with_reducible refine (HI.out _).mono ?_); rintro e w1 ⟨rfl, rfl⟩)
    go_quiet (fail)
    go_wp2
    refine bodyPost_ret (v := .tuple #[.string ((bsA r).extract 0 k), .string ((bsA r).extract (k + 1) r.length), .bool true]) (results_3 (p := 4) (q := 5) (r := 6) rfl _ _ _ _ _ rfl rfl rfl) rfl ?_
    rw [bsA_take r k (by omega), bsA_drop r (k + 1)]
    exact ⟨.inl ⟨_, _, H3.out, H4.out, rfl⟩, below_drewN (Below.refl _ _) _⟩
theorem cut_any (r : List UInt8) (c : UInt8) (hr : r.length ≤ 100000) (w : World) : Calls Tryd.prog 23 #[.string (bsA r), .string ⟨#[c]⟩] w fun e w' => CutP r c e ∧ Below w.heap.size w w' := by
  have HC := Lib.hid (cutS_any r c hr w)
  go_enter Tryd.func23, Tryd.ntmps23
  go_upto_region 1 with fail
  go_wp2_with (go_at_call 34; refine Hid.out ?_)
  refine Lib.hid ?_
  refine HC.out.mono ?_
  rintro e w1 ⟨⟨a, b, h1, h2, rfl⟩ | ⟨h1, rfl⟩, hb1⟩
  · have HP : Hid (CutP r c (.returned (.tuple #[.string (bsA a), .string (bsA b), .bool true]))) := Lib.hid (.inl ⟨a, b, h1, h2, rfl⟩)
    have HB := Lib.hid hb1
    clear h1 h2 hb1 HC
    go_wp2
    refine bodyPost_ret (v := .tuple #[.string (bsA a), .string (bsA b), .bool true]) (results_3 (p := 4) (q := 5) (r := 6) rfl _ _ _ _ _ rfl rfl rfl) rfl ?_
    exact ⟨HP.out, HB.out⟩
  · have HP : Hid (CutP r c (.returned (.tuple #[.string (bsA r), .string ⟨#[]⟩, .bool false]))) := Lib.hid (.inr ⟨h1, rfl⟩)
    have HB := Lib.hid hb1
    clear h1 hb1 HC
    go_wp2
    refine bodyPost_ret (v := .tuple #[.string (bsA r), .string ⟨#[]⟩, .bool false]) (results_3 (p := 4) (q := 5) (r := 6) rfl _ _ _ _ _ rfl rfl rfl) rfl ?_
    exact ⟨HP.out, HB.out⟩
end Go.Proofs.YtieeffebecghiaaDoor
