/- Contract of strings.Cut at a mark of one byte. Conditions: at most 100,000 bytes. -/
import Derived.Test.YtjiiignbejbiiaaLca
import Derived.Test.YtjiiignbejbiiaaShelf
import Derived.Deep.QuietTactic
import Derived.Deep.RegionHeld3
import Derived.LoopTactic
import Derived.Deep.Cut
namespace Go.Proofs.Ytjiiignbejbiiaa
open Go.RowKit Go.Lib Go.Great
set_option maxRecDepth 100000
set_option maxHeartbeats 1000000
theorem bstr_size (s : List UInt8) : (bstr s).size = s.length := by simp [bstr, ByteArray.size]
theorem bstr_append (a b : List UInt8) : bstr a ++ bstr b = bstr (a ++ b) := by
  apply ByteArray.ext
  apply Array.ext'
  simp [bstr]
/-- What Cut tells at a mark. -/
def CutP (r : List UInt8) (c : UInt8) (e : Ending) : Prop := (∃ a b, r = a ++ c :: b ∧ c ∉ a ∧ e = .returned (.tuple #[.string (bstr a), .string (bstr b), .bool true])) ∨ (c ∉ r ∧ e = .returned (.tuple #[.string (bstr r), .string ⟨#[]⟩, .bool false]))
theorem index_facts (r : List UInt8) (c : UInt8) : (Lib.indexByte r c = -1 ∧ c ∉ r) ∨ ∃ k : Nat, Lib.indexByte r c = (k : Int) ∧ k < r.length ∧ r = r.take k ++ c :: r.drop (k + 1) ∧ c ∉ r.take k := by
  have hge := Lib.indexByte_ge r c
  by_cases h : Lib.indexByte r c = -1
  · left
    refine ⟨h, fun hm => ?_⟩
    obtain ⟨k, hk⟩ := List.mem_iff_getElem?.1 hm
    exact Lib.indexByte_none h k hk
  · right
    obtain ⟨k, hk⟩ : ∃ k : Nat, Lib.indexByte r c = (k : Int) := ⟨(Lib.indexByte r c).toNat, by omega⟩
    obtain ⟨h1, h2⟩ := Lib.indexByte_some hk
    obtain ⟨hlt, he⟩ := List.getElem?_eq_some_iff.1 h1
    refine ⟨k, hk, hlt, ?_, fun hm => ?_⟩
    · rw [← he, ← List.drop_eq_getElem_cons hlt, List.take_append_drop]
    · obtain ⟨j, hj⟩ := List.mem_iff_getElem?.1 hm
      rw [List.getElem?_take] at hj
      split at hj
      · exact h2 j (by assumption) hj
      · cases hj
theorem bstr_take (r : List UInt8) (k : Nat) (hk : k ≤ r.length) : (bstr r).extract 0 k = bstr (r.take k) := by
  apply ByteArray.ext
  apply Array.ext'
  simp [bstr, ByteArray.data_extract]
theorem bstr_drop (r : List UInt8) (k : Nat) : (bstr r).extract k r.length = bstr (r.drop k) := by
  apply ByteArray.ext
  apply Array.ext'
  simp [bstr, ByteArray.data_extract]
  exact List.take_of_length_le (by simp)
theorem results_3 {fn : Func} {p q r : Tmp} (h : fn.results = #[.tmp p, .tmp q, .tmp r]) {P : Program} (tmps : Array Value) (w : World) (u v x : Value) (hp : tmps.getD p undef = u) (hq : tmps.getD q undef = v) (hr : tmps.getD r undef = x) : (results fn tmps).run P w = .ok (.tuple #[u, v, x]) w := by
  have hp' : tmps[p]?.getD undef = u := by simpa using hp
  have hq' : tmps[q]?.getD undef = v := by simpa using hq
  have hr' : tmps[r]?.getD undef = x := by simpa using hr
  simp [results, h, hp', hq', hr']
theorem cutS_any (r : List UInt8) (c : UInt8) (hr : r.length ≤ 100000) (w : World) : Calls Try.prog 64 #[.string (bstr r), .string ⟨#[c]⟩] w fun e w' => CutP r c e ∧ Below w.heap.size w w' := by
  have HI := Lib.hid (fun W => Try.stringslite_Index_one (bstr r) c W)
  have hd : (bstr r).data.toList = r := by simp [bstr]
  rw [hd] at HI
  have hsz := bstr_size r
  have hs1 : (⟨#[c]⟩ : ByteArray).size = 1 := rfl
  rcases index_facts r c with ⟨h1, h2⟩ | ⟨k, h1, h2, h3, h4⟩
  · rw [h1] at HI
    have HM := Lib.hid h2
    clear h1 h2 hd
    go_enter Try.func64, Try.ntmps64
    go_wp2_with (go_at_call 74; (with_reducible refine (HI.out _).mono ?_); rintro e w1 ⟨rfl, rfl⟩)
    refine bodyPost_ret (v := .tuple #[.string (bstr r), .string ⟨#[]⟩, .bool false]) (results_3 (p := 4) (q := 5) (r := 6) rfl _ _ _ _ _ rfl rfl rfl) rfl ?_
    exact ⟨.inr ⟨HM.out, rfl⟩, Below.refl _ _⟩
  · rw [h1] at HI
    have H3 := Lib.hid h3
    have H4 := Lib.hid h4
    have hkl : (k : Int) ≤ ((bstr r).size : Int) := by omega
    have hkl2 : (k : Int) + 1 ≤ ((bstr r).size : Int) := by omega
    clear h1 h3 h4 hd
    go_enter Try.func64, Try.ntmps64
    go_upto_region 3 with (go_at_call 74; (with_reducible refine (HI.out _).mono ?_); rintro e w1 ⟨rfl, rfl⟩)
    go_quiet (fail)
    go_wp2
    refine bodyPost_ret (v := .tuple #[.string ((bstr r).extract 0 k), .string ((bstr r).extract (k + 1) r.length), .bool true]) (results_3 (p := 4) (q := 5) (r := 6) rfl _ _ _ _ _ rfl rfl rfl) rfl ?_
    rw [bstr_take r k (by omega), bstr_drop r (k + 1)]
    exact ⟨.inl ⟨_, _, H3.out, H4.out, rfl⟩, below_drewN (Below.refl _ _) _⟩
theorem cut_any (r : List UInt8) (c : UInt8) (hr : r.length ≤ 100000) (w : World) : Calls Try.prog 53 #[.string (bstr r), .string ⟨#[c]⟩] w fun e w' => CutP r c e ∧ Below w.heap.size w w' := by
  have HC := Lib.hid (cutS_any r c hr w)
  go_enter Try.func53, Try.ntmps53
  go_upto_region 1 with fail
  go_wp2_with (go_at_call 64; refine Hid.out ?_)
  refine Lib.hid ?_
  refine HC.out.mono ?_
  rintro e w1 ⟨⟨a, b, h1, h2, rfl⟩ | ⟨h1, rfl⟩, hb1⟩
  · have HP : Hid (CutP r c (.returned (.tuple #[.string (bstr a), .string (bstr b), .bool true]))) := Lib.hid (.inl ⟨a, b, h1, h2, rfl⟩)
    have HB := Lib.hid hb1
    clear h1 h2 hb1 HC
    go_wp2
    refine bodyPost_ret (v := .tuple #[.string (bstr a), .string (bstr b), .bool true]) (results_3 (p := 4) (q := 5) (r := 6) rfl _ _ _ _ _ rfl rfl rfl) rfl ?_
    exact ⟨HP.out, HB.out⟩
  · have HP : Hid (CutP r c (.returned (.tuple #[.string (bstr r), .string ⟨#[]⟩, .bool false]))) := Lib.hid (.inr ⟨h1, rfl⟩)
    have HB := Lib.hid hb1
    clear h1 hb1 HC
    go_wp2
    refine bodyPost_ret (v := .tuple #[.string (bstr r), .string ⟨#[]⟩, .bool false]) (results_3 (p := 4) (q := 5) (r := 6) rfl _ _ _ _ _ rfl rfl rfl) rfl ?_
    exact ⟨HP.out, HB.out⟩
end Go.Proofs.Ytjiiignbejbiiaa
