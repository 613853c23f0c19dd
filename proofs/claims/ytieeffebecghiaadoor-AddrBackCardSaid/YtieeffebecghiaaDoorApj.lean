/- The walk of the statement AddrReads of this seat, where the library's table of powers of ten reads as it is laid. No other condition. -/
import Derived.Test.YtieeffebecghiaaDoorApi
import Derived.Test.YtieeffebecghiaaDoorAcd
namespace Go.Proofs.YtieeffebecghiaaDoor
set_option maxRecDepth 100000
set_option maxHeartbeats 4000000
open Go.RowKit Go.Lib Go.Great

/-- What a text's address is, as numbers: en is the error. -/
structure AdrV (h p en : Nat) : Prop where
  hh : h < 4294967296
  hp : p < 65536
  er : (en = 0 ∧ h ≠ 0 ∧ p ≠ 0) ∨ en = 10
theorem parse_val (s : List UInt8) : ∃ h p en : Nat, AdrV h p en ∧ (en = 0 → adT h p = s) ∧ ∀ v, ParseIs s v → v = .tuple #[.agg (adr h p), .int .i64 (en : Int)] := by
  by_cases hx : ∃ h p : Nat, h < 4294967296 ∧ p < 65536 ∧ h ≠ 0 ∧ p ≠ 0 ∧ adT h p = s
  · obtain ⟨h, p, h1, h2, h3, h4, h5⟩ := hx
    exact ⟨h, p, 0, ⟨h1, h2, .inl ⟨rfl, h3, h4⟩⟩, fun _ => h5, fun v hv => hv.unique (.inl ⟨h, p, h1, h2, h3, h4, h5, rfl⟩)⟩
  · exact ⟨0, 0, 10, ⟨by omega, by omega, .inr rfl⟩, fun h => by omega, fun v hv => hv.unique (.inr ⟨fun h p h1 h2 h3 h4 h5 => hx ⟨h, p, h1, h2, h3, h4, h5⟩, rfl⟩)⟩
theorem read_val (xs : List UInt8) : ∃ h p en : Nat, AdrV h p en ∧ (en = 0 → adB h p = xs) ∧ readV xs = .tuple #[.agg (adr h p), .int .i64 (en : Int)] := by
  rcases readV_is xs with ⟨h, p, h1, h2, h3, h4, h5, h6⟩ | h6
  · exact ⟨h, p, 0, ⟨h1, h2, .inl ⟨rfl, h3, h4⟩⟩, fun _ => h5, h6⟩
  · exact ⟨0, 0, 10, ⟨by omega, by omega, .inr rfl⟩, fun h => by omega, h6⟩
/-- Addresses lie in memory: block, type, host, port. -/
def AdrAt (W : World) (L : List (Nat × TypeId × Nat × Nat)) : Prop := ∀ r ∈ L, W.heap[r.1]? = some (.cells #[.int .u32 (r.2.2.1 : Int), .int .u16 (r.2.2.2 : Int)] r.2.1 (0, 0))
section
variable {W W' : World} {L : List (Nat × TypeId × Nat × Nat)} {g h p : Nat} {t : TypeId}
theorem AdrAt.nil : AdrAt W [] := fun _ h => by cases h
theorem AdrAt.cons (h0 : W.heap[g]? = some (.cells #[.int .u32 (h : Int), .int .u16 (p : Int)] t (0, 0))) (hL : AdrAt W L) : AdrAt W ((g, t, h, p) :: L) := fun r hr => by
  cases hr with
  | head => exact h0
  | tail _ hr => exact hL r hr
theorem AdrAt.below (h : AdrAt W L) (hb : Below W.heap.size W W') : AdrAt W' L := fun r hr => (hb.block _ (Array.getElem?_eq_some_iff.1 (h r hr)).1).trans (h r hr)
theorem AdrAt.ld25 (hL : AdrAt W L) (hm : (g, 25, h, p) ∈ L) : (loadVar 25 ⟨g, 0, none⟩).run Tryd.prog W = .ok (.agg #[.int .u32 (h : Int), .int .u16 (p : Int)]) W :=
  run_loadVar_mid W g 0 25 [.int .u32 (h : Int), .int .u16 (p : Int)] _ (row_range (cs := [.int .u32 (h : Int), .int .u16 (p : Int)]) (hL _ hm)) Tryd.underlying25 rfl size25
theorem AdrAt.ld28 (hL : AdrAt W L) (hm : (g, 28, h, p) ∈ L) : (loadVar 28 ⟨g, 0, none⟩).run Tryd.prog W = .ok (.agg #[.int .u32 (h : Int), .int .u16 (p : Int)]) W :=
  run_loadVar_mid W g 0 28 [.int .u32 (h : Int), .int .u16 (p : Int)] _ (row_range (cs := [.int .u32 (h : Int), .int .u16 (p : Int)]) (hL _ hm)) Tryd.underlying28 rfl size53
theorem AdrAt.new (hL : AdrAt W L) (t : TypeId) (h p : Nat) : AdrAt (W.alloc (.cells #[.int .u32 (h : Int), .int .u16 (p : Int)] t)) ((W.heap.size, t, h, p) :: L) :=
  AdrAt.cons (heap_alloc_new W _) (hL.below ((Below.refl _ W).alloc (Nat.le_refl _) _))
end

theorem areads_far (B : ByteArray) (A : Option Addr) (n c : Nat) (h : 1000 < B.size ∨ 1000 < n) (w : World) (ht : Tab w) : Calls Tryd.prog 4 #[.string B, .slice A n c] w fun e w' => e = .returned (.bool true) ∧ Below w.heap.size w w' := by
  have hq : (1000 : Int) < (B.size : Int) ∨ (¬ (1000 : Int) < (B.size : Int) ∧ (1000 : Int) < (n : Int)) := by omega
  have HL := Lib.hid (alives_any w ht)
  clear h ht
  rcases hq with h | ⟨h, h'⟩
  all_goals
    go_enter Tryd.func4, Tryd.ntmps4
    go_wp2_with (go_at_call 14; (with_reducible refine HL.out.mono ?_); rintro e w2 ⟨rfl, hb2⟩)
    go_ret
    exact ⟨rfl, hb2⟩
theorem areads_near (s : List UInt8) (A : Option Addr) (c : Nat) (xs : List UInt8) (hs : s.length ≤ 1000) (hx : xs.length ≤ 1000) (w : World) (ht : Tab w) (hA : BAt w w.heap.size A xs) :
    Calls Tryd.prog 4 #[.string (bsA s), .slice A xs.length c] w fun e w' => e = .returned (.bool true) ∧ Below w.heap.size w w' := by
  obtain ⟨h1, p1, e1, v1, _, k1⟩ := parse_val s
  obtain ⟨h2, p2, e2, v2, _, k2⟩ := read_val xs
  have C15 : Hid (∀ W, Calls Tryd.prog 15 #[.string (bsA s)] W fun e w' => e = .returned (.tuple #[.agg #[.int .u32 (h1 : Int), .int .u16 (p1 : Int)], .int .i64 (e1 : Int)]) ∧ Below W.heap.size W w') := Lib.hid (fun W => (parse_any s hs W).mono (by rintro e w' ⟨⟨v, rfl, hv⟩, q⟩; exact ⟨by rw [k1 v hv]; rfl, q⟩))
  have C16 : Hid (∀ W, Calls Tryd.prog 16 #[.string (bsA s)] W fun e w' => e = .returned (.tuple #[.agg #[.int .u32 (h1 : Int), .int .u16 (p1 : Int)], .int .i64 (e1 : Int)]) ∧ Below W.heap.size W w') := Lib.hid (fun W => (rparse_any s W).mono (by rintro e w' ⟨⟨v, rfl, hv⟩, q⟩; exact ⟨by rw [k1 v hv]; rfl, q⟩))
  obtain ⟨n, hn⟩ : ∃ n, n = xs.length := ⟨_, rfl⟩
  have hA0 : ∀ W, Below w.heap.size w W → BAt W W.heap.size A xs := fun W h => (hA.below h).more h.size
  have C17 : Hid (∀ W, Below w.heap.size w W → Calls Tryd.prog 17 #[.slice A n c] W fun e w' => e = .returned (.tuple #[.agg #[.int .u32 (h2 : Int), .int .u16 (p2 : Int)], .int .i64 (e2 : Int)]) ∧ Below W.heap.size W w') := Lib.hid (fun W hW => by
    rw [hn]
    exact (read_any A c xs (by omega) W (hA0 W hW)).mono (by rintro e w' ⟨rfl, q⟩; exact ⟨by rw [k2]; rfl, q⟩))
  have C18 : Hid (∀ W, Below w.heap.size w W → Calls Tryd.prog 18 #[.slice A n c] W fun e w' => e = .returned (.tuple #[.agg #[.int .u32 (h2 : Int), .int .u16 (p2 : Int)], .int .i64 (e2 : Int)]) ∧ Below W.heap.size W w') := Lib.hid (fun W hW => by
    rw [hn]
    exact (rread_any A c xs W (hA0 W hW)).mono (by rintro e w' ⟨rfl, q⟩; exact ⟨by rw [k2]; rfl, q⟩))
  have C14 : Hid (∀ W, Below w.heap.size w W → Calls Tryd.prog 14 #[] W fun e w' => e = .returned (.bool true) ∧ Below W.heap.size W w') := Lib.hid (fun W hW => alives_any W (ht.on hW))
  have hsz := bsA_size s
  have l1 : ¬ (1000 : Int) < ((bsA s).size : Int) := by omega
  have l2 : ¬ (1000 : Int) < (n : Int) := by omega
  rw [← hn]
  generalize bsA s = B at *
  have R : AdrAt w [] := AdrAt.nil
  have HB : Below w.heap.size w w := Below.refl _ _
  clear hA hA0 hn hs hx ht hsz k1 k2 v1 v2
  go_enter Tryd.func4, Tryd.ntmps4
  go_upto_region 3 with fail
  go_upto_region 4 with (go_at_call 15; (with_reducible refine (C15.out _).mono ?_); rintro e w3 ⟨rfl, hb1⟩; replace R := R.below hb1; replace HB := HB.trans (hb1.mono HB.size); clear hb1)
  replace R := R.new 25 h1 p1
  replace HB := HB.alloc HB.size (.cells #[.int .u32 (h1 : Int), .int .u16 (p1 : Int)] 25)
  generalize w3.alloc (.cells #[.int .u32 (h1 : Int), .int .u16 (p1 : Int)] 25) = W3 at R HB ⊢
  generalize w3.heap.size = g5 at R ⊢
  go_upto_region 5 with (go_at_call 16; (with_reducible refine (C16.out _).mono ?_); rintro e w4 ⟨rfl, hb1⟩; replace R := R.below hb1; replace HB := HB.trans (hb1.mono HB.size); clear hb1)
  replace R := R.new 28 h1 p1
  replace HB := HB.alloc HB.size (.cells #[.int .u32 (h1 : Int), .int .u16 (p1 : Int)] 28)
  generalize w4.alloc (.cells #[.int .u32 (h1 : Int), .int .u16 (p1 : Int)] 28) = W4 at R HB ⊢
  generalize w4.heap.size = g7 at R ⊢
  go_upto_region 6 with (go_at_call 17; (with_reducible refine (C17.out _ HB).mono ?_); rintro e w5 ⟨rfl, hb1⟩; replace R := R.below hb1; replace HB := HB.trans (hb1.mono HB.size); clear hb1)
  replace R := R.new 25 h2 p2
  replace HB := HB.alloc HB.size (.cells #[.int .u32 (h2 : Int), .int .u16 (p2 : Int)] 25)
  generalize w5.alloc (.cells #[.int .u32 (h2 : Int), .int .u16 (p2 : Int)] 25) = W5 at R HB ⊢
  generalize w5.heap.size = g9 at R ⊢
  go_upto_region 7 with (go_at_call 18; (with_reducible refine (C18.out _ HB).mono ?_); rintro e w6 ⟨rfl, hb1⟩; replace R := R.below hb1; replace HB := HB.trans (hb1.mono HB.size); clear hb1)
  replace R := R.new 28 h2 p2
  replace HB := HB.alloc HB.size (.cells #[.int .u32 (h2 : Int), .int .u16 (p2 : Int)] 28)
  generalize w6.alloc (.cells #[.int .u32 (h2 : Int), .int .u16 (p2 : Int)] 28) = W6 at R HB ⊢
  generalize w6.heap.size = g11 at R ⊢
  have k5 := Lib.hid (R.ld25 (g := g5) (h := h1) (p := p1) (by first | exact .head _ | exact .tail _ (.head _) | exact .tail _ (.tail _ (.head _)) | exact .tail _ (.tail _ (.tail _ (.head _))) | exact .tail _ (.tail _ (.tail _ (.tail _ (.head _)))) | exact .tail _ (.tail _ (.tail _ (.tail _ (.tail _ (.head _)))))))
  have k7 := Lib.hid (R.ld28 (g := g7) (h := h1) (p := p1) (by first | exact .head _ | exact .tail _ (.head _) | exact .tail _ (.tail _ (.head _)) | exact .tail _ (.tail _ (.tail _ (.head _))) | exact .tail _ (.tail _ (.tail _ (.tail _ (.head _)))) | exact .tail _ (.tail _ (.tail _ (.tail _ (.tail _ (.head _)))))))
  have k9 := Lib.hid (R.ld25 (g := g9) (h := h2) (p := p2) (by first | exact .head _ | exact .tail _ (.head _) | exact .tail _ (.tail _ (.head _)) | exact .tail _ (.tail _ (.tail _ (.head _))) | exact .tail _ (.tail _ (.tail _ (.tail _ (.head _)))) | exact .tail _ (.tail _ (.tail _ (.tail _ (.tail _ (.head _)))))))
  have k11 := Lib.hid (R.ld28 (g := g11) (h := h2) (p := p2) (by first | exact .head _ | exact .tail _ (.head _) | exact .tail _ (.tail _ (.head _)) | exact .tail _ (.tail _ (.tail _ (.head _))) | exact .tail _ (.tail _ (.tail _ (.tail _ (.head _)))) | exact .tail _ (.tail _ (.tail _ (.tail _ (.tail _ (.head _)))))))
  have HC := Lib.hid (C14.out W6 HB)
  have HBB := Lib.hid HB
  clear R HB C14 C15 C16 C17 C18
  go_wp2_with (first
    | ((with_reducible refine wpList_loadV (op := ⟨some 42, _, _, _, _, _⟩) rfl 25 (.tmp 5) rfl _ ?_ _ k5.out ?_); rfl)
    | ((with_reducible refine wpList_loadV (op := ⟨some 43, _, _, _, _, _⟩) rfl 28 (.tmp 7) rfl _ ?_ _ k7.out ?_); rfl)
    | ((with_reducible refine wpList_loadG (op := ⟨some 51, _, _, _, _, _⟩) rfl 25 (.tmp 9) rfl _ ?_ _ k9.out ?_); rfl)
    | ((with_reducible refine wpList_loadG (op := ⟨some 52, _, _, _, _, _⟩) rfl 28 (.tmp 11) rfl _ ?_ _ k11.out ?_); rfl)
    | (go_at_call 14; (with_reducible refine HC.out.mono ?_); rintro e w7 ⟨rfl, hb1⟩))
  go_ret
  exact ⟨by simp, HBB.out.trans (hb1.mono HBB.out.size)⟩
theorem areads_walk (B : ByteArray) (A : Option Addr) (c : Nat) (xs : List UInt8) (w : World) (ht : Tab w) (hA : BAt w w.heap.size A xs) :
    Calls Tryd.prog 4 #[.string B, .slice A xs.length c] w fun e w' => e = .returned (.bool true) ∧ Below w.heap.size w w' := by
  by_cases h : 1000 < B.size ∨ 1000 < xs.length
  · exact areads_far B A xs.length c h w ht
  · have e : bsA B.data.toList = B := ByteArray.ext (show B.data.toList.toArray = B.data from Array.toArray_toList)
    have hl : B.data.toList.length = B.size := Array.length_toList
    have := areads_near B.data.toList A c xs (by omega) (by omega) w ht hA
    rwa [e] at this
end Go.Proofs.YtieeffebecghiaaDoor
