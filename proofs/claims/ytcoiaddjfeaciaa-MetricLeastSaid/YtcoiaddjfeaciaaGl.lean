/- Contract of Plain of the statements on ident: ids as the document's. Conditions: fewer than 50000 ids. Ids in order, each once: plain lemmas on lists. No condition. Steps of a region that makes rows of ids, in any order: plain lemmas. No condition. -/
import Derived.Test.YtcoiaddjfeaciaaGk
import Derived.Test.YtcoiaddjfeaciaaGi
import Derived.Test.YtcoiaddjfeaciaaGh
section
namespace Go.Proofs.Ytcoiaddjfeaciaa
set_option maxRecDepth 100000
set_option maxHeartbeats 1000000
open Go.RowKit Go.Lib Go.Great

theorem alloc_setP (w : World) (z r : Array Value) (t : TypeId) : ∀ W, W = (w.alloc (.cells z t)).setRow w.heap.size r → W.heap[w.heap.size]? = some (.cells r t (0, 0)) ∧ Below w.heap.size w W := by
  rintro W rfl
  exact ⟨setRow_heap _ _ _ r t (0, 0) (heap_alloc_new w _), below_setRow ((Below.refl _ w).alloc (Nat.le_refl _) _) (Nat.le_refl _) _⟩
def StrIs (s : List UInt8) (t : ByteArray) : Prop := bstr s = t
theorem take_snoc {α : Type} {L : List α} {j : Nat} {x : α} (h : L[j]? = some x) : L.take (j + 1) = L.take j ++ [x] := by
  obtain ⟨hi, hx⟩ := List.getElem?_eq_some_iff.1 h
  rw [List.take_add_one, h]
  rfl
def PlRel (w : World) (L : List IDv) (v i : Value) (wr : World) : Prop :=
  ∃ j : Nat, j ≤ L.length ∧ i = .int .i64 (j : Int) ∧ wr.ownsRow w.heap.size 42 20 v j (flatI (L.take j)) ∧ Below w.heap.size w wr
theorem enc_all (x : IDv) : (encID x).toArray.all (·.oneCell') = true := all_oneCell_toArray (bcells_one _)
theorem enc_size (x : IDv) : (encID x).toArray.size = 20 := by rw [List.size_toArray, encID_length]

theorem plain_any (A : Option Addr) (c : Nat) (L : List IDv) (w : World) (hL : L.length ≤ 50000) (hA : IAt w w.heap.size A L) :
    Calls Try.prog 42 #[.slice A L.length c] w fun e w' => ∃ v, e = .returned v ∧ w'.ownsRow w.heap.size 42 20 v L.length (flatI L) ∧ Below w.heap.size w w' := by
  have R0 : Hid (PlRel w L (.slice none 0 0) (.int .i64 0) w) := Lib.hid ⟨0, by omega, rfl, by simpa using World.ownsRow_nil w w.heap.size 42 20, Below.refl _ _⟩
  have HA := Lib.hid hA
  have hz1 := fun W => zero26 W
  obtain ⟨Z, hZ⟩ : ∃ Z, Z = (bcells (List.replicate 20 0)).toArray := ⟨_, rfl⟩
  have hZs : Z.size = 20 := by rw [hZ, List.size_toArray, bcells_length, List.length_replicate]
  rw [← hZ] at hz1
  obtain ⟨n, hn⟩ : ∃ n, n = L.length := ⟨_, rfl⟩
  rw [← hn]
  have HN := Lib.hid hn
  clear hA hZ hn
  go_enter Try.func42, Try.ntmps42
  go_wp2
  go_loopw [3, 8] (PlRel w L) (fun _ i _ => n - (intOf i).toNat)
  case atStart => exact R0.out
  case round =>
    obtain ⟨j, hj, rfl, hown, hb⟩ := hrel
    clear R0
    by_cases hlt : j < n
    · obtain ⟨x, hx⟩ : ∃ x, L[j]? = some x := ⟨L[j]'(by have := HN.out; omega), List.getElem?_eq_getElem _⟩
      obtain ⟨g, off, rfl, hg, hr⟩ := (HA.out.below hb).some_ (by have := HN.out; omega)
      have HL := Lib.hid (range_load26 (range_part hr hx))
      have HT := Lib.hid (take_snoc hx)
      have S1 : Hid ((Try.prog.info? 26).map (·.size) = some (encID x).toArray.size) := Lib.hid (by rw [enc_size]; exact size26)
      have S2 : Hid (Z.size = (encID x).toArray.size) := Lib.hid (by rw [enc_size]; exact hZs)
      have S3 : Hid ((encID x).toArray.all (·.oneCell') = true) := Lib.hid (enc_all x)
      have S4 := Lib.hid (heap_alloc_new wr (.cells Z 26))
      have HB := Lib.hid hb
      have HO := Lib.hid hown
      clear hr hx hb hown
      go_upto_region 5 with (first
        | ((with_reducible refine wpList_loadV (op := ⟨some 11, _, _, _, _, _⟩) rfl 26 (.tmp 10) rfl _ ?_ _ HL.out ?_); rfl)
        | ((with_reducible refine wpList_store_row rfl 26 (.tmp 5) (.tmp 11) rfl wr.heap.size (encID x).toArray ?_ ?_ 26 Z S4.out S1.out S2.out S3.out ?_); rfl; rfl))
      have K5 := alloc_setP wr Z (encID x).toArray 26 _ rfl
      generalize (wr.alloc (.cells Z 26)).setRow wr.heap.size (encID x).toArray = W5 at K5 ⊢
      obtain ⟨q1, q2⟩ := K5
      have HL5 := Lib.hid (range_load26 (row_range q1))
      have HO5 := Lib.hid (HO.out.kept (grownBy_of_below q2 (Nat.le_refl _) none) (by cases u3.ownBlock <;> simp))
      have HB5 := Lib.hid (HB.out.trans (q2.mono HB.out.size))
      clear q1 q2 S1 S2 S3 S4 HL HO HB
      go_upto_region 6 with (first
        | ((with_reducible refine wpList_loadV (op := ⟨some 13, _, _, _, _, _⟩) rfl 26 (.tmp 5) rfl _ ?_ _ HL5.out ?_); rfl)
        | ((with_reducible refine wpList_build_one IdT.doc x rfl (.tmp 13) rfl ?_ ?_); rfl)
        | (refine wpList_append_ids IdT.doc _ rfl (.tmp 12) (.tmp 14) rfl w.heap.size u3 j (L.take j) rfl (HO5.out.alloc _) _ 1 [x] rfl (src_new IdT.doc x W5) (by have := HN.out; omega) (by have := HB5.out.size; simp; omega) ?_; intro v2 w2 ho2 hg2 hat2; clear hat2))
      have HREL : Hid (PlRel w L v2 (.int .i64 ((j : Int) + 1)) w2) := Lib.hid (by
        have := HN.out
        refine ⟨j + 1, by omega, by go_num, ?_, ?_⟩
        · rw [HT.out]
          exact ho2
        · exact (HB5.out.alloc HB5.out.size _).grown hg2 (by have := HB5.out.size; simp; omega) (fun k hk => (HO5.out.lt k hk).1))
      clear ho2 hg2
      go_wp2
      go_roundw
      case rel => exact HREL.out
      case measure => simp [intOf]; omega
    · have hjn : j = L.length := by have := HN.out; omega
      have HF : Hid (wr.ownsRow w.heap.size 42 20 u3 n (flatI L)) := Lib.hid (by
        rw [hjn, List.take_length] at hown
        rw [HN.out]
        exact hown)
      have HB := Lib.hid hb
      clear hown hb hjn
      go_wp2
      go_ret
      exact ⟨_, rfl, HF.out, HB.out⟩
end Go.Proofs.Ytcoiaddjfeaciaa
end
section
namespace Go.Proofs.Ytcoiaddjfeaciaa
open Go.Shelf Go.Lib Go.Sort

instance : DecidableEq IDv := fun a b => decidable_of_iff (a.val = b.val) Subtype.ext_iff.symm
/-- out has M's ids, each once, rising by key. -/
def IsSet (key : IDv → Nat) (out M : List IDv) : Prop := out.Pairwise (fun a b => key a < key b) ∧ ∀ y, y ∈ out ↔ y ∈ M
section
variable {key : IDv → Nat}
theorem IsSet.nil : IsSet key [] [] := ⟨List.Pairwise.nil, fun _ => Iff.rfl⟩
theorem IsSet.mem {out M N : List IDv} (h : IsSet key out M) (hm : ∀ y, y ∈ M ↔ y ∈ N) : IsSet key out N := ⟨h.1, fun y => (h.2 y).trans (hm y)⟩
theorem pair_unique {A B : List IDv} (hA : A.Pairwise (fun a b => key a < key b)) (hB : B.Pairwise (fun a b => key a < key b)) (h : ∀ y, y ∈ A ↔ y ∈ B) : A = B := by
  induction A generalizing B with
  | nil =>
    cases B with
    | nil => rfl
    | cons b B => exact absurd ((h b).2 (by simp)) (by simp)
  | cons a A ih =>
    cases B with
    | nil => exact absurd ((h a).1 (by simp)) (by simp)
    | cons b B =>
      obtain ⟨ha, hA'⟩ := List.pairwise_cons.1 hA
      obtain ⟨hb, hB'⟩ := List.pairwise_cons.1 hB
      have hab : a = b := by
        have h1 := (h a).1 (by simp)
        have h2 := (h b).2 (by simp)
        rcases List.mem_cons.1 h1 with e | m1
        · exact e
        · rcases List.mem_cons.1 h2 with e | m2
          · exact e.symm
          · have := ha b m2
            have := hb a m1
            omega
      subst hab
      rw [ih hA' hB' (fun y => ?_)]
      constructor
      · intro hy
        rcases List.mem_cons.1 ((h y).1 (List.mem_cons_of_mem _ hy)) with e | m
        · have := ha y hy
          rw [e] at this
          omega
        · exact m
      · intro hy
        rcases List.mem_cons.1 ((h y).2 (List.mem_cons_of_mem _ hy)) with e | m
        · have := hb y hy
          rw [e] at this
          omega
        · exact m
theorem IsSet.unique {A B M : List IDv} (hA : IsSet key A M) (hB : IsSet key B M) : A = B := pair_unique hA.1 hB.1 (fun y => (hA.2 y).trans (hB.2 y).symm)
theorem IsSet.skip {out M : List IDv} {x : IDv} (h : IsSet key out M) (hx : x ∈ out) : IsSet key out (M ++ [x]) := h.mem (fun y => by
  rw [List.mem_append, List.mem_singleton]
  constructor
  · exact .inl
  · rintro (hy | rfl)
    · exact hy
    · exact (h.2 y).1 hx)
theorem IsSet.ins {out M : List IDv} {x : IDv} {at_ : Nat} (hinj : ∀ a b, key a = key b → a = b) (h : IsSet key out M) (hlt : ∀ (k : Nat) y, k < at_ → out[k]? = some y → key y < key x)
    (hge : ∀ y, out[at_]? = some y → ¬ key y < key x ∧ y ≠ x) : IsSet key (out.take at_ ++ [x] ++ out.drop at_) (M ++ [x]) := by
  have hp := h.1
  rw [← List.take_append_drop at_ out] at hp
  obtain ⟨p1, p2, p3⟩ := List.pairwise_append.1 hp
  have hbefore : ∀ y ∈ out.take at_, key y < key x := by
    intro y hy
    obtain ⟨k, hk⟩ := List.mem_iff_getElem?.1 hy
    rw [List.getElem?_take] at hk
    split at hk
    · exact hlt k y (by assumption) hk
    · cases hk
  have hafter : ∀ y ∈ out.drop at_, key x < key y := by
    intro y hy
    cases hd : out.drop at_ with
    | nil => rw [hd] at hy; cases hy
    | cons b B =>
      have hb : out[at_]? = some b := by
        have := congrArg (fun l => l[0]?) hd
        simpa using this
      obtain ⟨n1, n2⟩ := hge b hb
      have hxb : key x < key b := by
        have : key x ≠ key b := fun e => n2 (hinj _ _ e.symm)
        omega
      rw [hd] at hy p2
      rcases List.mem_cons.1 hy with rfl | hy
      · exact hxb
      · have := (List.pairwise_cons.1 p2).1 y hy
        omega
  refine ⟨?_, fun y => ?_⟩
  · rw [List.append_assoc, List.singleton_append]
    refine List.pairwise_append.2 ⟨p1, List.pairwise_cons.2 ⟨hafter, p2⟩, fun a ha b hb => ?_⟩
    rcases List.mem_cons.1 hb with rfl | hb
    · exact hbefore a ha
    · exact p3 a ha b hb
  · have e : y ∈ out ↔ y ∈ out.take at_ ∨ y ∈ out.drop at_ := by
      conv => lhs; rw [← List.take_append_drop at_ out]
      exact List.mem_append
    rw [List.mem_append, List.mem_append, List.mem_append, List.mem_singleton, ← h.2 y, e]
    constructor
    · rintro ((h1 | h1) | h1)
      · exact .inl (.inl h1)
      · exact .inr h1
      · exact .inl (.inr h1)
    · rintro ((h1 | h1) | h1)
      · exact .inl (.inl h1)
      · exact .inr h1
      · exact .inl (.inr h1)
end

/-- The first m of L, without those that equal the one ahead of them. -/
def dd (L : List IDv) : Nat → List IDv
  | 0 => []
  | m + 1 => match L[m]? with
    | none => dd L m
    | some x => if 0 < m ∧ L[m - 1]? = some x then dd L m else dd L m ++ [x]
theorem dd_same {L : List IDv} {m : Nat} {x : IDv} (h0 : 0 < m) (h : L[m]? = some x) (h' : L[m - 1]? = some x) : dd L (m + 1) = dd L m := by
  simp only [dd, h]
  rw [if_pos ⟨h0, h'⟩]
theorem dd_diff {L : List IDv} {m : Nat} {x : IDv} (h : L[m]? = some x) (h' : ¬ (0 < m ∧ L[m - 1]? = some x)) : dd L (m + 1) = dd L m ++ [x] := by
  simp only [dd, h]
  rw [if_neg h']
theorem dd_all (L : List IDv) (m : Nat) (hm : m ≤ L.length) (h : ∀ k, 0 < k → k < m → L[k]? ≠ L[k - 1]?) : dd L m = L.take m := by
  induction m with
  | zero => simp [dd]
  | succ m ih =>
    have hx : L[m]? = some L[m] := List.getElem?_eq_getElem (by omega)
    rw [dd_diff hx, ih (by omega) (fun k h1 h2 => h k h1 (by omega)), List.take_add_one, hx]
    · rfl
    · rintro ⟨h1, h2⟩
      exact h m h1 (by omega) (hx.trans h2.symm)
theorem dd_len (L : List IDv) (m : Nat) : (dd L m).length ≤ m := by
  induction m with
  | zero => simp [dd]
  | succ m ih =>
    simp only [dd]
    split
    · omega
    · split
      · omega
      · rw [List.length_append, List.length_singleton]; omega
theorem dd_set {key : IDv → Nat} (hinj : ∀ a b, key a = key b → a = b) (L : List IDv) (hs : ∀ (i j : Nat) x y, i < j → L[i]? = some x → L[j]? = some y → key x ≤ key y) (m : Nat) (hm : m ≤ L.length) :
    IsSet key (dd L m) (L.take m) := by
  induction m with
  | zero => simpa [dd] using IsSet.nil
  | succ m ih =>
    have hx : L[m]? = some L[m] := List.getElem?_eq_getElem (by omega)
    have ih := ih (by omega)
    have ht : L.take (m + 1) = L.take m ++ [L[m]] := by rw [List.take_add_one, hx]; rfl
    rw [ht]
    by_cases h' : 0 < m ∧ L[m - 1]? = some L[m]
    · rw [dd_same h'.1 hx h'.2]
      refine ih.skip ((ih.2 _).2 ?_)
      rw [List.mem_iff_getElem?]
      exact ⟨m - 1, by rw [List.getElem?_take, if_pos (by omega)]; exact h'.2⟩
    · rw [dd_diff hx h']
      refine ⟨List.pairwise_append.2 ⟨ih.1, by simp, fun a ha b hb => ?_⟩, fun y => ?_⟩
      · rw [List.mem_singleton] at hb
        subst hb
        obtain ⟨k, hk⟩ := List.mem_iff_getElem?.1 ((ih.2 a).1 ha)
        rw [List.getElem?_take] at hk
        split at hk
        case isFalse => cases hk
        case isTrue hkm =>
          have hp : L[m - 1]? = some L[m - 1] := List.getElem?_eq_getElem (by omega)
          have h1 : key a ≤ key L[m - 1] := by
            by_cases e : k = m - 1
            · subst e
              rw [hk] at hp
              injection hp with hp
              rw [← hp]
              exact Nat.le_refl _
            · exact hs k (m - 1) _ _ (by omega) hk hp
          have h2 : key L[m - 1] ≤ key L[m] := hs (m - 1) m _ _ (by omega) hp hx
          have h3 : key L[m - 1] ≠ key L[m] := fun e => h' ⟨by omega, by rw [hp, hinj _ _ e]⟩
          omega
      · rw [List.mem_append, List.mem_append, ih.2 y]
/-- Out of what the sort tells. -/
theorem sorted_set {key : IDv → Nat} {cf : IDv → IDv → Int} (hinj : ∀ a b, key a = key b → a = b) (hcf : ∀ x y, ltOf cf x y = decide (key x < key y)) (L : List IDv) (d' : Array IDv) (hp : PermIn 0 L.length L.toArray d') (hs : SortedIn (ltOf cf) 0 L.length d') :
    d'.toList.length = L.length ∧ IsSet key (dd d'.toList L.length) L := by
  obtain ⟨p1, _, p3⟩ := hp
  have hl : d'.toList.length = L.length := by simpa using p1
  refine ⟨hl, ?_⟩
  have hsz : d'.size = L.length := by simpa using hl
  have h := dd_set hinj d'.toList (fun i j x y hij hx hy => ?_) d'.toList.length (Nat.le_refl _)
  · rw [List.take_length] at h
    rw [← hl]
    refine h.mem (fun y => ?_)
    have e1 : (d'.extract 0 L.length).toList = d'.toList := by rw [← hsz]; simp
    have e2 : (L.toArray.extract 0 L.length).toList = L := by simp
    rw [e1, e2] at p3
    exact p3.mem_iff
  · have hj : j < d'.size := by simpa using (List.getElem?_eq_some_iff.1 hy).1
    have h1 := hs i j (Nat.zero_le _) hij (by omega)
    have ex : d'[i]! = x := by
      rw [getElem!_pos d' i (by omega)]
      have := hx
      rw [Array.getElem?_toList, Array.getElem?_eq_getElem (by omega)] at this
      injection this
    have ey : d'[j]! = y := by
      rw [getElem!_pos d' j hj]
      have := hy
      rw [Array.getElem?_toList, Array.getElem?_eq_getElem hj] at this
      injection this
    rw [ex, ey, hcf] at h1
    have := of_decide_eq_false h1
    omega
theorem nID_inj (a b : IDv) (h : nID a = nID b) : a = b := Subtype.ext (getN_inj (a.property.trans b.property.symm) h)
end Go.Proofs.Ytcoiaddjfeaciaa
end
section
namespace Go.Proofs.Ytcoiaddjfeaciaa
set_option maxRecDepth 100000
open Go.RowKit Go.Lib Go.Great

theorem own_form {W : World} {base n : Nat} {e : TypeId} {v : Value} {L : List IDv} (h : W.ownsRow base e 20 v n (flatI L)) :
    ∃ A c, v = .slice A L.length c ∧ n = L.length ∧ L.length ≤ c ∧ ((A = none ∧ L = [] ∧ c = 0) ∨ ∃ g, A = some ⟨g, 0, none⟩ ∧ base ≤ g ∧ g < W.heap.size ∧ W.rangeAt g 0 (flatI L)) := by
  have hl := h.1
  rw [flatI_length] at hl
  have hn : n = L.length := by omega
  rcases h.2 with ⟨rfl, h0⟩ | ⟨g, cap, cur, rfl, hb, hg, hc, _⟩
  · have hL : L = [] := List.eq_nil_of_length_eq_zero (by omega)
    subst hL
    exact ⟨none, 0, rfl, hn, Nat.le_refl _, .inl ⟨rfl, rfl, rfl⟩⟩
  · exact ⟨_, cap, by rw [hn], hn, by omega, .inr ⟨g, rfl, hb, (Array.getElem?_eq_some_iff.1 hg).1, range_own h⟩⟩
theorem cmp_key (x y : IDv) : cmpL x.val y.val < 0 ↔ nID x < nID y := cmpL_lt x.val y.val (x.property.trans y.property.symm)

/-- A row of the region's own. -/
structure R9 (WZ : World) (v : Value) (L : List IDv) (W : World) : Prop where
  own : W.ownsRow WZ.heap.size 42 20 v L.length (flatI L)
  bel : Below WZ.heap.size WZ W
/-- A new row of one id. -/
structure X9 (WZ : World) (x : IDv) (g : Nat) (W : World) : Prop where
  lo : WZ.heap.size ≤ g
  row : W.heap[g]? = some (.cells (encID x).toArray 42 (0, 0))
section
variable {WZ W W' : World} {v v' : Value} {L M : List IDv} {x : IDv} {g : Nat}
theorem X9.lt (h : X9 WZ x g W) : g < W.heap.size := (Array.getElem?_eq_some_iff.1 h.row).1
theorem X9.src (h : X9 WZ x g W) : Src Try.prog 20 64 (.slice (some ⟨g, 0, none⟩) 1 1) 1 (flatI [x]) W := by
  refine Src.ofSlice _ IdT.doc.und _ 1 1 (flatI [x]) (by rw [flatI_length]; rfl) (fun j u hu => ?_) (flatI_one _)
  rw [Addr.add_mid]
  rw [flatI_one'] at hu
  exact row_range h.row j u hu
theorem X9.alloc (h : X9 WZ x g W) (o : Obj) : X9 WZ x g (W.alloc o) := ⟨h.lo, (Below.heap_alloc W o g h.lt).trans h.row⟩
theorem X9.grown {row : Option Nat} (h : X9 WZ x g W) (hg : W.grownBy W' row) (hne : row ≠ some g) : X9 WZ x g W' := ⟨h.lo, (hg.block g h.lt (fun e => hne e.symm)).trans h.row⟩
theorem X9.new (hb : Below WZ.heap.size WZ W) : X9 WZ x W.heap.size (W.alloc (.cells (encID x).toArray 42)) := ⟨hb.size, heap_alloc_new W _⟩
theorem R9.alloc (h : R9 WZ v L W) (o : Obj) : R9 WZ v L (W.alloc o) := ⟨h.own.alloc o, h.bel.alloc h.bel.size o⟩
theorem R9.new (hb : Below WZ.heap.size WZ W) : R9 WZ (.slice (some ⟨W.heap.size, 0, none⟩) 0 0) [] (W.alloc (.cells #[] 42)) := ⟨own_none IdT.doc W _ hb.size, hb.alloc hb.size _⟩
theorem R9.ne (h : R9 WZ v L W) : v.ownBlock ≠ some W.heap.size := fun e => by have := (h.own.lt _ e).2; omega
theorem R9.app (h : R9 WZ v L W) (ho : W'.ownsRow WZ.heap.size 42 20 v' (L.length + M.length) (flatI (L ++ M))) (hg : W.grownBy W' v.ownBlock) : R9 WZ v' (L ++ M) W' :=
  ⟨by rw [List.length_append]; exact ho, h.bel.grown hg h.bel.size (fun k hk => (h.own.lt k hk).1)⟩
theorem ne_app (hX : X9 WZ x g W) (h : v.ownBlock ≠ some g) (h2 : v'.ownBlock = v.ownBlock ∨ v'.ownBlock = some W.heap.size) : v'.ownBlock ≠ some g := by
  rcases h2 with e | e
  · rw [e]; exact h
  · rw [e]
    intro e2
    injection e2 with e2
    have := hX.lt
    omega
end

theorem step_none {ops : Array Oper} {o : Oper} {a : Act} {w : World} {K : Act → World → Prop} {Q : Exit → Act → World → Prop} {E : Prop} (hgd : o.guard = none) (d : Nat) (hd : o.dst = some d) (ho : o.op = .buildSlice 64 0 #[])
    (h : K (a.put (some d) (.slice (some ⟨w.heap.size, 0, none⟩) 0 0)) (w.alloc (.cells #[] 42))) : if Region.wanted o (yielded ops a.tmps) = true then Oper.wp Try.prog o a w K Q else E := by
  have hw : Region.wanted o (yielded ops a.tmps) = true := by simp [Region.wanted, hgd]
  rw [if_pos hw]
  unfold Oper.wp execOp
  simp only [ho, List.map_toArray, List.map_nil, Sem.run_bind, run_build_none IdT.doc, Result.andThen_ok, Sem.run_pure]
  show K (a.put o.dst _) _
  rw [hd]
  exact h
theorem step_one {ops : Array Oper} {o : Oper} {a : Act} {w : World} {K : Act → World → Prop} {Q : Exit → Act → World → Prop} {E : Prop} (x : IDv) (hgd : o.guard = none) (d : Nat) (hd : o.dst = some d) (y : Operand) (ho : o.op = .buildSlice 64 1 #[(0, y)]) (hy : a.eval y = .agg (encID x).toArray)
    (h : K (a.put (some d) (.slice (some ⟨w.heap.size, 0, none⟩) 1 1)) (w.alloc (.cells (encID x).toArray 42))) : if Region.wanted o (yielded ops a.tmps) = true then Oper.wp Try.prog o a w K Q else E := by
  have hw : Region.wanted o (yielded ops a.tmps) = true := by simp [Region.wanted, hgd]
  rw [if_pos hw]
  refine wp_build_one IdT.doc x y ho hy ?_
  rw [hd]
  exact h
theorem step_app {ops : Array Oper} {o : Oper} {a : Act} {w : World} {K : Act → World → Prop} {Q : Exit → Act → World → Prop} {E : Prop} (hgd : o.guard = none) (d : Nat) (hd : o.dst = some d) (s x : Operand)
    (ho : o.op = .call { callee := .builtin .append, args := #[s, x], argTypes := #[64, 64] })
    {WZ : World} {v : Value} {L : List IDv} (hR : R9 WZ v L w) (hs : a.eval s = v) (y : Value) (M : List IDv) (hx : a.eval x = y) (hr : Src Try.prog 20 64 y M.length (flatI M) w) (h63 : L.length + M.length ≤ 100000)
    (h : ∀ v' w', R9 WZ v' (L ++ M) w' → w.grownBy w' v.ownBlock → (v'.ownBlock = v.ownBlock ∨ v'.ownBlock = some w.heap.size) → K (a.put (some d) v') w') :
    if Region.wanted o (yielded ops a.tmps) = true then Oper.wp Try.prog o a w K Q else E := by
  have hw : Region.wanted o (yielded ops a.tmps) = true := by simp [Region.wanted, hgd]
  rw [if_pos hw]
  refine wp_append_ids IdT.doc w s x ho WZ.heap.size v L.length L hs hR.own y M.length M hx hr h63 hR.bel.size (fun v' w' h2 h3 h4 => ?_)
  rw [hd]
  exact h v' w' (hR.app h2 h3) h3 h4
theorem own_mono {W : World} {b b' n size : Nat} {e : TypeId} {v : Value} {xs : List Value} (h : W.ownsRow b e size v n xs) (hb : b' ≤ b) : W.ownsRow b' e size v n xs :=
  ⟨h.1, h.2.imp id (fun ⟨g, cap, cur, h1, h2, h3⟩ => ⟨g, cap, cur, h1, Nat.le_trans hb h2, h3⟩)⟩
theorem src_zero (A : Option Addr) (c : Nat) (W : World) : Src Try.prog 20 64 (.slice A 0 c) ([] : List IDv).length (flatI []) W := (IAt.nil_ (w := W) (B := 0) (A := A)).src und64 c
theorem src_take {W : World} {g k c : Nat} {out : List IDv} (h : W.rangeAt g 0 (flatI out)) (hk : k ≤ out.length) : Src Try.prog 20 64 (.slice (some ⟨g, 0, none⟩) k c) (out.take k).length (flatI (out.take k)) W := by
  have hl : (out.take k).length = k := by rw [List.length_take]; omega
  rw [hl]
  refine Src.ofSlice _ und64 _ k c _ (by rw [flatI_length, hl]) (fun j u hu => ?_) (flatI_one _)
  rw [Addr.add_mid]
  refine h j u ?_
  rw [flatI_take, List.getElem?_take] at hu
  split at hu
  · exact hu
  · cases hu
theorem src_drop {W : World} {g k c : Nat} {out : List IDv} (h : W.rangeAt g 0 (flatI out)) : Src Try.prog 20 64 (.slice (some ⟨g, k * 20, none⟩) (out.length - k) c) (out.drop k).length (flatI (out.drop k)) W := by
  have hl : (out.drop k).length = out.length - k := by rw [List.length_drop]
  rw [hl]
  refine Src.ofSlice _ und64 _ _ c _ (by rw [flatI_length, hl]) (fun j u hu => ?_) (flatI_one _)
  rw [Addr.add_mid]
  rw [flatI_drop, List.getElem?_drop] at hu
  have := h _ u hu
  rwa [Nat.zero_add] at this
end Go.Proofs.Ytcoiaddjfeaciaa
end
