/- Contracts of Good and Fold of signpostref09. Conditions: at most 100,000 bytes. Contract of Fold of signpostref09. Conditions: at most 100,000 bytes. Contract of Wire of signpostref09. Conditions: at most 100,000 bytes. What the statements of label lean on: contracts in one form, and the chapter's examples. Conditions: at most 50,000 bytes. Slices of bytes and numbers that come in, as lists. No condition. Contract of Xor of package ident. Conditions: an id has 20 bytes. Regions that draw their order and whose calls only make memory of their own: one walk, in every world that keeps what lay below a bound. No condition. Words on slices of bytes for the walks of this seat: plain lemmas on memory, over any program. No condition. Numbers as bytes: plain lemmas without a program. No condition. Contracts of the functions of package octet that make bytes, and of their references: what Put and Text put. Conditions: the bytes that come in are fewer than a million. Contracts of the references of Put and Text. Conditions: the bytes that come in are fewer than a million. A reader of package octet in memory, and contracts of the calls that read: Num, Take, Text, Left, Bad, Done. Conditions: the bytes that are left are fewer than 900,000. What a reader tells and what is left of it: plain definitions without a program. No condition. -/
import Derived.Test.YtehgpnnfjgmiiaaGreatProg
import Derived.Test.YtehgpnnfjgmiiaaGreatXJLch
import Derived.Deep.Cut
import Derived.Deep.QuietTactic
import Derived.Test.YtehgpnnfjgmiiaaGreatXJPWords
import Derived.Maps.AppendAt
import Derived.RangeFuncBox
import Derived.Lib.AppendStr
import Derived.Test.YtehgpnnfjgmiiaaGreatXJLcb
import Derived.Test.YtehgpnnfjgmiiaaGreatRows
import Derived.ProofKit
import Derived.OpenShut
import Derived.ChangeOld
import Derived.SizedLaws
import Derived.LoopTactic
import Derived.Laws.BitsAllLaws
import Derived.Deep.MidRow
import Derived.Deep.DeepCutAuto
import Derived.Great.BuildSlice
import Derived.Lib.SlBytesConst
import Derived.Stop.BytesEq
import Derived.BigQuiet
import Derived.WalkKit
import Derived.Deep.AppendSrc
import Derived.Laws.BytesString
import Derived.Laws.CopyOwn
import Derived.Deep.AppendLies
import Derived.Deep.Draws
import Derived.WalkSpells
import Derived.WalkLawsBesides
import Derived.Lib.Hide
import Derived.Outline
import Derived.Laws.BitsLemmas
import Derived.Laws.Bits64
section
namespace Go.Proofs.YtehgpnnfjgmiiaaGreat
open Go.Shelf Go.RowKit Go.Lib Go.Great
set_option maxRecDepth 100000
set_option maxHeartbeats 1000000
def RGoodR (L : List (List UInt8)) (W1 : World) (i : Value) (wr : World) : Prop := ∃ k : Nat, i = .int .i64 (k : Int) ∧ k ≤ L.length ∧ (∀ j, j < k → partL L[j]! = true) ∧ Below W1.heap.size W1 wr
theorem rparts_at (s : List UInt8) (hs : s.length ≤ 100000) (w : World) : Calls Tryz.prog 106 #[.string (bstr s)] w fun e w' => ∃ A c, e = .returned (.slice A (splitD s).length c) ∧ (splitD s).length ≤ c ∧ SAt w' w'.heap.size A (splitD s) ∧ Below w.heap.size w w' := by
  refine (rparts_any s hs w).mono ?_
  rintro e w' ⟨v, rfl, h1, h2⟩
  obtain ⟨A, c, rfl, h3, h4⟩ := h1.at_
  exact ⟨A, c, rfl, h3, h4, h2⟩
theorem rgood_any (s : List UInt8) (hs : s.length ≤ 100000) (w : World) : Calls Tryz.prog 87 #[.string (bstr s)] w fun e w' => e = .returned (.bool (goodL s)) ∧ Below w.heap.size w w' := by
  have hsz := bstr_size s
  have HP := Lib.hid (rparts_at s hs w)
  have HG := Lib.hid (goodL_iff s)
  have HLE := Lib.hid (splitD_length_le s)
  have HML : Hid (∀ p ∈ splitD s, p.length ≤ 100000) := Lib.hid (fun p hp => by
    have h1 : p.length + 1 ≤ sizeD (splitD s) := by
      obtain ⟨a, b, e⟩ := List.append_of_mem hp
      rw [e, sizeD_append, sizeD_cons]
      omega
    rw [sizeD_split] at h1
    omega)
  generalize splitD s = L at *
  obtain ⟨n, hn⟩ : ∃ n, n = s.length := ⟨_, rfl⟩
  rw [← hn] at hsz hs HG HLE
  generalize goodL s = g at *
  clear hn
  generalize bstr s = B at *
  go_enter Tryz.func87, Tryz.ntmps87
  go_upto_region 3 with (go_at_call 106; (with_reducible refine HP.out.mono ?_); rintro e w1 ⟨A, c, rfl, hc, hA, hb1⟩)
  have R0 : Hid (RGoodR L w1 (.int .i64 0) w1) := Lib.hid ⟨0, rfl, by omega, fun j hj => absurd hj (by omega), Below.refl _ _⟩
  have HA := Lib.hid hA
  have HB1 := Lib.hid hb1
  clear HP hA hb1
  obtain ⟨m, hm⟩ : ∃ m, m = L.length := ⟨_, rfl⟩
  rw [← hm] at hc ⊢
  have HM := Lib.hid hm
  clear hm
  have hm2 : m ≤ n + 1 := by rw [HM.out]; exact HLE.out
  go_loopw [4] (RGoodR L w1) (fun i _ => m - (RowKit.intOf i).toNat)
  case atStart => exact R0.out
  case round =>
    obtain ⟨k, rfl, hk, hF, hb⟩ := hrel
    rw [← HM.out] at hk
    clear R0
    have HF := Lib.hid hF
    have HBW := Lib.hid hb
    have HBX := Lib.hid (HB1.out.trans (hb.mono HB1.out.size))
    clear hF hb
    by_cases hlt : k < m
    · have hlt' : (k : Int) < (m : Int) := by omega
      have hls : k < L.length := by rw [← HM.out]; exact hlt
      rcases HA.out.below HBW.out with h0 | ⟨g0, off, rfl, hg0, hcell⟩
      · exact absurd (congrArg List.length h0) (by rw [← HM.out]; simp; omega)
      have hc1 := hcell k hls
      have hgl : L[k]! = L[k] := getElem!_pos L k hls
      have HPA := Lib.hid (rpart_any L[k] (HML.out _ (List.getElem_mem hls)) wr)
      have HNX : Hid (partL L[k] = true → ∀ wx, Below wr.heap.size wr wx → RGoodR L w1 (.int .i64 ((k : Int) + 1)) wx) := Lib.hid (fun h wx hx => ⟨k + 1, by simp, by rw [← HM.out]; omega, fun j hj => by
        by_cases e : j = k
        · subst e; rw [hgl]; exact h
        · exact HF.out j (by omega), HBW.out.trans (hx.mono HBW.out.size)⟩)
      have HST : Hid (partL L[k] = false → g = false) := Lib.hid (fun h => by
        rw [← Bool.not_eq_true]
        intro hg
        have := (HG.out.1 hg).1 L[k] (List.getElem_mem hls)
        rw [h] at this
        cases this)
      clear hcell hgl HF HA HM HG HLE hk
      unfold encT at hc1
      generalize L[k] = p at *
      cases hp : partL p
      · rw [hp] at HPA
        have hgf := HST.out hp
        clear hp HST HNX
        go_wp2_with (go_at_call 107; (with_reducible refine HPA.out.mono ?_); rintro e w2 ⟨rfl, hb2⟩)
        go_ret
        exact ⟨by simp [hgf], HBX.out.trans (hb2.mono HBX.out.size)⟩
      · rw [hp] at HPA
        have HP2 := Lib.hid hp
        clear hp HST
        go_wp2_with (go_at_call 107; (with_reducible refine HPA.out.mono ?_); rintro e w2 ⟨rfl, hb2⟩)
        exact ⟨HNX.out HP2.out _ hb2, by simp [RowKit.intOf]; omega⟩
    · obtain rfl : k = m := by omega
      have hnl : ¬ (k : Int) < (k : Int) := by omega
      have HALL : Hid (∀ p ∈ L, partL p = true) := Lib.hid (fun p hp => by
        obtain ⟨i, hi, rfl⟩ := List.mem_iff_getElem.1 hp
        have := HF.out i (by rw [HM.out]; exact hi)
        rwa [getElem!_pos L i hi] at this)
      by_cases h253 : n ≤ 253
      · have hgt : g = true := HG.out.2 ⟨HALL.out, h253⟩
        have h' : (n : Int) + 2 ≤ 255 := by omega
        clear HA HF HG HALL
        go_wp2
        go_ret
        exact ⟨by simp [hgt]; try omega, HBX.out⟩
      · have hgt : g = false := by
          rw [← Bool.not_eq_true]
          intro h
          exact h253 (HG.out.1 h).2
        have h' : ¬ (n : Int) + 2 ≤ 255 := by omega
        clear HA HF HG HALL
        go_wp2
        go_ret
        exact ⟨by simp [hgt]; try omega, HBX.out⟩
end Go.Proofs.YtehgpnnfjgmiiaaGreat
end
section
namespace Go.Proofs.YtehgpnnfjgmiiaaGreat
open Go.Shelf Go.RowKit Go.Lib Go.Great
set_option maxRecDepth 100000
set_option maxHeartbeats 1000000
theorem foldC_eq2 (c : UInt8) : (65 ≤ c.toNat ∧ c.toNat ≤ 90 → (c.toNat : Int) + 97 - 65 = ((foldC c).toNat : Int)) := by
  intro h
  have := (foldC_eq c).1 h
  rw [← this]
  omega
theorem rfold_any (s : List UInt8) (hs : s.length ≤ 100000) (w : World) : Calls Tryz.prog 88 #[.string (bstr s)] w fun e w' => e = .returned (.string (bstr (foldL s))) ∧ Below w.heap.size w w' := by
  obtain ⟨c, W1, hcv, hB1, hc⟩ := str_in s w
  have R0 : Hid (FoldR s w (.int .i64 0) W1) := Lib.hid ⟨0, rfl, by omega, by simpa [foldL] using hB1⟩
  have HCONV : Hid (∀ W, BytesIn w w.heap.size (foldL s) W → (convert 31 9 (.slice (some ⟨w.heap.size, 0, none⟩) s.length c)).run Tryz.prog W = .ok (.string (bstr (foldL s))) W) := Lib.hid (fun W h => by
    have := run_convert_bat (P := Tryz.prog) 31 9 5 c Tryz.underlying31 Tryz.underlying5 Tryz.underlying9 h.bat
    rwa [foldL_length] at this)
  obtain ⟨n, hn⟩ : ∃ n, n = s.length := ⟨_, rfl⟩
  have HN := Lib.hid hn
  rw [← hn] at hcv HCONV hs hc
  clear hB1 hn
  generalize hS : bstr s = S at *
  generalize hT : bstr (foldL s) = T at *
  clear hS hT
  go_enter Tryz.func88, Tryz.ntmps88
  go_upto_region 3 with fail
  go_loopw [4] (FoldR s w) (fun i _ => n - (RowKit.intOf i).toNat)
  case atStart => exact R0.out
  case round =>
    obtain ⟨k, rfl, hk, hB⟩ := hrel
    rw [← HN.out] at hk
    clear R0 hcv
    by_cases hlt : k < n
    · have hlt' : (k : Int) < (n : Int) := by omega
      have hls : k < s.length := by rw [← HN.out]; exact hlt
      have hll : k < (foldL (s.take k) ++ s.drop k).length := by rw [List.length_append, foldL_length, List.length_take, List.length_drop]; omega
      have hget := hB.cell k hll
      rw [fold_at s k hls] at hget
      have hfree := hB.free k hll
      have HB2 := Lib.hid (hB.set (Nat.le_refl _) hll (foldC s[k]))
      rw [fold_step s k hls] at HB2
      have HSAME : Hid (foldC s[k] = s[k] → BytesIn w w.heap.size (foldL (s.take (k + 1)) ++ s.drop (k + 1)) wr) := Lib.hid (fun e => by
        rw [← fold_step s k hls, e]
        have : (foldL (s.take k) ++ s.drop k).set k s[k] = foldL (s.take k) ++ s.drop k := by
          rw [← fold_at s k hls, List.set_getElem_self]
        rw [this]
        exact hB)
      have HQ := Lib.hid (foldC_eq s[k])
      have HQ2 := Lib.hid (foldC_eq2 s[k])
      have hbyte := s[k].toNat_lt
      have HK1 : Hid (k + 1 ≤ s.length) := Lib.hid hls
      clear hB hll hk
      generalize s[k] = ch at *
      clear hls
      by_cases h65 : 65 ≤ ch.toNat
      · have h65' : (65 : Int) ≤ (ch.toNat : Int) := by omega
        by_cases h90 : ch.toNat ≤ 90
        · have h90' : (ch.toNat : Int) ≤ 90 := by omega
          have hwr := HQ2.out ⟨h65, h90⟩
          clear h65 h90
          go_wp2
          exact ⟨⟨k + 1, by simp, HK1.out, HB2.out⟩, by simp [RowKit.intOf]; omega⟩
        · have h90' : ¬ (ch.toNat : Int) ≤ 90 := by omega
          have HF : Hid (foldC ch = ch) := Lib.hid (HQ.out.2 (fun h => h90 h.2))
          clear h65 h90
          go_wp2
          exact ⟨⟨k + 1, by simp, HK1.out, HSAME.out HF.out⟩, by simp [RowKit.intOf]; omega⟩
      · have h65' : ¬ (65 : Int) ≤ (ch.toNat : Int) := by omega
        have HF : Hid (foldC ch = ch) := Lib.hid (HQ.out.2 (fun h => h65 h.1))
        clear h65
        go_wp2
        exact ⟨⟨k + 1, by simp, HK1.out, HSAME.out HF.out⟩, by simp [RowKit.intOf]; omega⟩
    · obtain rfl : k = n := by omega
      have hB' : BytesIn w w.heap.size (foldL s) wr := by
        rw [HN.out, List.take_length, List.drop_length, List.append_nil] at hB
        exact hB
      have HBW := Lib.hid hB'.bel
      have hcv2 := HCONV.out wr hB'
      clear hB hB' HCONV
      go_wp2
      go_ret
      exact ⟨rfl, HBW.out⟩
end Go.Proofs.YtehgpnnfjgmiiaaGreat
end
section
namespace Go.Proofs.YtehgpnnfjgmiiaaGreat
open Go.Shelf Go.RowKit Go.Lib Go.Great
set_option maxRecDepth 100000
set_option maxHeartbeats 1000000
theorem results_2b {fn : Func} {p q : Tmp} (h : fn.results = #[.tmp p, .tmp q]) {P : Program} (tmps : Array Value) (w : World) (u v : Value) (hp : tmps.getD p undef = u) (hq : tmps.getD q undef = v) : (results fn tmps).run P w = .ok (.tuple #[u, v]) w := by
  have hp' : tmps[p]?.getD undef = u := by simpa using hp
  have hq' : tmps[q]?.getD undef = v := by simpa using hq
  simp [results, h, hp', hq']
end Go.Proofs.YtehgpnnfjgmiiaaGreat
end
section
namespace Go.Proofs.YtehgpnnfjgmiiaaGreat
open Go.Shelf Go.RowKit Go.Lib Go.Great
set_option maxRecDepth 100000
set_option maxHeartbeats 1000000
/-- A slice of bytes. -/
def IsB (v : Value) (xs : List UInt8) (w : World) : Prop := ∃ A c, v = .slice A xs.length c ∧ xs.length ≤ c ∧ BAt w w.heap.size A xs
theorem IsB.of_own {base : Nat} {v : Value} {xs : List UInt8} {w : World} (h : w.ownsRow base 5 1 v xs.length (bcells xs)) : IsB v xs w := by
  have h2 := h
  rcases h.2 with ⟨hv, hn⟩ | ⟨g, cap, cur, hv, hb, hg, hn, _⟩
  · subst hv
    exact ⟨none, 0, by rw [hn], by omega, .inl (List.eq_nil_of_length_eq_zero hn)⟩
  · subst hv
    exact ⟨_, cap, rfl, hn, BAt.of_own h2 (Nat.le_refl _)⟩
theorem IsB.below {v : Value} {xs : List UInt8} {w w' : World} (h : IsB v xs w) (hb : Below w.heap.size w w') : IsB v xs w' := by
  obtain ⟨A, c, h1, h2, h3⟩ := h
  exact ⟨A, c, h1, h2, (h3.below hb).more hb.size⟩
theorem IsB.conv {v : Value} {xs : List UInt8} {w : World} (h : IsB v xs w) : (convert 31 9 v).run Tryz.prog w = .ok (.string (bstr xs)) w := by
  obtain ⟨A, c, rfl, _, h3⟩ := h
  exact run_convert_bat (P := Tryz.prog) 31 9 5 c Tryz.underlying31 Tryz.underlying5 Tryz.underlying9 h3
end Go.Proofs.YtehgpnnfjgmiiaaGreat
end
section
namespace Go.Proofs.YtehgpnnfjgmiiaaGreat
set_option maxRecDepth 100000
set_option linter.unusedVariables false
open Go.ChangeShapes Go.WideShapes Go.ChangeAt Go.RowKit

/-- The bytes of a row of numbers that fit a byte. -/
def bytesOf (zs : List Int) : List UInt8 := zs.map fun n => UInt8.ofNat n.toNat
section
variable {H : Type} {enc : TypeId × Value → H} {W : World} {base : Nat} {sp : Nat → Bool} {hd : Bool} {a : Option Addr} {len cap : Nat} {d : DataW H} {p : List MemPlace}
end
end Go.Proofs.YtehgpnnfjgmiiaaGreat
end
section
namespace Go.Proofs.YtehgpnnfjgmiiaaGreat
set_option maxRecDepth 100000
set_option maxHeartbeats 1000000
open Go.RowKit

theorem row_range {w : World} {g : Nat} {cs : List Value} {ty : TypeId} (h : w.heap[g]? = some (.cells cs.toArray ty (0, 0))) : w.rangeAt g 0 cs := fun i v hv => by
  rw [Nat.zero_add, cell_of_row w _ i _ ty (0, 0) h]
  simpa using hv
end Go.Proofs.YtehgpnnfjgmiiaaGreat
end
section
namespace Go.Proofs.YtehgpnnfjgmiiaaGreat
set_option maxRecDepth 100000
open Go.RowKit

theorem wp_loadV {P : Program} {op : Oper} {a : Act} {w : World} {K : Act → World → Prop} {Q : Exit → Act → World → Prop} (ty : TypeId) (x : Operand) (ho : op.op = .load ty x) (p : Addr) (hx : a.eval x = .pointer (some p)) (v : Value) (hl : (loadVar ty p).run P w = .ok v w)
    (h : K (a.put op.dst v) w) : op.wp P a w K Q := by
  unfold Oper.wp execOp
  simp only [ho, hx, Instr.loadAt, Instr.sureAddr, Sem.run_bind, Sem.run_pure, Result.andThen_ok, hl]
  exact h
end Go.Proofs.YtehgpnnfjgmiiaaGreat
end
section
namespace Go.Proofs.YtehgpnnfjgmiiaaGreat
set_option maxRecDepth 100000
open Go.RowKit

theorem bcells_append (xs ys : List UInt8) : bcells (xs ++ ys) = bcells xs ++ bcells ys := by simp [bcells]
theorem bcells_one (xs : List UInt8) : ∀ u ∈ bcells xs, u.oneCell' = true := by
  intro u hu
  obtain ⟨_, _, rfl⟩ := List.mem_map.1 hu
  rfl
section
variable {w w' : World} {B B' : Nat} {A : Option Addr} {xs : List UInt8}
/-- What stands at A is a source for append. -/
theorem BAt.src {P : Program} {t e' : TypeId} (hk : P.underlying t = some (.slice e')) (h : BAt w B A xs) (c : Nat) : Src P 1 t (.slice A xs.length c) xs.length (bcells xs) w := by
  cases A with
  | none =>
    have := h.none_
    subst this
    exact Src.ofNil w hk c
  | some a =>
    refine Src.ofSlice w hk a xs.length c (bcells xs) (by rw [bcells_length, Nat.mul_one]) (fun j u hu => ?_) (bcells_one xs)
    rcases h with rfl | ⟨g, off, ha, hg, hc⟩
    · simp [bcells] at hu
    · injection ha with ha
      subst ha
      have hj : j < xs.length := by
        have := (List.getElem?_eq_some_iff.1 hu).1
        rwa [bcells_length] at this
      rw [bcells_get xs j hj] at hu
      rw [← hu, ← hc j hj]
      congr 1
      unfold Addr.add
      split <;> simp_all
end

/-- One new byte as a source for append. -/
theorem src_one {P : Program} {t e' : TypeId} (hk : P.underlying t = some (.slice e')) (w : World) (e : TypeId) (n : Int) (b : UInt8) (h : n = (b.toNat : Int)) :
    Src P 1 t (.slice (some ⟨w.heap.size, 0, none⟩) 1 1) 1 (bcells [b]) (w.alloc (.cells #[.int .u8 n] e)) := by
  subst h
  refine Src.ofSlice _ hk _ 1 1 (bcells [b]) rfl (fun j u hu => ?_) (bcells_one _)
  match j, hu with
  | 0, hu =>
    simp [bcells] at hu
    subst hu
    simp [Addr.add]

theorem own_of_splice {w : World} {base g : Nat} {e : TypeId} {z : Value} {xs : List UInt8} {k : Nat} (hb : base ≤ g) (hl : xs.length + k ≤ maxLen)
    (h : w.heap[g]? = some (.cells (splice (List.replicate (xs.length + k) z) 0 (bcells xs)).toArray e (0, 0))) :
    w.ownsRow base e 1 (.slice (some ⟨g, 0, none⟩) xs.length (xs.length + k)) xs.length (bcells xs) := by
  refine ⟨by rw [bcells_length, Nat.mul_one], .inr ⟨g, _, _, rfl, hb, h, by omega, hl, ?_, ?_⟩⟩
  · simp [splice, bcells_length]
  · simp only [splice, List.take_zero, List.nil_append, Nat.mul_one]
    rw [← bcells_length xs]
    exact List.take_left

end Go.Proofs.YtehgpnnfjgmiiaaGreat
end
section
namespace Go.Proofs.YtehgpnnfjgmiiaaGreat
set_option maxRecDepth 100000

/-- The lowest k bytes of N, the most significant one first. -/
def putB (N k : Nat) : List UInt8 := (List.range k).map fun i => UInt8.ofNat (N / 2 ^ (8 * (k - 1 - i)))
theorem putB_length (N k : Nat) : (putB N k).length = k := by simp [putB]
theorem putB_take (N k i : Nat) (h : i < k) : (putB N k).take (i + 1) = (putB N k).take i ++ [UInt8.ofNat (N / 2 ^ (8 * (k - 1 - i)))] := by
  rw [List.take_succ_eq_append_getElem (by rw [putB_length]; exact h)]
  congr 2
  simp [putB]
theorem putB_all (N k : Nat) : (putB N k).take k = putB N k := List.take_of_length_le (by rw [putB_length]; exact Nat.le_refl _)

theorem byte_div (N j : Nat) : (N : Int) / 2 ^ j % 256 = ((UInt8.ofNat (N / 2 ^ j)).toNat : Int) := by
  have h : ((N : Int) / 2 ^ j) = ((N / 2 ^ j : Nat) : Int) := by
    rw [Int.natCast_ediv]; congr 1
  rw [h]
  simp

end Go.Proofs.YtehgpnnfjgmiiaaGreat
end
section
namespace Go.Proofs.YtehgpnnfjgmiiaaGreat
set_option maxRecDepth 100000
open Go.RowKit

/-- What a call leaves that answers a new slice of bytes. -/
def OwnB (w : World) (xs : List UInt8) (e : Ending) (w' : World) : Prop :=
  ∃ v, e = .returned v ∧ w'.ownsRow w.heap.size 5 1 v xs.length (bcells xs) ∧ Below w.heap.size w w'

theorem isWidth_yes (n : Int) (w : World) (h1 : 1 ≤ n) (h2 : n ≤ 8) : Calls Tryz.prog 49 #[.int .i64 n] w fun e w' => e = .returned (.bool true) ∧ w = w' := by
  have d1 : decide (1 ≤ n) = true := by simpa using h1
  have d2 : decide (n ≤ 8) = true := by simpa using h2
  go_enter Tryz.func49, Tryz.ntmps49
  go_wp2
  go_ret
  exact ⟨rfl, rfl⟩

theorem run_make_u8 (n c : Nat) (hnc : n ≤ c) (hc : c ≤ 2000000) (w : World) :
    (Instr.makeSlice 31 (.int .i64 (n : Int)) (.int .i64 (c : Int))).run Tryz.prog w = .ok (.slice (some ⟨w.heap.size, 0, none⟩) n c) (w.alloc (.cells (List.replicate c (Value.int .u8 0)).toArray 5)) := by
  obtain ⟨i0, hi, hz0, hz1, hz2⟩ := info_parts info5
  have hr := run_make (P := Tryz.prog) w 31 5 i0 _ Tryz.underlying31 hi hz0 .i64 .i64 n c (by omega) (by omega) (by rw [hz2]; omega) (by omega)
  simp only [Int.toNat_natCast, hz1] at hr
  rw [hr]
  congr 3
  apply Array.ext
  · simp [madeCells]
  · intro j h1 h2
    simp [madeCells, Value.cells, Nat.mod_one]

set_option maxRecDepth 100000 in
theorem grown_any (A : Option Addr) (c k : Nat) (xs : List UInt8) (w : World) (hx : BAt w w.heap.size A xs) (hl : xs.length ≤ 1000000) (hk : k ≤ 8) :
    Calls Tryz.prog 51 #[.slice A xs.length c, .int .i64 (k : Int)] w (OwnB w xs) := by
  have hmk : ∀ W, (Instr.makeSlice 31 (.int .i64 (xs.length : Int)) (.int .i64 ((xs.length : Int) + (k : Int)))).run Tryz.prog W = .ok (.slice (some ⟨W.heap.size, 0, none⟩) xs.length (xs.length + k)) (W.alloc (.cells (List.replicate (xs.length + k) (Value.int .u8 0)).toArray 5)) := fun W => by
    have := run_make_u8 xs.length (xs.length + k) (by omega) (by omega) W
    rwa [Int.natCast_add] at this
  go_enter Tryz.func51, Tryz.ntmps51
  go_wp2_with (with_reducible refine wpList_copy_splice rfl (.tmp 13) (.tmp 14) 31 31 rfl 5 Tryz.underlying31 (by kernel_rfl) _ _ _ _ _ _ rfl rfl w.heap.size 0 (List.replicate (xs.length + k) (Value.int .u8 0)) 5 (heap_alloc_new w _) (bcells xs) ?_ ?_ ?_ (bcells_one xs) w.heap.size w ((Below.refl _ w).alloc (Nat.le_refl _) _) (Nat.le_refl _) ?_)
  · rw [bcells_length]; simp
  · exact (hx.below ((Below.refl _ w).alloc (Nat.le_refl _) _)).cells
  · simp [bcells_length]
  · intro w1 hs hb
    go_wp2
    go_ret
    exact ⟨_, rfl, own_of_splice (Nat.le_refl _) (by simp only [maxLen]; omega) hs.out, hb⟩

/-- The relation of Put's loop. -/
def PutRel (w : World) (xs : List UInt8) (N k : Nat) (v i : Value) (wr : World) : Prop :=
  ∃ j : Nat, j ≤ k ∧ i = .int .i64 (j : Int) ∧ wr.ownsRow w.heap.size 5 1 v (xs.length + j) (bcells (xs ++ (putB N k).take j)) ∧ Below w.heap.size w wr

set_option maxRecDepth 100000 in
theorem put_yes (A : Option Addr) (c N k : Nat) (xs : List UInt8) (w : World) (hx : BAt w w.heap.size A xs) (hl : xs.length ≤ 1000000) (hN : N < 18446744073709551616) (hk1 : 1 ≤ k) (hk : k ≤ 8) :
    Calls Tryz.prog 22 #[.slice A xs.length c, .int .u64 (N : Int), .int .i64 (k : Int)] w (OwnB w (xs ++ putB N k)) := by
  obtain ⟨i0, hi, hz0, hz1, hz2⟩ := info_parts info5
  have HN := Lib.hid hN
  clear hN
  go_enter Tryz.func22, Tryz.ntmps22
  go_wp2_with (first
    | (go_at_call 49; refine (isWidth_yes _ _ (by omega) (by omega)).mono ?_; rintro e w1 ⟨rfl, rfl⟩)
    | (go_at_call 51; refine (grown_any A c k xs w hx hl hk).mono ?_; rintro e w1 ⟨v1, rfl, hown1, hb1⟩))
  go_loopw [7, 18] (PutRel w xs N k) (fun _ i _ => k - (intOf i).toNat)
  case atStart => exact ⟨0, Nat.zero_le _, rfl, by simpa using hown1, hb1⟩
  case round =>
    obtain ⟨j, hj, rfl, hown, hb⟩ := hrel
    by_cases hlt : j < k
    · go_wp2_with (at_builtin; refine wpList_append_src _ rfl (.tmp 21) (.tmp 30) _ _ rfl w.heap.size 5 i0 _ 1 Tryz.underlying31 hi hz0 hz1 hz2 rfl _ _ _ rfl (hown.alloc _) _ 1 (bcells [UInt8.ofNat (N / 2 ^ (8 * (k - 1 - j)))]) rfl (src_one Tryz.underlying31 _ _ _ _ (byte_div _ _)) (by simp only [maxLen]; omega) (by omega) (by have := hb.size; simp; omega) ?_; intro v2 w2 hown2 hg2 hat2)
      have R : PutRel w xs N k v2 (.int .i64 ((j : Int) + 1)) w2 := ⟨j + 1, by omega, by go_num, by rw [putB_take N k j hlt, ← List.append_assoc, bcells_append (xs ++ _)]; exact hown2, (hb.alloc hb.size _).grown hg2 (by have := hb.size; simp; omega) (fun b hbb => (hown.lt b hbb).1)⟩
      clear hown2 hg2 hat2 hown hb
      go_wp2
      go_roundw
      case rel => exact R
      case measure => simp [intOf]; omega
    · obtain rfl : j = k := by omega
      go_wp2
      go_ret
      exact ⟨_, rfl, by rw [List.length_append, putB_length]; simpa [putB_all] using hown, hb⟩

/-- What a call leaves that answers a new slice of bytes and an error's number. -/
def OwnB2 (w : World) (xs : List UInt8) (n : Int) (e : Ending) (w' : World) : Prop :=
  ∃ v, e = .returned (.tuple #[v, .int .i64 n]) ∧ w'.ownsRow w.heap.size 5 1 v xs.length (bcells xs) ∧ Below w.heap.size w w'

set_option maxRecDepth 100000 in
theorem text_yes (A : Option Addr) (c : Nat) (xs : List UInt8) (s : ByteArray) (w : World) (hx : BAt w w.heap.size A xs) (hl : xs.length ≤ 900000) (hs : s.size ≤ 1024) :
    Calls Tryz.prog 102 #[.slice A xs.length c, .string s] w (OwnB2 w (xs ++ (putB s.size 2 ++ s.data.toList)) 0) := by
  obtain ⟨i0, hi, hz0, hz1, hz2⟩ := info_parts info5
  have hp := put_yes A c s.size 2 xs w hx (by omega) (by omega) (by omega) (by omega)
  have HP := Lib.hid hp
  clear hp
  go_enter Tryz.func102, Tryz.ntmps102
  go_wp2_with (first
    | (go_at_call 22; refine (HP.out).mono ?_; rintro e w1 ⟨v1, rfl, hown1, hb1⟩)
    | (at_builtin; refine wpList_append_src _ rfl (.tmp 13) (.tmp 14) _ _ rfl w.heap.size 5 i0 _ 1 Tryz.underlying31 hi hz0 hz1 hz2 rfl _ _ _ rfl hown1 _ s.size (byteCells s) rfl (Src.ofString _ Tryz.underlying9 s) (by have := putB_length s.size 2; simp only [maxLen, List.length_append]; omega) (by have := putB_length s.size 2; simp only [List.length_append]; omega) hb1.size ?_; intro v2 w2 hown2 hg2 hat2))
  go_ret2
  refine ⟨v2, rfl, ?_, hb1.grown hg2 hb1.size (fun b hbb => (hown1.lt b hbb).1)⟩
  have e1 : (xs ++ (putB s.size 2 ++ s.data.toList)).length = (xs ++ putB s.size 2).length + s.size := by
    simp only [List.length_append, Array.length_toList]
    rw [Nat.add_assoc]
    rfl
  rw [e1, ← List.append_assoc, bcells_append (xs ++ _)]
  exact hown2

end Go.Proofs.YtehgpnnfjgmiiaaGreat
end
section
namespace Go.Proofs.YtehgpnnfjgmiiaaGreat
set_option maxRecDepth 100000
open Go.RowKit
set_option linter.unusedVariables false

/-- The relation of the loop of Put's reference. -/
def RPutRel (w : World) (xs : List UInt8) (N k : Nat) (v i : Value) (wr : World) : Prop :=
  ∃ j : Nat, j ≤ k ∧ i = .int .i64 ((k : Int) - 1 - j) ∧ wr.ownsRow w.heap.size 5 1 v (xs.length + j) (bcells (xs ++ (putB N k).take j)) ∧ Below w.heap.size w wr

set_option maxRecDepth 100000 in
theorem rput_yes (A : Option Addr) (c N k : Nat) (xs : List UInt8) (w : World) (hx : BAt w w.heap.size A xs) (hl : xs.length ≤ 1000000) (hN : N < 18446744073709551616) (hk1 : 1 ≤ k) (hk : k ≤ 8) :
    Calls Tryz.prog 26 #[.slice A xs.length c, .int .u64 (N : Int), .int .i64 (k : Int)] w (OwnB w (xs ++ putB N k)) := by
  obtain ⟨i0, hi, hz0, hz1, hz2⟩ := info_parts info5
  have HN := Lib.hid hN
  clear hN
  go_enter Tryz.func26, Tryz.ntmps26
  go_wp2_with (at_builtin; refine wpList_append_src _ rfl (.tmp 9) (.tmp 10) _ _ rfl w.heap.size 5 i0 _ 1 Tryz.underlying31 hi hz0 hz1 hz2 rfl (.slice (some ⟨w.heap.size, 0, none⟩) 0 0) 0 [] rfl (World.ownsRow_made (e := 5) (size := 1) w #[] 0 (Nat.le_refl _) (Nat.zero_le _) rfl) _ xs.length (bcells xs) rfl ((hx.below ((Below.refl _ w).alloc (Nat.le_refl _) _)).src Tryz.underlying31 _) (by simp only [maxLen]; omega) (by omega) (by simp) ?_; intro v1 w1 hown1 hg1 hat1; have hb1 : Below w.heap.size w w1 := ((Below.refl _ w).alloc (Nat.le_refl _) _).grown hg1 (by simp) (by simp [Value.ownBlock]); clear hg1 hat1)
  go_loopw [7, 8] (RPutRel w xs N k) (fun _ i _ => (intOf i + 1).toNat)
  case atStart => exact ⟨0, Nat.zero_le _, by simp, by simpa using hown1, hb1⟩
  case round =>
    obtain ⟨j, hj, rfl, hown, hb⟩ := hrel
    by_cases hlt : j < k
    · go_wp2_with (at_builtin; refine wpList_append_src _ rfl (.tmp 25) (.tmp 32) _ _ rfl w.heap.size 5 i0 _ 1 Tryz.underlying31 hi hz0 hz1 hz2 rfl _ _ _ rfl (hown.alloc _) _ 1 (bcells [UInt8.ofNat (N / 2 ^ (8 * (k - 1 - j)))]) rfl (src_one Tryz.underlying31 _ _ _ _ (byte_div _ _)) (by simp only [maxLen]; omega) (by omega) (by have := hb.size; simp; omega) ?_; intro v2 w2 hown2 hg2 hat2)
      go_roundw
      case rel => exact ⟨j + 1, by omega, by go_num, by rw [putB_take N k j hlt, ← List.append_assoc, bcells_append (xs ++ _)]; exact hown2, (hb.alloc hb.size _).grown hg2 (by have := hb.size; simp; omega) (fun b hbb => (hown.lt b hbb).1)⟩
      case measure => simp [intOf]; omega
    · obtain rfl : j = k := by omega
      go_wp2
      go_ret
      exact ⟨_, rfl, by rw [List.length_append, putB_length]; simpa [putB_all] using hown, hb⟩

set_option maxRecDepth 100000 in
theorem rtext_yes (A : Option Addr) (c : Nat) (xs : List UInt8) (s : ByteArray) (w : World) (hx : BAt w w.heap.size A xs) (hl : xs.length ≤ 900000) (hs : s.size ≤ 1024) :
    Calls Tryz.prog 82 #[.slice A xs.length c, .string s] w (OwnB2 w (xs ++ (putB s.size 2 ++ s.data.toList)) 0) := by
  obtain ⟨i0, hi, hz0, hz1, hz2⟩ := info_parts info5
  have hp := rput_yes A c s.size 2 xs w hx (by omega) (by omega) (by omega) (by omega)
  have HP := Lib.hid hp
  clear hp
  go_enter Tryz.func82, Tryz.ntmps82
  go_wp2_with (first
    | (go_at_call 26; refine (HP.out).mono ?_; rintro e w1 ⟨v1, rfl, hown1, hb1⟩)
    | (at_builtin; refine wpList_append_src _ rfl (.tmp 13) (.tmp 14) _ _ rfl w.heap.size 5 i0 _ 1 Tryz.underlying31 hi hz0 hz1 hz2 rfl _ _ _ rfl hown1 _ s.size (byteCells s) rfl (Src.ofString _ Tryz.underlying9 s) (by have := putB_length s.size 2; simp only [maxLen, List.length_append]; omega) (by have := putB_length s.size 2; simp only [List.length_append]; omega) hb1.size ?_; intro v2 w2 hown2 hg2 hat2))
  go_ret2
  refine ⟨v2, rfl, ?_, hb1.grown hg2 hb1.size (fun b hbb => (hown1.lt b hbb).1)⟩
  have e1 : (xs ++ (putB s.size 2 ++ s.data.toList)).length = (xs ++ putB s.size 2).length + s.size := by
    simp only [List.length_append, Array.length_toList]
    rw [Nat.add_assoc]
    rfl
  rw [e1, ← List.append_assoc, bcells_append (xs ++ _)]
  exact hown2

end Go.Proofs.YtehgpnnfjgmiiaaGreat
end
section
namespace Go.Proofs.YtehgpnnfjgmiiaaGreat
set_option maxRecDepth 100000
open Go.RowKit
set_option linter.unusedVariables false

theorem grownBy_setCell {w w1 : World} {g : Nat} (h : w.grownBy w1 (some g)) (j : Nat) (u : Value) : w.grownBy (w1.setCell ⟨g, j, none⟩ u) (some g) :=
  ⟨h.os, h.tape, h.output, by simpa [World.setCell] using h.size, fun i hi hne => (Below.heap_setCell w1 ⟨g, j, none⟩ u i (by rintro rfl; exact hne rfl)).trans (h.block i hi hne)⟩

end Go.Proofs.YtehgpnnfjgmiiaaGreat
end
section
namespace Go.Proofs.YtehgpnnfjgmiiaaGreat
set_option maxRecDepth 100000

/-- A reader: what is left, and whether it is bad. -/
structure St where
  ys : List UInt8
  bad : Bool

def takeOk (s : St) (n : Int) : Prop := s.bad = false ∧ 0 ≤ n ∧ n ≤ s.ys.length
instance (s : St) (n : Int) : Decidable (takeOk s n) := by unfold takeOk; exact inferInstance
def takeS (s : St) (n : Int) : St := if takeOk s n then ⟨s.ys.drop n.toNat, false⟩ else ⟨[], true⟩

end Go.Proofs.YtehgpnnfjgmiiaaGreat
end
