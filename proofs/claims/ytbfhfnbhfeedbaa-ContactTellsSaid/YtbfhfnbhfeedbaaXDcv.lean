/- Bytes as a string. No condition. -/
import Derived.Test.YtbfhfnbhfeedbaaXPDre
import Derived.Lib.ConvBytes
namespace Go.Proofs.Ytbfhfnbhfeedbaa
set_option maxRecDepth 100000
open Go.RowKit Go.Lib Go.Great
/-- Bytes as a string. -/
def bstr (xs : List UInt8) : ByteArray := ⟨xs.toArray⟩
theorem bstr_fold (xs : List UInt8) (s : ByteArray) : (xs.map fun c => ((c.toNat : Nat) : Int)).foldl (fun r n => r.push (UInt8.ofNat n.toNat)) s = ⟨s.data ++ xs.toArray⟩ := by
  induction xs generalizing s with
  | nil => simp
  | cons c xs ih =>
    simp only [List.map_cons, List.foldl_cons]
    rw [ih]
    apply congrArg ByteArray.mk
    apply Array.ext'
    simp [ByteArray.push]
theorem run_convert_bat {P : Program} {w : World} {B : Nat} {A : Option Addr} {xs : List UInt8} (src dst e : TypeId) (c : Nat) (hs : P.underlying src = some (.slice e)) (he : P.underlying e = some (.int .u8)) (hd : P.underlying dst = some .string)
    (h : BAt w B A xs) : (convert src dst (.slice A xs.length c)).run P w = .ok (.string (bstr xs)) w := by
  rw [run_convert_bytes_string w src dst e A xs.length c hs he hd]
  cases A with
  | none =>
    obtain rfl : xs = [] := by
      rcases h with h | ⟨_, _, h, _⟩
      · exact h
      · cases h
    simp [Conv.bytesToString, bstr]
    rfl
  | some a =>
    rw [run_bytesToString w a xs.length c (xs.map fun c => ((c.toNat : Nat) : Int)), bstr_fold]
    · simp [bstr]
    · have hl := run_firstCells_some (P := P) w 1 xs.length a xs.length c (bcells xs) (by rw [bcells_length, Nat.mul_one]) (fun j u hu => ?_)
      · simp [Builtin.firstCells] at hl
        rw [hl]
        simp [bcells]
      · rcases h with rfl | ⟨g, off, ha, hg, hc⟩
        · simp [bcells] at hu
        · injection ha with ha
          subst ha
          have hj : j < xs.length := by
            have := (List.getElem?_eq_some_iff.1 hu).1
            rwa [bcells_length] at this
          rw [bcells_get xs j hj] at hu
          rw [← hu, ← hc j hj]
          congr 1
          unfold Addr.add
          split <;> simp_all
theorem conv_own {w : World} {base n : Nat} {v : Value} {xs : List UInt8} (h : w.ownsRow base 5 1 v n (bcells xs)) : (convert 22 9 v).run Try.prog w = .ok (.string (bstr xs)) w := by
  obtain ⟨A, c, rfl, hb, _⟩ := own_bat h
  exact run_convert_bat 22 9 5 c Try.underlying22 Try.underlying5 Try.underlying9 hb
/-- The value v, in blocks of its own that are not e, holds the bytes L. -/
def OwnE (w : World) (v : Value) (e : Nat) (L : List UInt8) : Prop := ∃ base n, w.ownsRow base 5 1 v n (bcells L) ∧ e < base
theorem OwnE.conv {w : World} {v : Value} {e : Nat} {L : List UInt8} (h : OwnE w v e L) : (convert 22 9 v).run Try.prog w = .ok (.string (bstr L)) w := by
  obtain ⟨base, n, o, _⟩ := h
  exact conv_own o
theorem OwnE.grown {w w' : World} {v : Value} {e : Nat} {L : List UInt8} (h : OwnE w v e L) (hg : w.grownBy w' (some e)) : OwnE w' v e L := by
  obtain ⟨base, n, o, he⟩ := h
  refine ⟨base, n, o.kept hg ?_, he⟩
  cases hk : v.ownBlock with
  | none => exact .inl rfl
  | some k =>
    right
    have := (o.lt k hk).1
    intro q
    injection q with q
    omega
end Go.Proofs.Ytbfhfnbhfeedbaa
