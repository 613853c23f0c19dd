/- What a reader tells and what is left of it: plain definitions without a program. No condition. -/
import Derived.Test.YteglihgoccemmaaMathb
import Derived.Test.YteglihgoccemmaaWords
namespace Go.Proofs.Yteglihgoccemmaa

/-- A reader: what is left, and whether it is bad. -/
structure St where
  ys : List UInt8
  bad : Bool

def numOk (s : St) (wd : Int) : Prop := s.bad = false ∧ 1 ≤ wd ∧ wd ≤ 8 ∧ wd ≤ s.ys.length
instance (s : St) (wd : Int) : Decidable (numOk s wd) := by unfold numOk; exact inferInstance
def numV (s : St) (wd : Int) : Nat := if numOk s wd then getN (s.ys.take wd.toNat) else 0
def numS (s : St) (wd : Int) : St := if numOk s wd then ⟨s.ys.drop wd.toNat, false⟩ else ⟨[], true⟩

def takeOk (s : St) (n : Int) : Prop := s.bad = false ∧ 0 ≤ n ∧ n ≤ s.ys.length
instance (s : St) (n : Int) : Decidable (takeOk s n) := by unfold takeOk; exact inferInstance
def takeV (s : St) (n : Int) : List UInt8 := if takeOk s n then s.ys.take n.toNat else []
def takeS (s : St) (n : Int) : St := if takeOk s n then ⟨s.ys.drop n.toNat, false⟩ else ⟨[], true⟩

def txtOk (s : St) (most : Int) : Prop := s.bad = false ∧ 2 ≤ s.ys.length ∧ (getN (s.ys.take 2) : Int) ≤ most ∧ getN (s.ys.take 2) ≤ 1024 ∧ getN (s.ys.take 2) + 2 ≤ s.ys.length
instance (s : St) (n : Int) : Decidable (txtOk s n) := by unfold txtOk; exact inferInstance
def txtV (s : St) (most : Int) : List UInt8 := if txtOk s most then (s.ys.drop 2).take (getN (s.ys.take 2)) else []
def txtS (s : St) (most : Int) : St := if txtOk s most then ⟨(s.ys.drop 2).drop (getN (s.ys.take 2)), false⟩ else ⟨[], true⟩

/-- What Done tells. -/
def doneE (s : St) : Int := if s.bad = true ∨ 0 < s.ys.length then 10 else 0

end Go.Proofs.Yteglihgoccemmaa
