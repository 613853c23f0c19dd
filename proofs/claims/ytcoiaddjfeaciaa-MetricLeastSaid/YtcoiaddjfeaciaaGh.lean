/- Contract of slices.SortFunc at ids, with the closure of ident.Sort. Conditions: fewer than 2^62 ids. Contract of slices.Clone at ids. Conditions: the ids fit the memory. -/
import Derived.Test.YtcoiaddjfeaciaaGg
import Derived.Test.YtcoiaddjfeaciaaOrd
import Derived.Shelf.SlicesE.Clone
section
namespace Go.Proofs.Ytcoiaddjfeaciaa
open Go.Shelf Go.RowKit Go.Lib Go.Sort
set_option maxRecDepth 100000

/-- An id. -/
def IDv : Type := { xs : List UInt8 // xs.length = 20 }
instance : Inhabited IDv := ⟨⟨List.replicate 20 0, by simp⟩⟩
def encID (x : IDv) : List Value := bcells x.val
def cfID (x y : IDv) : Int := cmpL x.val y.val
def nID (x : IDv) : Nat := getN x.val
theorem ltID (x y : IDv) : ltOf cfID x y = decide (nID x < nID y) := by
  unfold ltOf cfID nID
  have := cmpL_lt x.val y.val (x.property.trans y.property.symm)
  by_cases h : getN x.val < getN y.val
  · rw [decide_eq_true h, decide_eq_true (this.2 h)]
  · rw [decide_eq_false h, decide_eq_false (fun e => h (this.1 e))]
theorem swoID : SWO (ltOf cfID) where
  irrefl x := by rw [ltID]; simp
  trans x y z h1 h2 := by rw [ltID] at *; simp at *; omega
  ntrans x y z h1 h2 := by rw [ltID] at *; simp at *; omega
theorem clo70_lays (blk off size : Nat) (w : World) : CmpLays Try.prog 70 #[] encID 20 cfID blk off size w :=
  fun _ _ _ _ x y => (clo70_g x.val y.val x.property y.property _).mono (by rintro e w' ⟨he, hg⟩; exact ⟨he, hg.form⟩)
theorem sortf_any (blk off cap : Nat) (d : Array IDv) (w : World) (hH : HoldsK encID 20 w blk off d) (hblk : blk < w.heap.size) (hsz : d.size < 4611686018427387904) :
    Calls Try.prog 69 #[.slice (some ⟨blk, off, none⟩) d.size cap, .func (.func 70) #[] #[]] w fun e w' => e = .returned (.tuple #[]) ∧ ∃ d' n os, PermIn 0 d.size d d' ∧ SortedIn (ltOf cfID) 0 d.size d' ∧ w' = sortWorldK encID 20 w blk off n d' os := by
  have eg : ∀ args w, (callFunc 70 args).run Try.prog w = .ok (.enter 70 args) w := enters_of Try.func70 (by kernel_rfl) rfl
  have hcon := AnyQ.slices_SortFunc Try.sortID 20 (fun w => by kernel_rfl) (fun w => by kernel_rfl) encID (fun x => by unfold encID; rw [bcells_length, x.property]) (fun x v hv => bcells_one _ v hv) cfID swoID 70 #[] blk off cap d w eg (clo70_lays blk off d.size w) hH hblk hsz
  exact hcon
end Go.Proofs.Ytcoiaddjfeaciaa
end
section
namespace Go.Proofs
open Go.Shelf Go.RowKit Go.Lib Go.Sort
def Try.cloneID_ren : Go.Shelf.Ren := ⟨fun | 41 => 68 | n => n, fun | 22 => 62 | 23 => 26 | 4 => 4 | n => n, fun | n => n⟩
theorem Try.cloneID : Go.Proofs.SlLaysE0.n41 Try.prog Try.cloneID_ren := {
  mixed := by kernel_rfl
  f41 := ⟨Try.f68.name, by decide, Try.func68.trans (congrArg some (by kernel_rfl))⟩
  t4 := Try.underlying4
  a4 := Try.isAgg4
  z4 := Try.sizeOf4
  v4 := Try.zeroValue4
  t22 := Try.underlying62
  a22 := Try.isAgg62
  z22 := Try.sizeOf62
  v22 := Try.zeroValue62 }
end Go.Proofs
namespace Go.Proofs.Ytcoiaddjfeaciaa
open Go.Shelf Go.RowKit Go.Lib Go.Sort
set_option maxRecDepth 100000

theorem info26 : ∃ i0, Try.prog.info? 26 = some i0 ∧ i0.zero = some (.agg (bcells (List.replicate 20 0)).toArray) ∧ i0.size = 20 ∧ i0.bytes = 20 := by
  have h : (Try.prog.info? 26).map (fun i => (i.zero, i.size, i.bytes)) = some (some (.agg (bcells (List.replicate 20 0)).toArray), 20, 20) := by kernel_rfl
  cases hi : Try.prog.info? 26 with
  | none => rw [hi] at h; cases h
  | some i =>
    rw [hi] at h
    simp only [Option.map_some, Option.some.injEq, Prod.mk.injEq] at h
    exact ⟨i, rfl, h.1, h.2.1, h.2.2⟩
theorem clone_ids (b off n c : Nat) (news : List Value) (w : World) (hl : news.length = n * 20) (hn : n ≤ 1000)
    (hc : ∀ j u, news[j]? = some u → w.cell? ⟨b, off + j, none⟩ = some u) (h1 : ∀ u ∈ news, u.oneCell' = true) :
    Calls Try.prog 68 #[.slice (some ⟨b, off, none⟩) n c] w fun e w' => ∃ v', e = .returned v' ∧ w'.ownsRow w.heap.size 26 20 v' n news ∧ v' ≠ .slice none 0 0 ∧ Below w.heap.size w w' := by
  obtain ⟨i0, hi, hz0, hz1, hz2⟩ := info26
  exact AnyE.slices_Clone Try.cloneID i0 _ 20 20 hi hz0 hz1 hz2 (by simp [Value.cells, bcells]) (by omega) (fun w => by kernel_rfl) b off n c news w hl (by simp only [maxLen]; omega) (by omega) hc h1
theorem clone_nil (n c : Nat) (w : World) : Calls Try.prog 68 #[.slice none n c] w fun e w' => e = .returned (.slice none 0 0) ∧ w' = w := AnyE.slices_Clone_nil Try.cloneID n c w
end Go.Proofs.Ytcoiaddjfeaciaa
end
