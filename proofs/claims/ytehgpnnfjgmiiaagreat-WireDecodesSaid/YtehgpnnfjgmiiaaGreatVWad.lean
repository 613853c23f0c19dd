/- isList and Good of the program. Conditions: at most 10,000 contacts, targets of at most 100,000 bytes. -/
import Derived.Test.YtehgpnnfjgmiiaaGreatVWaq
import Derived.Test.YtehgpnnfjgmiiaaGreatVNCra
namespace Go.Proofs.YtehgpnnfjgmiiaaGreat
open Go.Shelf Go.RowKit Go.Lib Go.Great
set_option maxRecDepth 100000
set_option maxHeartbeats 1000000
theorem islist_any (v : Value) (L : List Con) (w : World) (h : ConV w v L) (hL : L.length ≤ 10000) : Calls Tryz.prog 32 #[v] w fun e w' => e = .returned (.bool (goodC (ctsC L))) ∧ Below w.heap.size w w' := by
  obtain ⟨A, c, rfl, hA, hA2⟩ := h
  have HC := Lib.hid (clist_any A c L w hL hA hA2)
  change Hid (Calls Tryz.prog 53 #[.slice A L.length c] w fun e w' => ∃ v, e = .returned (.tuple #[v, .int .i64 (if goodC (ctsC L) then 0 else 2)]) ∧ w'.ownsRow w.heap.size 5 1 v (if goodC (ctsC L) then listC (ctsC L) else []).length (bcells (if goodC (ctsC L) then listC (ctsC L) else [])) ∧ Below w.heap.size w w') at HC
  clear hA hA2
  cases hg : goodC (ctsC L) with
  | false =>
    rw [hg] at HC
    simp only [Bool.false_eq_true, if_false] at HC
    go_enter Tryz.func32, Tryz.ntmps32
    go_wp2_with (go_at_call 53; (with_reducible refine HC.out.mono ?_); rintro e w1 ⟨v1, rfl, _, hb1⟩)
    go_ret
    exact ⟨rfl, hb1⟩
  | true =>
    rw [hg] at HC
    simp only [if_true] at HC
    go_enter Tryz.func32, Tryz.ntmps32
    go_wp2_with (go_at_call 53; (with_reducible refine HC.out.mono ?_); rintro e w1 ⟨v1, rfl, _, hb1⟩)
    go_ret
    exact ⟨rfl, hb1⟩
/-- What Good asks of a message, behind its box. -/
structure GooK (w : World) (X : Array Value) (k : Int) (Y : Array Value) (y : Bool) (A A' : Option Addr) (n c r c' : Nat) (G S : Bool) : Prop where
  q0 : (w.alloc (.cells X 28)).cell? ⟨w.heap.size, 0, none⟩ = some (.int .i64 k)
  q1 : (w.alloc (.cells X 28)).cell? ⟨w.heap.size, 42, none⟩ = some (.slice A n c)
  q2 : (w.alloc (.cells X 28)).cell? ⟨w.heap.size, 43, none⟩ = some (.slice A' r c')
  q2b : ∀ W, Below (w.heap.size + 1) (w.alloc (.cells X 28)) W → W.cell? ⟨w.heap.size, 43, none⟩ = some (.slice A' r c')
  hk : (loadVar 24 ⟨w.heap.size, 22, none⟩).run Tryz.prog (w.alloc (.cells X 28)) = .ok (.agg Y) (w.alloc (.cells X 28))
  he : ∀ W, (Op.equalIn 10000 24 (.agg Y) (.agg #[.int .u8 0, .int .u8 0, .int .u8 0, .int .u8 0, .int .u8 0, .int .u8 0, .int .u8 0, .int .u8 0, .int .u8 0, .int .u8 0, .int .u8 0, .int .u8 0, .int .u8 0, .int .u8 0, .int .u8 0, .int .u8 0, .int .u8 0, .int .u8 0, .int .u8 0, .int .u8 0])).run Tryz.prog W = .ok y W
  c32 : Calls Tryz.prog 32 #[.slice A n c] (w.alloc (.cells X 28)) fun e w' => e = .returned (.bool G) ∧ Below (w.heap.size + 1) (w.alloc (.cells X 28)) w'
  c33 : Calls Tryz.prog 33 #[.slice A' r c'] (w.alloc (.cells X 28)) fun e w' => e = .returned (.bool S) ∧ Below (w.heap.size + 1) (w.alloc (.cells X 28)) w'
  hb : Below w.heap.size w (w.alloc (.cells X 28))
def goodK (k : Int) (y : Bool) (n r : Nat) (G S : Bool) : Bool :=
  if k = 1 ∨ k = 5 then y && (decide (n = 0) && decide (r = 0))
  else if k = 2 ∨ k = 3 ∨ k = 8 ∨ k = 9 then decide (n = 0) && decide (r = 0)
  else if k = 6 then G && decide (r = 0)
  else if k = 4 ∨ k = 7 then decide (n = 0) && (decide (0 < r) && S)
  else false
section
variable {w : World} {X : Array Value} {Y : Array Value} {A A' : Option Addr} {n c r c' : Nat}
theorem go1_n (G : Bool) (S : Bool) (K : GooK w X 1 Y false A A' n c r c' G S) : Calls Tryz.prog 11 #[.agg X] w fun e w' => e = .returned (.bool false) ∧ Below w.heap.size w w' := by
  have HB := Lib.hid K.hb
  have q0 := K.q0
  have q1 := K.q1
  have q2 := K.q2
  have Q2 := Lib.hid K.q2b
  have HK := Lib.hid K.hk
  have he := K.he
  have H32 := Lib.hid K.c32
  have H33 := Lib.hid K.c33
  have HE : Hid (∀ W, Below (w.heap.size + 1) (w.alloc (.cells X 28)) W → Below w.heap.size w W) := Lib.hid (fun W hW => K.hb.trans (hW.mono (by omega)))
  clear K
  go_enter Tryz.func11, Tryz.ntmps11
  go_wp2_with (first
    | ((with_reducible refine wpList_loadV (op := ⟨some 19, _, _, _, _, _⟩) rfl 24 (.tmp 18) rfl _ ?_ _ HK.out ?_); rfl)
    | (go_at_call 32; (with_reducible refine H32.out.mono ?_); rintro e w1 ⟨rfl, hb1⟩; have q3 := Q2.out _ hb1)
    | (go_at_call 33; (with_reducible refine H33.out.mono ?_); rintro e w1 ⟨rfl, hb1⟩))
  go_ret
  first
    | exact ⟨rfl, HB.out⟩
    | exact ⟨rfl, HE.out _ hb1⟩
theorem go1_p (G : Bool) (S : Bool) (hn : 0 < n) (K : GooK w X 1 Y true A A' n c r c' G S) : Calls Tryz.prog 11 #[.agg X] w fun e w' => e = .returned (.bool false) ∧ Below w.heap.size w w' := by
  have bn : ((n : Int) == 0) = false := by simp; omega
  have HB := Lib.hid K.hb
  have q0 := K.q0
  have q1 := K.q1
  have q2 := K.q2
  have Q2 := Lib.hid K.q2b
  have HK := Lib.hid K.hk
  have he := K.he
  have H32 := Lib.hid K.c32
  have H33 := Lib.hid K.c33
  have HE : Hid (∀ W, Below (w.heap.size + 1) (w.alloc (.cells X 28)) W → Below w.heap.size w W) := Lib.hid (fun W hW => K.hb.trans (hW.mono (by omega)))
  clear K
  go_enter Tryz.func11, Tryz.ntmps11
  go_wp2_with (first
    | ((with_reducible refine wpList_loadV (op := ⟨some 19, _, _, _, _, _⟩) rfl 24 (.tmp 18) rfl _ ?_ _ HK.out ?_); rfl)
    | (go_at_call 32; (with_reducible refine H32.out.mono ?_); rintro e w1 ⟨rfl, hb1⟩; have q3 := Q2.out _ hb1)
    | (go_at_call 33; (with_reducible refine H33.out.mono ?_); rintro e w1 ⟨rfl, hb1⟩))
  go_ret
  first
    | exact ⟨rfl, HB.out⟩
    | exact ⟨rfl, HE.out _ hb1⟩
theorem go1_q (G : Bool) (S : Bool) (hr : 0 < r) (K : GooK w X 1 Y true A A' 0 c r c' G S) : Calls Tryz.prog 11 #[.agg X] w fun e w' => e = .returned (.bool false) ∧ Below w.heap.size w w' := by
  have br : ((r : Int) == 0) = false := by simp; omega
  have gr : (0 : Int) < (r : Int) := by omega
  have z0 : ((0 : Nat) : Int) = 0 := rfl
  have HB := Lib.hid K.hb
  have q0 := K.q0
  have q1 := K.q1
  have q2 := K.q2
  have Q2 := Lib.hid K.q2b
  have HK := Lib.hid K.hk
  have he := K.he
  have H32 := Lib.hid K.c32
  have H33 := Lib.hid K.c33
  have HE : Hid (∀ W, Below (w.heap.size + 1) (w.alloc (.cells X 28)) W → Below w.heap.size w W) := Lib.hid (fun W hW => K.hb.trans (hW.mono (by omega)))
  clear K
  go_enter Tryz.func11, Tryz.ntmps11
  go_wp2_with (first
    | ((with_reducible refine wpList_loadV (op := ⟨some 19, _, _, _, _, _⟩) rfl 24 (.tmp 18) rfl _ ?_ _ HK.out ?_); rfl)
    | (go_at_call 32; (with_reducible refine H32.out.mono ?_); rintro e w1 ⟨rfl, hb1⟩; have q3 := Q2.out _ hb1)
    | (go_at_call 33; (with_reducible refine H33.out.mono ?_); rintro e w1 ⟨rfl, hb1⟩))
  go_ret
  first
    | exact ⟨rfl, HB.out⟩
    | exact ⟨rfl, HE.out _ hb1⟩
theorem go1_y (G : Bool) (S : Bool) (K : GooK w X 1 Y true A A' 0 c 0 c' G S) : Calls Tryz.prog 11 #[.agg X] w fun e w' => e = .returned (.bool true) ∧ Below w.heap.size w w' := by
  have z0 : ((0 : Nat) : Int) = 0 := rfl
  have HB := Lib.hid K.hb
  have q0 := K.q0
  have q1 := K.q1
  have q2 := K.q2
  have Q2 := Lib.hid K.q2b
  have HK := Lib.hid K.hk
  have he := K.he
  have H32 := Lib.hid K.c32
  have H33 := Lib.hid K.c33
  have HE : Hid (∀ W, Below (w.heap.size + 1) (w.alloc (.cells X 28)) W → Below w.heap.size w W) := Lib.hid (fun W hW => K.hb.trans (hW.mono (by omega)))
  clear K
  go_enter Tryz.func11, Tryz.ntmps11
  go_wp2_with (first
    | ((with_reducible refine wpList_loadV (op := ⟨some 19, _, _, _, _, _⟩) rfl 24 (.tmp 18) rfl _ ?_ _ HK.out ?_); rfl)
    | (go_at_call 32; (with_reducible refine H32.out.mono ?_); rintro e w1 ⟨rfl, hb1⟩; have q3 := Q2.out _ hb1)
    | (go_at_call 33; (with_reducible refine H33.out.mono ?_); rintro e w1 ⟨rfl, hb1⟩))
  go_ret
  first
    | exact ⟨rfl, HB.out⟩
    | exact ⟨rfl, HE.out _ hb1⟩
theorem go5_n (G : Bool) (S : Bool) (K : GooK w X 5 Y false A A' n c r c' G S) : Calls Tryz.prog 11 #[.agg X] w fun e w' => e = .returned (.bool false) ∧ Below w.heap.size w w' := by
  have HB := Lib.hid K.hb
  have q0 := K.q0
  have q1 := K.q1
  have q2 := K.q2
  have Q2 := Lib.hid K.q2b
  have HK := Lib.hid K.hk
  have he := K.he
  have H32 := Lib.hid K.c32
  have H33 := Lib.hid K.c33
  have HE : Hid (∀ W, Below (w.heap.size + 1) (w.alloc (.cells X 28)) W → Below w.heap.size w W) := Lib.hid (fun W hW => K.hb.trans (hW.mono (by omega)))
  clear K
  go_enter Tryz.func11, Tryz.ntmps11
  go_wp2_with (first
    | ((with_reducible refine wpList_loadV (op := ⟨some 19, _, _, _, _, _⟩) rfl 24 (.tmp 18) rfl _ ?_ _ HK.out ?_); rfl)
    | (go_at_call 32; (with_reducible refine H32.out.mono ?_); rintro e w1 ⟨rfl, hb1⟩; have q3 := Q2.out _ hb1)
    | (go_at_call 33; (with_reducible refine H33.out.mono ?_); rintro e w1 ⟨rfl, hb1⟩))
  go_ret
  first
    | exact ⟨rfl, HB.out⟩
    | exact ⟨rfl, HE.out _ hb1⟩
theorem go5_p (G : Bool) (S : Bool) (hn : 0 < n) (K : GooK w X 5 Y true A A' n c r c' G S) : Calls Tryz.prog 11 #[.agg X] w fun e w' => e = .returned (.bool false) ∧ Below w.heap.size w w' := by
  have bn : ((n : Int) == 0) = false := by simp; omega
  have HB := Lib.hid K.hb
  have q0 := K.q0
  have q1 := K.q1
  have q2 := K.q2
  have Q2 := Lib.hid K.q2b
  have HK := Lib.hid K.hk
  have he := K.he
  have H32 := Lib.hid K.c32
  have H33 := Lib.hid K.c33
  have HE : Hid (∀ W, Below (w.heap.size + 1) (w.alloc (.cells X 28)) W → Below w.heap.size w W) := Lib.hid (fun W hW => K.hb.trans (hW.mono (by omega)))
  clear K
  go_enter Tryz.func11, Tryz.ntmps11
  go_wp2_with (first
    | ((with_reducible refine wpList_loadV (op := ⟨some 19, _, _, _, _, _⟩) rfl 24 (.tmp 18) rfl _ ?_ _ HK.out ?_); rfl)
    | (go_at_call 32; (with_reducible refine H32.out.mono ?_); rintro e w1 ⟨rfl, hb1⟩; have q3 := Q2.out _ hb1)
    | (go_at_call 33; (with_reducible refine H33.out.mono ?_); rintro e w1 ⟨rfl, hb1⟩))
  go_ret
  first
    | exact ⟨rfl, HB.out⟩
    | exact ⟨rfl, HE.out _ hb1⟩
theorem go5_q (G : Bool) (S : Bool) (hr : 0 < r) (K : GooK w X 5 Y true A A' 0 c r c' G S) : Calls Tryz.prog 11 #[.agg X] w fun e w' => e = .returned (.bool false) ∧ Below w.heap.size w w' := by
  have br : ((r : Int) == 0) = false := by simp; omega
  have gr : (0 : Int) < (r : Int) := by omega
  have z0 : ((0 : Nat) : Int) = 0 := rfl
  have HB := Lib.hid K.hb
  have q0 := K.q0
  have q1 := K.q1
  have q2 := K.q2
  have Q2 := Lib.hid K.q2b
  have HK := Lib.hid K.hk
  have he := K.he
  have H32 := Lib.hid K.c32
  have H33 := Lib.hid K.c33
  have HE : Hid (∀ W, Below (w.heap.size + 1) (w.alloc (.cells X 28)) W → Below w.heap.size w W) := Lib.hid (fun W hW => K.hb.trans (hW.mono (by omega)))
  clear K
  go_enter Tryz.func11, Tryz.ntmps11
  go_wp2_with (first
    | ((with_reducible refine wpList_loadV (op := ⟨some 19, _, _, _, _, _⟩) rfl 24 (.tmp 18) rfl _ ?_ _ HK.out ?_); rfl)
    | (go_at_call 32; (with_reducible refine H32.out.mono ?_); rintro e w1 ⟨rfl, hb1⟩; have q3 := Q2.out _ hb1)
    | (go_at_call 33; (with_reducible refine H33.out.mono ?_); rintro e w1 ⟨rfl, hb1⟩))
  go_ret
  first
    | exact ⟨rfl, HB.out⟩
    | exact ⟨rfl, HE.out _ hb1⟩
theorem go5_y (G : Bool) (S : Bool) (K : GooK w X 5 Y true A A' 0 c 0 c' G S) : Calls Tryz.prog 11 #[.agg X] w fun e w' => e = .returned (.bool true) ∧ Below w.heap.size w w' := by
  have z0 : ((0 : Nat) : Int) = 0 := rfl
  have HB := Lib.hid K.hb
  have q0 := K.q0
  have q1 := K.q1
  have q2 := K.q2
  have Q2 := Lib.hid K.q2b
  have HK := Lib.hid K.hk
  have he := K.he
  have H32 := Lib.hid K.c32
  have H33 := Lib.hid K.c33
  have HE : Hid (∀ W, Below (w.heap.size + 1) (w.alloc (.cells X 28)) W → Below w.heap.size w W) := Lib.hid (fun W hW => K.hb.trans (hW.mono (by omega)))
  clear K
  go_enter Tryz.func11, Tryz.ntmps11
  go_wp2_with (first
    | ((with_reducible refine wpList_loadV (op := ⟨some 19, _, _, _, _, _⟩) rfl 24 (.tmp 18) rfl _ ?_ _ HK.out ?_); rfl)
    | (go_at_call 32; (with_reducible refine H32.out.mono ?_); rintro e w1 ⟨rfl, hb1⟩; have q3 := Q2.out _ hb1)
    | (go_at_call 33; (with_reducible refine H33.out.mono ?_); rintro e w1 ⟨rfl, hb1⟩))
  go_ret
  first
    | exact ⟨rfl, HB.out⟩
    | exact ⟨rfl, HE.out _ hb1⟩
theorem go2_p (y : Bool) (G : Bool) (S : Bool) (hn : 0 < n) (K : GooK w X 2 Y y A A' n c r c' G S) : Calls Tryz.prog 11 #[.agg X] w fun e w' => e = .returned (.bool false) ∧ Below w.heap.size w w' := by
  have bn : ((n : Int) == 0) = false := by simp; omega
  have HB := Lib.hid K.hb
  have q0 := K.q0
  have q1 := K.q1
  have q2 := K.q2
  have Q2 := Lib.hid K.q2b
  have HK := Lib.hid K.hk
  have he := K.he
  have H32 := Lib.hid K.c32
  have H33 := Lib.hid K.c33
  have HE : Hid (∀ W, Below (w.heap.size + 1) (w.alloc (.cells X 28)) W → Below w.heap.size w W) := Lib.hid (fun W hW => K.hb.trans (hW.mono (by omega)))
  clear K
  go_enter Tryz.func11, Tryz.ntmps11
  go_wp2_with (first
    | ((with_reducible refine wpList_loadV (op := ⟨some 19, _, _, _, _, _⟩) rfl 24 (.tmp 18) rfl _ ?_ _ HK.out ?_); rfl)
    | (go_at_call 32; (with_reducible refine H32.out.mono ?_); rintro e w1 ⟨rfl, hb1⟩; have q3 := Q2.out _ hb1)
    | (go_at_call 33; (with_reducible refine H33.out.mono ?_); rintro e w1 ⟨rfl, hb1⟩))
  go_ret
  first
    | exact ⟨rfl, HB.out⟩
    | exact ⟨rfl, HE.out _ hb1⟩
theorem go2_q (y : Bool) (G : Bool) (S : Bool) (hr : 0 < r) (K : GooK w X 2 Y y A A' 0 c r c' G S) : Calls Tryz.prog 11 #[.agg X] w fun e w' => e = .returned (.bool false) ∧ Below w.heap.size w w' := by
  have br : ((r : Int) == 0) = false := by simp; omega
  have gr : (0 : Int) < (r : Int) := by omega
  have z0 : ((0 : Nat) : Int) = 0 := rfl
  have HB := Lib.hid K.hb
  have q0 := K.q0
  have q1 := K.q1
  have q2 := K.q2
  have Q2 := Lib.hid K.q2b
  have HK := Lib.hid K.hk
  have he := K.he
  have H32 := Lib.hid K.c32
  have H33 := Lib.hid K.c33
  have HE : Hid (∀ W, Below (w.heap.size + 1) (w.alloc (.cells X 28)) W → Below w.heap.size w W) := Lib.hid (fun W hW => K.hb.trans (hW.mono (by omega)))
  clear K
  go_enter Tryz.func11, Tryz.ntmps11
  go_wp2_with (first
    | ((with_reducible refine wpList_loadV (op := ⟨some 19, _, _, _, _, _⟩) rfl 24 (.tmp 18) rfl _ ?_ _ HK.out ?_); rfl)
    | (go_at_call 32; (with_reducible refine H32.out.mono ?_); rintro e w1 ⟨rfl, hb1⟩; have q3 := Q2.out _ hb1)
    | (go_at_call 33; (with_reducible refine H33.out.mono ?_); rintro e w1 ⟨rfl, hb1⟩))
  go_ret
  first
    | exact ⟨rfl, HB.out⟩
    | exact ⟨rfl, HE.out _ hb1⟩
theorem go2_y (y : Bool) (G : Bool) (S : Bool) (K : GooK w X 2 Y y A A' 0 c 0 c' G S) : Calls Tryz.prog 11 #[.agg X] w fun e w' => e = .returned (.bool true) ∧ Below w.heap.size w w' := by
  have z0 : ((0 : Nat) : Int) = 0 := rfl
  have HB := Lib.hid K.hb
  have q0 := K.q0
  have q1 := K.q1
  have q2 := K.q2
  have Q2 := Lib.hid K.q2b
  have HK := Lib.hid K.hk
  have he := K.he
  have H32 := Lib.hid K.c32
  have H33 := Lib.hid K.c33
  have HE : Hid (∀ W, Below (w.heap.size + 1) (w.alloc (.cells X 28)) W → Below w.heap.size w W) := Lib.hid (fun W hW => K.hb.trans (hW.mono (by omega)))
  clear K
  go_enter Tryz.func11, Tryz.ntmps11
  go_wp2_with (first
    | ((with_reducible refine wpList_loadV (op := ⟨some 19, _, _, _, _, _⟩) rfl 24 (.tmp 18) rfl _ ?_ _ HK.out ?_); rfl)
    | (go_at_call 32; (with_reducible refine H32.out.mono ?_); rintro e w1 ⟨rfl, hb1⟩; have q3 := Q2.out _ hb1)
    | (go_at_call 33; (with_reducible refine H33.out.mono ?_); rintro e w1 ⟨rfl, hb1⟩))
  go_ret
  first
    | exact ⟨rfl, HB.out⟩
    | exact ⟨rfl, HE.out _ hb1⟩
theorem go3_p (y : Bool) (G : Bool) (S : Bool) (hn : 0 < n) (K : GooK w X 3 Y y A A' n c r c' G S) : Calls Tryz.prog 11 #[.agg X] w fun e w' => e = .returned (.bool false) ∧ Below w.heap.size w w' := by
  have bn : ((n : Int) == 0) = false := by simp; omega
  have HB := Lib.hid K.hb
  have q0 := K.q0
  have q1 := K.q1
  have q2 := K.q2
  have Q2 := Lib.hid K.q2b
  have HK := Lib.hid K.hk
  have he := K.he
  have H32 := Lib.hid K.c32
  have H33 := Lib.hid K.c33
  have HE : Hid (∀ W, Below (w.heap.size + 1) (w.alloc (.cells X 28)) W → Below w.heap.size w W) := Lib.hid (fun W hW => K.hb.trans (hW.mono (by omega)))
  clear K
  go_enter Tryz.func11, Tryz.ntmps11
  go_wp2_with (first
    | ((with_reducible refine wpList_loadV (op := ⟨some 19, _, _, _, _, _⟩) rfl 24 (.tmp 18) rfl _ ?_ _ HK.out ?_); rfl)
    | (go_at_call 32; (with_reducible refine H32.out.mono ?_); rintro e w1 ⟨rfl, hb1⟩; have q3 := Q2.out _ hb1)
    | (go_at_call 33; (with_reducible refine H33.out.mono ?_); rintro e w1 ⟨rfl, hb1⟩))
  go_ret
  first
    | exact ⟨rfl, HB.out⟩
    | exact ⟨rfl, HE.out _ hb1⟩
theorem go3_q (y : Bool) (G : Bool) (S : Bool) (hr : 0 < r) (K : GooK w X 3 Y y A A' 0 c r c' G S) : Calls Tryz.prog 11 #[.agg X] w fun e w' => e = .returned (.bool false) ∧ Below w.heap.size w w' := by
  have br : ((r : Int) == 0) = false := by simp; omega
  have gr : (0 : Int) < (r : Int) := by omega
  have z0 : ((0 : Nat) : Int) = 0 := rfl
  have HB := Lib.hid K.hb
  have q0 := K.q0
  have q1 := K.q1
  have q2 := K.q2
  have Q2 := Lib.hid K.q2b
  have HK := Lib.hid K.hk
  have he := K.he
  have H32 := Lib.hid K.c32
  have H33 := Lib.hid K.c33
  have HE : Hid (∀ W, Below (w.heap.size + 1) (w.alloc (.cells X 28)) W → Below w.heap.size w W) := Lib.hid (fun W hW => K.hb.trans (hW.mono (by omega)))
  clear K
  go_enter Tryz.func11, Tryz.ntmps11
  go_wp2_with (first
    | ((with_reducible refine wpList_loadV (op := ⟨some 19, _, _, _, _, _⟩) rfl 24 (.tmp 18) rfl _ ?_ _ HK.out ?_); rfl)
    | (go_at_call 32; (with_reducible refine H32.out.mono ?_); rintro e w1 ⟨rfl, hb1⟩; have q3 := Q2.out _ hb1)
    | (go_at_call 33; (with_reducible refine H33.out.mono ?_); rintro e w1 ⟨rfl, hb1⟩))
  go_ret
  first
    | exact ⟨rfl, HB.out⟩
    | exact ⟨rfl, HE.out _ hb1⟩
theorem go3_y (y : Bool) (G : Bool) (S : Bool) (K : GooK w X 3 Y y A A' 0 c 0 c' G S) : Calls Tryz.prog 11 #[.agg X] w fun e w' => e = .returned (.bool true) ∧ Below w.heap.size w w' := by
  have z0 : ((0 : Nat) : Int) = 0 := rfl
  have HB := Lib.hid K.hb
  have q0 := K.q0
  have q1 := K.q1
  have q2 := K.q2
  have Q2 := Lib.hid K.q2b
  have HK := Lib.hid K.hk
  have he := K.he
  have H32 := Lib.hid K.c32
  have H33 := Lib.hid K.c33
  have HE : Hid (∀ W, Below (w.heap.size + 1) (w.alloc (.cells X 28)) W → Below w.heap.size w W) := Lib.hid (fun W hW => K.hb.trans (hW.mono (by omega)))
  clear K
  go_enter Tryz.func11, Tryz.ntmps11
  go_wp2_with (first
    | ((with_reducible refine wpList_loadV (op := ⟨some 19, _, _, _, _, _⟩) rfl 24 (.tmp 18) rfl _ ?_ _ HK.out ?_); rfl)
    | (go_at_call 32; (with_reducible refine H32.out.mono ?_); rintro e w1 ⟨rfl, hb1⟩; have q3 := Q2.out _ hb1)
    | (go_at_call 33; (with_reducible refine H33.out.mono ?_); rintro e w1 ⟨rfl, hb1⟩))
  go_ret
  first
    | exact ⟨rfl, HB.out⟩
    | exact ⟨rfl, HE.out _ hb1⟩
theorem go8_p (y : Bool) (G : Bool) (S : Bool) (hn : 0 < n) (K : GooK w X 8 Y y A A' n c r c' G S) : Calls Tryz.prog 11 #[.agg X] w fun e w' => e = .returned (.bool false) ∧ Below w.heap.size w w' := by
  have bn : ((n : Int) == 0) = false := by simp; omega
  have HB := Lib.hid K.hb
  have q0 := K.q0
  have q1 := K.q1
  have q2 := K.q2
  have Q2 := Lib.hid K.q2b
  have HK := Lib.hid K.hk
  have he := K.he
  have H32 := Lib.hid K.c32
  have H33 := Lib.hid K.c33
  have HE : Hid (∀ W, Below (w.heap.size + 1) (w.alloc (.cells X 28)) W → Below w.heap.size w W) := Lib.hid (fun W hW => K.hb.trans (hW.mono (by omega)))
  clear K
  go_enter Tryz.func11, Tryz.ntmps11
  go_wp2_with (first
    | ((with_reducible refine wpList_loadV (op := ⟨some 19, _, _, _, _, _⟩) rfl 24 (.tmp 18) rfl _ ?_ _ HK.out ?_); rfl)
    | (go_at_call 32; (with_reducible refine H32.out.mono ?_); rintro e w1 ⟨rfl, hb1⟩; have q3 := Q2.out _ hb1)
    | (go_at_call 33; (with_reducible refine H33.out.mono ?_); rintro e w1 ⟨rfl, hb1⟩))
  go_ret
  first
    | exact ⟨rfl, HB.out⟩
    | exact ⟨rfl, HE.out _ hb1⟩
theorem go8_q (y : Bool) (G : Bool) (S : Bool) (hr : 0 < r) (K : GooK w X 8 Y y A A' 0 c r c' G S) : Calls Tryz.prog 11 #[.agg X] w fun e w' => e = .returned (.bool false) ∧ Below w.heap.size w w' := by
  have br : ((r : Int) == 0) = false := by simp; omega
  have gr : (0 : Int) < (r : Int) := by omega
  have z0 : ((0 : Nat) : Int) = 0 := rfl
  have HB := Lib.hid K.hb
  have q0 := K.q0
  have q1 := K.q1
  have q2 := K.q2
  have Q2 := Lib.hid K.q2b
  have HK := Lib.hid K.hk
  have he := K.he
  have H32 := Lib.hid K.c32
  have H33 := Lib.hid K.c33
  have HE : Hid (∀ W, Below (w.heap.size + 1) (w.alloc (.cells X 28)) W → Below w.heap.size w W) := Lib.hid (fun W hW => K.hb.trans (hW.mono (by omega)))
  clear K
  go_enter Tryz.func11, Tryz.ntmps11
  go_wp2_with (first
    | ((with_reducible refine wpList_loadV (op := ⟨some 19, _, _, _, _, _⟩) rfl 24 (.tmp 18) rfl _ ?_ _ HK.out ?_); rfl)
    | (go_at_call 32; (with_reducible refine H32.out.mono ?_); rintro e w1 ⟨rfl, hb1⟩; have q3 := Q2.out _ hb1)
    | (go_at_call 33; (with_reducible refine H33.out.mono ?_); rintro e w1 ⟨rfl, hb1⟩))
  go_ret
  first
    | exact ⟨rfl, HB.out⟩
    | exact ⟨rfl, HE.out _ hb1⟩
theorem go8_y (y : Bool) (G : Bool) (S : Bool) (K : GooK w X 8 Y y A A' 0 c 0 c' G S) : Calls Tryz.prog 11 #[.agg X] w fun e w' => e = .returned (.bool true) ∧ Below w.heap.size w w' := by
  have z0 : ((0 : Nat) : Int) = 0 := rfl
  have HB := Lib.hid K.hb
  have q0 := K.q0
  have q1 := K.q1
  have q2 := K.q2
  have Q2 := Lib.hid K.q2b
  have HK := Lib.hid K.hk
  have he := K.he
  have H32 := Lib.hid K.c32
  have H33 := Lib.hid K.c33
  have HE : Hid (∀ W, Below (w.heap.size + 1) (w.alloc (.cells X 28)) W → Below w.heap.size w W) := Lib.hid (fun W hW => K.hb.trans (hW.mono (by omega)))
  clear K
  go_enter Tryz.func11, Tryz.ntmps11
  go_wp2_with (first
    | ((with_reducible refine wpList_loadV (op := ⟨some 19, _, _, _, _, _⟩) rfl 24 (.tmp 18) rfl _ ?_ _ HK.out ?_); rfl)
    | (go_at_call 32; (with_reducible refine H32.out.mono ?_); rintro e w1 ⟨rfl, hb1⟩; have q3 := Q2.out _ hb1)
    | (go_at_call 33; (with_reducible refine H33.out.mono ?_); rintro e w1 ⟨rfl, hb1⟩))
  go_ret
  first
    | exact ⟨rfl, HB.out⟩
    | exact ⟨rfl, HE.out _ hb1⟩
theorem go9_p (y : Bool) (G : Bool) (S : Bool) (hn : 0 < n) (K : GooK w X 9 Y y A A' n c r c' G S) : Calls Tryz.prog 11 #[.agg X] w fun e w' => e = .returned (.bool false) ∧ Below w.heap.size w w' := by
  have bn : ((n : Int) == 0) = false := by simp; omega
  have HB := Lib.hid K.hb
  have q0 := K.q0
  have q1 := K.q1
  have q2 := K.q2
  have Q2 := Lib.hid K.q2b
  have HK := Lib.hid K.hk
  have he := K.he
  have H32 := Lib.hid K.c32
  have H33 := Lib.hid K.c33
  have HE : Hid (∀ W, Below (w.heap.size + 1) (w.alloc (.cells X 28)) W → Below w.heap.size w W) := Lib.hid (fun W hW => K.hb.trans (hW.mono (by omega)))
  clear K
  go_enter Tryz.func11, Tryz.ntmps11
  go_wp2_with (first
    | ((with_reducible refine wpList_loadV (op := ⟨some 19, _, _, _, _, _⟩) rfl 24 (.tmp 18) rfl _ ?_ _ HK.out ?_); rfl)
    | (go_at_call 32; (with_reducible refine H32.out.mono ?_); rintro e w1 ⟨rfl, hb1⟩; have q3 := Q2.out _ hb1)
    | (go_at_call 33; (with_reducible refine H33.out.mono ?_); rintro e w1 ⟨rfl, hb1⟩))
  go_ret
  first
    | exact ⟨rfl, HB.out⟩
    | exact ⟨rfl, HE.out _ hb1⟩
theorem go9_q (y : Bool) (G : Bool) (S : Bool) (hr : 0 < r) (K : GooK w X 9 Y y A A' 0 c r c' G S) : Calls Tryz.prog 11 #[.agg X] w fun e w' => e = .returned (.bool false) ∧ Below w.heap.size w w' := by
  have br : ((r : Int) == 0) = false := by simp; omega
  have gr : (0 : Int) < (r : Int) := by omega
  have z0 : ((0 : Nat) : Int) = 0 := rfl
  have HB := Lib.hid K.hb
  have q0 := K.q0
  have q1 := K.q1
  have q2 := K.q2
  have Q2 := Lib.hid K.q2b
  have HK := Lib.hid K.hk
  have he := K.he
  have H32 := Lib.hid K.c32
  have H33 := Lib.hid K.c33
  have HE : Hid (∀ W, Below (w.heap.size + 1) (w.alloc (.cells X 28)) W → Below w.heap.size w W) := Lib.hid (fun W hW => K.hb.trans (hW.mono (by omega)))
  clear K
  go_enter Tryz.func11, Tryz.ntmps11
  go_wp2_with (first
    | ((with_reducible refine wpList_loadV (op := ⟨some 19, _, _, _, _, _⟩) rfl 24 (.tmp 18) rfl _ ?_ _ HK.out ?_); rfl)
    | (go_at_call 32; (with_reducible refine H32.out.mono ?_); rintro e w1 ⟨rfl, hb1⟩; have q3 := Q2.out _ hb1)
    | (go_at_call 33; (with_reducible refine H33.out.mono ?_); rintro e w1 ⟨rfl, hb1⟩))
  go_ret
  first
    | exact ⟨rfl, HB.out⟩
    | exact ⟨rfl, HE.out _ hb1⟩
theorem go9_y (y : Bool) (G : Bool) (S : Bool) (K : GooK w X 9 Y y A A' 0 c 0 c' G S) : Calls Tryz.prog 11 #[.agg X] w fun e w' => e = .returned (.bool true) ∧ Below w.heap.size w w' := by
  have z0 : ((0 : Nat) : Int) = 0 := rfl
  have HB := Lib.hid K.hb
  have q0 := K.q0
  have q1 := K.q1
  have q2 := K.q2
  have Q2 := Lib.hid K.q2b
  have HK := Lib.hid K.hk
  have he := K.he
  have H32 := Lib.hid K.c32
  have H33 := Lib.hid K.c33
  have HE : Hid (∀ W, Below (w.heap.size + 1) (w.alloc (.cells X 28)) W → Below w.heap.size w W) := Lib.hid (fun W hW => K.hb.trans (hW.mono (by omega)))
  clear K
  go_enter Tryz.func11, Tryz.ntmps11
  go_wp2_with (first
    | ((with_reducible refine wpList_loadV (op := ⟨some 19, _, _, _, _, _⟩) rfl 24 (.tmp 18) rfl _ ?_ _ HK.out ?_); rfl)
    | (go_at_call 32; (with_reducible refine H32.out.mono ?_); rintro e w1 ⟨rfl, hb1⟩; have q3 := Q2.out _ hb1)
    | (go_at_call 33; (with_reducible refine H33.out.mono ?_); rintro e w1 ⟨rfl, hb1⟩))
  go_ret
  first
    | exact ⟨rfl, HB.out⟩
    | exact ⟨rfl, HE.out _ hb1⟩
theorem go6_n (y : Bool) (S : Bool) (K : GooK w X 6 Y y A A' n c r c' false S) : Calls Tryz.prog 11 #[.agg X] w fun e w' => e = .returned (.bool false) ∧ Below w.heap.size w w' := by
  have HB := Lib.hid K.hb
  have q0 := K.q0
  have q1 := K.q1
  have q2 := K.q2
  have Q2 := Lib.hid K.q2b
  have HK := Lib.hid K.hk
  have he := K.he
  have H32 := Lib.hid K.c32
  have H33 := Lib.hid K.c33
  have HE : Hid (∀ W, Below (w.heap.size + 1) (w.alloc (.cells X 28)) W → Below w.heap.size w W) := Lib.hid (fun W hW => K.hb.trans (hW.mono (by omega)))
  clear K
  go_enter Tryz.func11, Tryz.ntmps11
  go_wp2_with (first
    | ((with_reducible refine wpList_loadV (op := ⟨some 19, _, _, _, _, _⟩) rfl 24 (.tmp 18) rfl _ ?_ _ HK.out ?_); rfl)
    | (go_at_call 32; (with_reducible refine H32.out.mono ?_); rintro e w1 ⟨rfl, hb1⟩; have q3 := Q2.out _ hb1)
    | (go_at_call 33; (with_reducible refine H33.out.mono ?_); rintro e w1 ⟨rfl, hb1⟩))
  go_ret
  first
    | exact ⟨rfl, HB.out⟩
    | exact ⟨rfl, HE.out _ hb1⟩
theorem go6_q (y : Bool) (S : Bool) (hr : 0 < r) (K : GooK w X 6 Y y A A' n c r c' true S) : Calls Tryz.prog 11 #[.agg X] w fun e w' => e = .returned (.bool false) ∧ Below w.heap.size w w' := by
  have br : ((r : Int) == 0) = false := by simp; omega
  have gr : (0 : Int) < (r : Int) := by omega
  have HB := Lib.hid K.hb
  have q0 := K.q0
  have q1 := K.q1
  have q2 := K.q2
  have Q2 := Lib.hid K.q2b
  have HK := Lib.hid K.hk
  have he := K.he
  have H32 := Lib.hid K.c32
  have H33 := Lib.hid K.c33
  have HE : Hid (∀ W, Below (w.heap.size + 1) (w.alloc (.cells X 28)) W → Below w.heap.size w W) := Lib.hid (fun W hW => K.hb.trans (hW.mono (by omega)))
  clear K
  go_enter Tryz.func11, Tryz.ntmps11
  go_wp2_with (first
    | ((with_reducible refine wpList_loadV (op := ⟨some 19, _, _, _, _, _⟩) rfl 24 (.tmp 18) rfl _ ?_ _ HK.out ?_); rfl)
    | (go_at_call 32; (with_reducible refine H32.out.mono ?_); rintro e w1 ⟨rfl, hb1⟩; have q3 := Q2.out _ hb1)
    | (go_at_call 33; (with_reducible refine H33.out.mono ?_); rintro e w1 ⟨rfl, hb1⟩))
  go_ret
  first
    | exact ⟨rfl, HB.out⟩
    | exact ⟨rfl, HE.out _ hb1⟩
theorem go6_y (y : Bool) (S : Bool) (K : GooK w X 6 Y y A A' n c 0 c' true S) : Calls Tryz.prog 11 #[.agg X] w fun e w' => e = .returned (.bool true) ∧ Below w.heap.size w w' := by
  have z0 : ((0 : Nat) : Int) = 0 := rfl
  have HB := Lib.hid K.hb
  have q0 := K.q0
  have q1 := K.q1
  have q2 := K.q2
  have Q2 := Lib.hid K.q2b
  have HK := Lib.hid K.hk
  have he := K.he
  have H32 := Lib.hid K.c32
  have H33 := Lib.hid K.c33
  have HE : Hid (∀ W, Below (w.heap.size + 1) (w.alloc (.cells X 28)) W → Below w.heap.size w W) := Lib.hid (fun W hW => K.hb.trans (hW.mono (by omega)))
  clear K
  go_enter Tryz.func11, Tryz.ntmps11
  go_wp2_with (first
    | ((with_reducible refine wpList_loadV (op := ⟨some 19, _, _, _, _, _⟩) rfl 24 (.tmp 18) rfl _ ?_ _ HK.out ?_); rfl)
    | (go_at_call 32; (with_reducible refine H32.out.mono ?_); rintro e w1 ⟨rfl, hb1⟩; have q3 := Q2.out _ hb1)
    | (go_at_call 33; (with_reducible refine H33.out.mono ?_); rintro e w1 ⟨rfl, hb1⟩))
  go_ret
  first
    | exact ⟨rfl, HB.out⟩
    | exact ⟨rfl, HE.out _ hb1⟩
theorem go4_p (y : Bool) (G : Bool) (S : Bool) (hn : 0 < n) (K : GooK w X 4 Y y A A' n c r c' G S) : Calls Tryz.prog 11 #[.agg X] w fun e w' => e = .returned (.bool false) ∧ Below w.heap.size w w' := by
  have bn : ((n : Int) == 0) = false := by simp; omega
  have HB := Lib.hid K.hb
  have q0 := K.q0
  have q1 := K.q1
  have q2 := K.q2
  have Q2 := Lib.hid K.q2b
  have HK := Lib.hid K.hk
  have he := K.he
  have H32 := Lib.hid K.c32
  have H33 := Lib.hid K.c33
  have HE : Hid (∀ W, Below (w.heap.size + 1) (w.alloc (.cells X 28)) W → Below w.heap.size w W) := Lib.hid (fun W hW => K.hb.trans (hW.mono (by omega)))
  clear K
  go_enter Tryz.func11, Tryz.ntmps11
  go_wp2_with (first
    | ((with_reducible refine wpList_loadV (op := ⟨some 19, _, _, _, _, _⟩) rfl 24 (.tmp 18) rfl _ ?_ _ HK.out ?_); rfl)
    | (go_at_call 32; (with_reducible refine H32.out.mono ?_); rintro e w1 ⟨rfl, hb1⟩; have q3 := Q2.out _ hb1)
    | (go_at_call 33; (with_reducible refine H33.out.mono ?_); rintro e w1 ⟨rfl, hb1⟩))
  go_ret
  first
    | exact ⟨rfl, HB.out⟩
    | exact ⟨rfl, HE.out _ hb1⟩
theorem go4_q (y : Bool) (G : Bool) (S : Bool) (K : GooK w X 4 Y y A A' 0 c 0 c' G S) : Calls Tryz.prog 11 #[.agg X] w fun e w' => e = .returned (.bool false) ∧ Below w.heap.size w w' := by
  have z0 : ((0 : Nat) : Int) = 0 := rfl
  have HB := Lib.hid K.hb
  have q0 := K.q0
  have q1 := K.q1
  have q2 := K.q2
  have Q2 := Lib.hid K.q2b
  have HK := Lib.hid K.hk
  have he := K.he
  have H32 := Lib.hid K.c32
  have H33 := Lib.hid K.c33
  have HE : Hid (∀ W, Below (w.heap.size + 1) (w.alloc (.cells X 28)) W → Below w.heap.size w W) := Lib.hid (fun W hW => K.hb.trans (hW.mono (by omega)))
  clear K
  go_enter Tryz.func11, Tryz.ntmps11
  go_wp2_with (first
    | ((with_reducible refine wpList_loadV (op := ⟨some 19, _, _, _, _, _⟩) rfl 24 (.tmp 18) rfl _ ?_ _ HK.out ?_); rfl)
    | (go_at_call 32; (with_reducible refine H32.out.mono ?_); rintro e w1 ⟨rfl, hb1⟩; have q3 := Q2.out _ hb1)
    | (go_at_call 33; (with_reducible refine H33.out.mono ?_); rintro e w1 ⟨rfl, hb1⟩))
  go_ret
  first
    | exact ⟨rfl, HB.out⟩
    | exact ⟨rfl, HE.out _ hb1⟩
theorem go4_y (y : Bool) (G : Bool) (S : Bool) (hr : 0 < r) (K : GooK w X 4 Y y A A' 0 c r c' G S) : Calls Tryz.prog 11 #[.agg X] w fun e w' => e = .returned (.bool S) ∧ Below w.heap.size w w' := by
  have br : ((r : Int) == 0) = false := by simp; omega
  have gr : (0 : Int) < (r : Int) := by omega
  have z0 : ((0 : Nat) : Int) = 0 := rfl
  have HB := Lib.hid K.hb
  have q0 := K.q0
  have q1 := K.q1
  have q2 := K.q2
  have Q2 := Lib.hid K.q2b
  have HK := Lib.hid K.hk
  have he := K.he
  have H32 := Lib.hid K.c32
  have H33 := Lib.hid K.c33
  have HE : Hid (∀ W, Below (w.heap.size + 1) (w.alloc (.cells X 28)) W → Below w.heap.size w W) := Lib.hid (fun W hW => K.hb.trans (hW.mono (by omega)))
  clear K
  go_enter Tryz.func11, Tryz.ntmps11
  go_wp2_with (first
    | ((with_reducible refine wpList_loadV (op := ⟨some 19, _, _, _, _, _⟩) rfl 24 (.tmp 18) rfl _ ?_ _ HK.out ?_); rfl)
    | (go_at_call 32; (with_reducible refine H32.out.mono ?_); rintro e w1 ⟨rfl, hb1⟩; have q3 := Q2.out _ hb1)
    | (go_at_call 33; (with_reducible refine H33.out.mono ?_); rintro e w1 ⟨rfl, hb1⟩))
  go_ret
  first
    | exact ⟨rfl, HB.out⟩
    | exact ⟨rfl, HE.out _ hb1⟩
theorem go7_p (y : Bool) (G : Bool) (S : Bool) (hn : 0 < n) (K : GooK w X 7 Y y A A' n c r c' G S) : Calls Tryz.prog 11 #[.agg X] w fun e w' => e = .returned (.bool false) ∧ Below w.heap.size w w' := by
  have bn : ((n : Int) == 0) = false := by simp; omega
  have HB := Lib.hid K.hb
  have q0 := K.q0
  have q1 := K.q1
  have q2 := K.q2
  have Q2 := Lib.hid K.q2b
  have HK := Lib.hid K.hk
  have he := K.he
  have H32 := Lib.hid K.c32
  have H33 := Lib.hid K.c33
  have HE : Hid (∀ W, Below (w.heap.size + 1) (w.alloc (.cells X 28)) W → Below w.heap.size w W) := Lib.hid (fun W hW => K.hb.trans (hW.mono (by omega)))
  clear K
  go_enter Tryz.func11, Tryz.ntmps11
  go_wp2_with (first
    | ((with_reducible refine wpList_loadV (op := ⟨some 19, _, _, _, _, _⟩) rfl 24 (.tmp 18) rfl _ ?_ _ HK.out ?_); rfl)
    | (go_at_call 32; (with_reducible refine H32.out.mono ?_); rintro e w1 ⟨rfl, hb1⟩; have q3 := Q2.out _ hb1)
    | (go_at_call 33; (with_reducible refine H33.out.mono ?_); rintro e w1 ⟨rfl, hb1⟩))
  go_ret
  first
    | exact ⟨rfl, HB.out⟩
    | exact ⟨rfl, HE.out _ hb1⟩
theorem go7_q (y : Bool) (G : Bool) (S : Bool) (K : GooK w X 7 Y y A A' 0 c 0 c' G S) : Calls Tryz.prog 11 #[.agg X] w fun e w' => e = .returned (.bool false) ∧ Below w.heap.size w w' := by
  have z0 : ((0 : Nat) : Int) = 0 := rfl
  have HB := Lib.hid K.hb
  have q0 := K.q0
  have q1 := K.q1
  have q2 := K.q2
  have Q2 := Lib.hid K.q2b
  have HK := Lib.hid K.hk
  have he := K.he
  have H32 := Lib.hid K.c32
  have H33 := Lib.hid K.c33
  have HE : Hid (∀ W, Below (w.heap.size + 1) (w.alloc (.cells X 28)) W → Below w.heap.size w W) := Lib.hid (fun W hW => K.hb.trans (hW.mono (by omega)))
  clear K
  go_enter Tryz.func11, Tryz.ntmps11
  go_wp2_with (first
    | ((with_reducible refine wpList_loadV (op := ⟨some 19, _, _, _, _, _⟩) rfl 24 (.tmp 18) rfl _ ?_ _ HK.out ?_); rfl)
    | (go_at_call 32; (with_reducible refine H32.out.mono ?_); rintro e w1 ⟨rfl, hb1⟩; have q3 := Q2.out _ hb1)
    | (go_at_call 33; (with_reducible refine H33.out.mono ?_); rintro e w1 ⟨rfl, hb1⟩))
  go_ret
  first
    | exact ⟨rfl, HB.out⟩
    | exact ⟨rfl, HE.out _ hb1⟩
theorem go7_y (y : Bool) (G : Bool) (S : Bool) (hr : 0 < r) (K : GooK w X 7 Y y A A' 0 c r c' G S) : Calls Tryz.prog 11 #[.agg X] w fun e w' => e = .returned (.bool S) ∧ Below w.heap.size w w' := by
  have br : ((r : Int) == 0) = false := by simp; omega
  have gr : (0 : Int) < (r : Int) := by omega
  have z0 : ((0 : Nat) : Int) = 0 := rfl
  have HB := Lib.hid K.hb
  have q0 := K.q0
  have q1 := K.q1
  have q2 := K.q2
  have Q2 := Lib.hid K.q2b
  have HK := Lib.hid K.hk
  have he := K.he
  have H32 := Lib.hid K.c32
  have H33 := Lib.hid K.c33
  have HE : Hid (∀ W, Below (w.heap.size + 1) (w.alloc (.cells X 28)) W → Below w.heap.size w W) := Lib.hid (fun W hW => K.hb.trans (hW.mono (by omega)))
  clear K
  go_enter Tryz.func11, Tryz.ntmps11
  go_wp2_with (first
    | ((with_reducible refine wpList_loadV (op := ⟨some 19, _, _, _, _, _⟩) rfl 24 (.tmp 18) rfl _ ?_ _ HK.out ?_); rfl)
    | (go_at_call 32; (with_reducible refine H32.out.mono ?_); rintro e w1 ⟨rfl, hb1⟩; have q3 := Q2.out _ hb1)
    | (go_at_call 33; (with_reducible refine H33.out.mono ?_); rintro e w1 ⟨rfl, hb1⟩))
  go_ret
  first
    | exact ⟨rfl, HB.out⟩
    | exact ⟨rfl, HE.out _ hb1⟩
theorem go0 (k : Int) (y : Bool) (G : Bool) (S : Bool) (h : ¬ (1 ≤ k ∧ k ≤ 9)) (K : GooK w X k Y y A A' n c r c' G S) : Calls Tryz.prog 11 #[.agg X] w fun e w' => e = .returned (.bool false) ∧ Below w.heap.size w w' := by
  have b1 := beqF (show ¬ k = 1 by omega)
  have b2 := beqF (show ¬ k = 2 by omega)
  have b3 := beqF (show ¬ k = 3 by omega)
  have b4 := beqF (show ¬ k = 4 by omega)
  have b5 := beqF (show ¬ k = 5 by omega)
  have b6 := beqF (show ¬ k = 6 by omega)
  have b7 := beqF (show ¬ k = 7 by omega)
  have b8 := beqF (show ¬ k = 8 by omega)
  have b9 := beqF (show ¬ k = 9 by omega)
  have HB := Lib.hid K.hb
  have q0 := K.q0
  have q1 := K.q1
  have q2 := K.q2
  have Q2 := Lib.hid K.q2b
  have HK := Lib.hid K.hk
  have he := K.he
  have H32 := Lib.hid K.c32
  have H33 := Lib.hid K.c33
  have HE : Hid (∀ W, Below (w.heap.size + 1) (w.alloc (.cells X 28)) W → Below w.heap.size w W) := Lib.hid (fun W hW => K.hb.trans (hW.mono (by omega)))
  clear K
  go_enter Tryz.func11, Tryz.ntmps11
  go_wp2_with (first
    | ((with_reducible refine wpList_loadV (op := ⟨some 19, _, _, _, _, _⟩) rfl 24 (.tmp 18) rfl _ ?_ _ HK.out ?_); rfl)
    | (go_at_call 32; (with_reducible refine H32.out.mono ?_); rintro e w1 ⟨rfl, hb1⟩; have q3 := Q2.out _ hb1)
    | (go_at_call 33; (with_reducible refine H33.out.mono ?_); rintro e w1 ⟨rfl, hb1⟩))
  go_ret
  first
    | exact ⟨rfl, HB.out⟩
    | exact ⟨rfl, HE.out _ hb1⟩
theorem good_case (k : Int) (y G S : Bool) (K : GooK w X k Y y A A' n c r c' G S) : Calls Tryz.prog 11 #[.agg X] w fun e w' => e = .returned (.bool (goodK k y n r G S)) ∧ Below w.heap.size w w' := by
  by_cases hk : 1 ≤ k ∧ k ≤ 9
  · obtain rfl | rfl | rfl | rfl | rfl | rfl | rfl | rfl | rfl : k = 1 ∨ k = 2 ∨ k = 3 ∨ k = 4 ∨ k = 5 ∨ k = 6 ∨ k = 7 ∨ k = 8 ∨ k = 9 := by omega
    · cases y with
      | false => exact go1_n G S K
      | true =>
        rcases Nat.eq_zero_or_pos n with rfl | hn
        · rcases Nat.eq_zero_or_pos r with rfl | hr
          · exact go1_y G S K
          · rw [show goodK 1 true 0 r G S = false by simp [goodK]; omega]
            exact go1_q G S hr K
        · rw [show goodK 1 true n r G S = false by simp [goodK]; omega]
          exact go1_p G S hn K
    · rcases Nat.eq_zero_or_pos n with rfl | hn
      · rcases Nat.eq_zero_or_pos r with rfl | hr
        · exact go2_y y G S K
        · rw [show goodK 2 y 0 r G S = false by simp [goodK]; omega]
          exact go2_q y G S hr K
      · rw [show goodK 2 y n r G S = false by simp [goodK]; omega]
        exact go2_p y G S hn K
    · rcases Nat.eq_zero_or_pos n with rfl | hn
      · rcases Nat.eq_zero_or_pos r with rfl | hr
        · exact go3_y y G S K
        · rw [show goodK 3 y 0 r G S = false by simp [goodK]; omega]
          exact go3_q y G S hr K
      · rw [show goodK 3 y n r G S = false by simp [goodK]; omega]
        exact go3_p y G S hn K
    · rcases Nat.eq_zero_or_pos n with rfl | hn
      · rcases Nat.eq_zero_or_pos r with rfl | hr
        · exact go4_q y G S K
        · rw [show goodK 4 y 0 r G S = S by simp [goodK]; omega]
          exact go4_y y G S hr K
      · rw [show goodK 4 y n r G S = false by simp [goodK]; omega]
        exact go4_p y G S hn K
    · cases y with
      | false => exact go5_n G S K
      | true =>
        rcases Nat.eq_zero_or_pos n with rfl | hn
        · rcases Nat.eq_zero_or_pos r with rfl | hr
          · exact go5_y G S K
          · rw [show goodK 5 true 0 r G S = false by simp [goodK]; omega]
            exact go5_q G S hr K
        · rw [show goodK 5 true n r G S = false by simp [goodK]; omega]
          exact go5_p G S hn K
    · cases G with
      | false => exact go6_n y S K
      | true =>
        rcases Nat.eq_zero_or_pos r with rfl | hr
        · exact go6_y y S K
        · rw [show goodK 6 y n r true S = false by simp [goodK]; omega]
          exact go6_q y S hr K
    · rcases Nat.eq_zero_or_pos n with rfl | hn
      · rcases Nat.eq_zero_or_pos r with rfl | hr
        · exact go7_q y G S K
        · rw [show goodK 7 y 0 r G S = S by simp [goodK]; omega]
          exact go7_y y G S hr K
      · rw [show goodK 7 y n r G S = false by simp [goodK]; omega]
        exact go7_p y G S hn K
    · rcases Nat.eq_zero_or_pos n with rfl | hn
      · rcases Nat.eq_zero_or_pos r with rfl | hr
        · exact go8_y y G S K
        · rw [show goodK 8 y 0 r G S = false by simp [goodK]; omega]
          exact go8_q y G S hr K
      · rw [show goodK 8 y n r G S = false by simp [goodK]; omega]
        exact go8_p y G S hn K
    · rcases Nat.eq_zero_or_pos n with rfl | hn
      · rcases Nat.eq_zero_or_pos r with rfl | hr
        · exact go9_y y G S K
        · rw [show goodK 9 y 0 r G S = false by simp [goodK]; omega]
          exact go9_q y G S hr K
      · rw [show goodK 9 y n r G S = false by simp [goodK]; omega]
        exact go9_p y G S hn K
  · rw [show goodK k y n r G S = false by unfold goodK; rw [if_neg (by omega), if_neg (by omega), if_neg (by omega), if_neg (by omega)]]
    exact go0 k y G S hk K
end
theorem mgood_any (m : Msg) (L : List Con) (R : List Ins) (w : World) (hc : ConV w m.vc L) (hr : InsV w m.vr R) (hL : L.length ≤ 10000) (ht : ∀ x ∈ R, x.tgt.length ≤ 100000) : Calls Tryz.prog 11 #[.agg (encM m).toArray] w fun e w' => e = .returned (.bool (goodM m.kind m.key L R)) ∧ Below w.heap.size w w' := by
  have hb : Below w.heap.size w (w.alloc (.cells (encM m).toArray 28)) := (Below.refl _ w).alloc (Nat.le_refl _) _
  have hc1 := hc.below hb
  have hr1 := hr.below hb
  obtain ⟨A, c, hv, hA, hA2⟩ := hc1
  obtain ⟨A', c', hv', hA'⟩ := hr1
  have hn := heap_alloc_new w (.cells (encM m).toArray 28)
  have F := fldM hn
  have e : (w.alloc (.cells (encM m).toArray 28)).heap.size = w.heap.size + 1 := by simp
  refine good_case (Y := (bcells m.key).toArray) (A := A) (A' := A') (n := L.length) (c := c) (r := R.length) (c' := c') m.kind (m.key == zero20) (goodC (ctsC L)) (goodR R) ⟨F.kind, by rw [← hv]; exact F.con, by rw [← hv']; exact F.ros, fun W hW => by rw [← hv']; exact (fldM_below hn hW (by omega)).ros, F.key, fun W => eq23 m.key zero20 m.hy (by simp [zero20]) W 9998, ?_, ?_, hb⟩
  · rw [← e]
    exact islist_any _ L _ ⟨A, c, rfl, hA, hA2⟩ hL
  · rw [← e]
    exact gd_any A' c' R _ ht hA'
end Go.Proofs.YtehgpnnfjgmiiaaGreat
