/- Good of the reference. Conditions: at most 10,000 contacts and instances, targets of at most 100,000 bytes. -/
import Derived.Test.YtehgpnnfjgmiiaaGreatVWad
import Derived.Test.YtehgpnnfjgmiiaaGreatVWae
import Derived.Test.YtehgpnnfjgmiiaaGreatVWau
namespace Go.Proofs.YtehgpnnfjgmiiaaGreat
open Go.Shelf Go.RowKit Go.Lib Go.Great
set_option maxRecDepth 100000
set_option maxHeartbeats 1000000
structure GooL (w : World) (X : Array Value) (k : Int) (Y : Array Value) (y : Bool) (A A' : Option Addr) (n c r c' : Nat) (G S : Bool) : Prop where
  q0 : ∀ W, Below (w.heap.size + 1) (w.alloc (.cells X 28)) W → W.cell? ⟨w.heap.size, 0, none⟩ = some (.int .i64 k)
  q1 : ∀ W, Below (w.heap.size + 1) (w.alloc (.cells X 28)) W → W.cell? ⟨w.heap.size, 42, none⟩ = some (.slice A n c)
  q2 : ∀ W, Below (w.heap.size + 1) (w.alloc (.cells X 28)) W → W.cell? ⟨w.heap.size, 43, none⟩ = some (.slice A' r c')
  hk : (loadVar 24 ⟨w.heap.size, 22, none⟩).run Tryz.prog (w.alloc (.cells X 28)) = .ok (.agg Y) (w.alloc (.cells X 28))
  he : ∀ W, (Op.equalIn 10000 24 (.agg Y) (.agg #[.int .u8 0, .int .u8 0, .int .u8 0, .int .u8 0, .int .u8 0, .int .u8 0, .int .u8 0, .int .u8 0, .int .u8 0, .int .u8 0, .int .u8 0, .int .u8 0, .int .u8 0, .int .u8 0, .int .u8 0, .int .u8 0, .int .u8 0, .int .u8 0, .int .u8 0, .int .u8 0])).run Tryz.prog W = .ok y W
  c29 : Calls Tryz.prog 29 #[.slice A n c] (w.alloc (.cells X 28)) fun e w' => ∃ v', e = .returned v' ∧ Calls Tryz.prog 34 #[v'] w' fun e w'' => e = .returned (.bool G) ∧ Below (w.heap.size + 1) (w.alloc (.cells X 28)) w''
  c35 : ∀ W, Below (w.heap.size + 1) (w.alloc (.cells X 28)) W → Calls Tryz.prog 35 #[.slice A' r c'] W fun e w' => e = .returned (.bool S) ∧ Below (w.heap.size + 1) (w.alloc (.cells X 28)) w'
  hb : Below w.heap.size w (w.alloc (.cells X 28))
section
variable {w : World} {X : Array Value} {Y : Array Value} {A A' : Option Addr} {n c r c' : Nat}
theorem gp1_n (G : Bool) (S : Bool) (K : GooL w X 1 Y false A A' n c r c' G S) : Calls Tryz.prog 12 #[.agg X] w fun e w' => e = .returned (.bool false) ∧ Below w.heap.size w w' := by
  have H27 : Hid (∀ W, Calls Tryz.prog 27 #[.int .i64 1] W fun e w' => e = .returned (.bool false) ∧ w' = W) := Lib.hid (fun W => keyed_any 1 W)
  have H30 : Hid (∀ W, Calls Tryz.prog 30 #[.int .i64 1] W fun e w' => e = .returned (.bool false) ∧ w' = W) := Lib.hid (fun W => listed_any 1 W)
  have q0 := K.q0 _ (Below.refl _ _)
  have q1 := K.q1 _ (Below.refl _ _)
  have q2 := K.q2 _ (Below.refl _ _)
  have Q0 := Lib.hid K.q0
  have Q2 := Lib.hid K.q2
  have HK := Lib.hid K.hk
  have he := K.he
  have H29 := Lib.hid K.c29
  have H35 := Lib.hid K.c35
  have HR := Lib.hid (Below.refl (w.heap.size + 1) (w.alloc (.cells X 28)))
  have HE : Hid (∀ W, Below (w.heap.size + 1) (w.alloc (.cells X 28)) W → Below w.heap.size w W) := Lib.hid (fun W hW => K.hb.trans (hW.mono (by omega)))
  clear K
  go_enter Tryz.func12, Tryz.ntmps12
  go_wp2_with (first
    | ((with_reducible refine wpList_loadG (o := ⟨some 17, _, _, _, _, _⟩) rfl 24 (.tmp 16) rfl _ ?_ _ HK.out ?_); rfl)
    | (go_at_call 27; (with_reducible refine (H27.out _).mono ?_); rintro e w1 ⟨rfl, rfl⟩)
    | (go_at_call 29; (with_reducible refine H29.out.mono ?_); rintro e w2 ⟨v2, rfl, h34⟩; have H34 := Lib.hid h34; clear h34)
    | (go_at_call 34; (with_reducible refine H34.out.mono ?_); rintro e w3 ⟨rfl, hb3⟩; have p0 := Q0.out _ hb3; have p2 := Q2.out _ hb3)
    | (go_at_call 30; (with_reducible refine (H30.out _).mono ?_); rintro e w4 ⟨rfl, rfl⟩)
    | (go_at_call 35; (with_reducible refine (H35.out _ HR.out).mono ?_); rintro e w5 ⟨rfl, hb5⟩)
    | (go_at_call 35; (with_reducible refine (H35.out _ hb3).mono ?_); rintro e w5 ⟨rfl, hb5⟩))
  go_ret
  first
    | exact ⟨rfl, HE.out _ hb5⟩
    | exact ⟨rfl, HE.out _ hb3⟩
    | exact ⟨rfl, HE.out _ HR.out⟩
theorem gp1_p (G : Bool) (S : Bool) (hn : 0 < n) (K : GooL w X 1 Y true A A' n c r c' G S) : Calls Tryz.prog 12 #[.agg X] w fun e w' => e = .returned (.bool false) ∧ Below w.heap.size w w' := by
  have bn : ((n : Int) == 0) = false := by simp; omega
  have gn : (0 : Int) < (n : Int) := by omega
  have H27 : Hid (∀ W, Calls Tryz.prog 27 #[.int .i64 1] W fun e w' => e = .returned (.bool false) ∧ w' = W) := Lib.hid (fun W => keyed_any 1 W)
  have H30 : Hid (∀ W, Calls Tryz.prog 30 #[.int .i64 1] W fun e w' => e = .returned (.bool false) ∧ w' = W) := Lib.hid (fun W => listed_any 1 W)
  have q0 := K.q0 _ (Below.refl _ _)
  have q1 := K.q1 _ (Below.refl _ _)
  have q2 := K.q2 _ (Below.refl _ _)
  have Q0 := Lib.hid K.q0
  have Q2 := Lib.hid K.q2
  have HK := Lib.hid K.hk
  have he := K.he
  have H29 := Lib.hid K.c29
  have H35 := Lib.hid K.c35
  have HR := Lib.hid (Below.refl (w.heap.size + 1) (w.alloc (.cells X 28)))
  have HE : Hid (∀ W, Below (w.heap.size + 1) (w.alloc (.cells X 28)) W → Below w.heap.size w W) := Lib.hid (fun W hW => K.hb.trans (hW.mono (by omega)))
  clear K
  go_enter Tryz.func12, Tryz.ntmps12
  go_wp2_with (first
    | ((with_reducible refine wpList_loadG (o := ⟨some 17, _, _, _, _, _⟩) rfl 24 (.tmp 16) rfl _ ?_ _ HK.out ?_); rfl)
    | (go_at_call 27; (with_reducible refine (H27.out _).mono ?_); rintro e w1 ⟨rfl, rfl⟩)
    | (go_at_call 29; (with_reducible refine H29.out.mono ?_); rintro e w2 ⟨v2, rfl, h34⟩; have H34 := Lib.hid h34; clear h34)
    | (go_at_call 34; (with_reducible refine H34.out.mono ?_); rintro e w3 ⟨rfl, hb3⟩; have p0 := Q0.out _ hb3; have p2 := Q2.out _ hb3)
    | (go_at_call 30; (with_reducible refine (H30.out _).mono ?_); rintro e w4 ⟨rfl, rfl⟩)
    | (go_at_call 35; (with_reducible refine (H35.out _ HR.out).mono ?_); rintro e w5 ⟨rfl, hb5⟩)
    | (go_at_call 35; (with_reducible refine (H35.out _ hb3).mono ?_); rintro e w5 ⟨rfl, hb5⟩))
  go_ret
  first
    | exact ⟨rfl, HE.out _ hb5⟩
    | exact ⟨rfl, HE.out _ hb3⟩
    | exact ⟨rfl, HE.out _ HR.out⟩
theorem gp1_q (G : Bool) (S : Bool) (hr : 0 < r) (K : GooL w X 1 Y true A A' 0 c r c' G S) : Calls Tryz.prog 12 #[.agg X] w fun e w' => e = .returned (.bool false) ∧ Below w.heap.size w w' := by
  have br : ((r : Int) == 0) = false := by simp; omega
  have gr : (0 : Int) < (r : Int) := by omega
  have H27 : Hid (∀ W, Calls Tryz.prog 27 #[.int .i64 1] W fun e w' => e = .returned (.bool false) ∧ w' = W) := Lib.hid (fun W => keyed_any 1 W)
  have H30 : Hid (∀ W, Calls Tryz.prog 30 #[.int .i64 1] W fun e w' => e = .returned (.bool false) ∧ w' = W) := Lib.hid (fun W => listed_any 1 W)
  have q0 := K.q0 _ (Below.refl _ _)
  have q1 := K.q1 _ (Below.refl _ _)
  have q2 := K.q2 _ (Below.refl _ _)
  have Q0 := Lib.hid K.q0
  have Q2 := Lib.hid K.q2
  have HK := Lib.hid K.hk
  have he := K.he
  have H29 := Lib.hid K.c29
  have H35 := Lib.hid K.c35
  have HR := Lib.hid (Below.refl (w.heap.size + 1) (w.alloc (.cells X 28)))
  have HE : Hid (∀ W, Below (w.heap.size + 1) (w.alloc (.cells X 28)) W → Below w.heap.size w W) := Lib.hid (fun W hW => K.hb.trans (hW.mono (by omega)))
  clear K
  go_enter Tryz.func12, Tryz.ntmps12
  go_wp2_with (first
    | ((with_reducible refine wpList_loadG (o := ⟨some 17, _, _, _, _, _⟩) rfl 24 (.tmp 16) rfl _ ?_ _ HK.out ?_); rfl)
    | (go_at_call 27; (with_reducible refine (H27.out _).mono ?_); rintro e w1 ⟨rfl, rfl⟩)
    | (go_at_call 29; (with_reducible refine H29.out.mono ?_); rintro e w2 ⟨v2, rfl, h34⟩; have H34 := Lib.hid h34; clear h34)
    | (go_at_call 34; (with_reducible refine H34.out.mono ?_); rintro e w3 ⟨rfl, hb3⟩; have p0 := Q0.out _ hb3; have p2 := Q2.out _ hb3)
    | (go_at_call 30; (with_reducible refine (H30.out _).mono ?_); rintro e w4 ⟨rfl, rfl⟩)
    | (go_at_call 35; (with_reducible refine (H35.out _ HR.out).mono ?_); rintro e w5 ⟨rfl, hb5⟩)
    | (go_at_call 35; (with_reducible refine (H35.out _ hb3).mono ?_); rintro e w5 ⟨rfl, hb5⟩))
  go_ret
  first
    | exact ⟨rfl, HE.out _ hb5⟩
    | exact ⟨rfl, HE.out _ hb3⟩
    | exact ⟨rfl, HE.out _ HR.out⟩
theorem gp1_y (G : Bool) (S : Bool) (K : GooL w X 1 Y true A A' 0 c 0 c' G S) : Calls Tryz.prog 12 #[.agg X] w fun e w' => e = .returned (.bool true) ∧ Below w.heap.size w w' := by
  have H27 : Hid (∀ W, Calls Tryz.prog 27 #[.int .i64 1] W fun e w' => e = .returned (.bool false) ∧ w' = W) := Lib.hid (fun W => keyed_any 1 W)
  have H30 : Hid (∀ W, Calls Tryz.prog 30 #[.int .i64 1] W fun e w' => e = .returned (.bool false) ∧ w' = W) := Lib.hid (fun W => listed_any 1 W)
  have q0 := K.q0 _ (Below.refl _ _)
  have q1 := K.q1 _ (Below.refl _ _)
  have q2 := K.q2 _ (Below.refl _ _)
  have Q0 := Lib.hid K.q0
  have Q2 := Lib.hid K.q2
  have HK := Lib.hid K.hk
  have he := K.he
  have H29 := Lib.hid K.c29
  have H35 := Lib.hid K.c35
  have HR := Lib.hid (Below.refl (w.heap.size + 1) (w.alloc (.cells X 28)))
  have HE : Hid (∀ W, Below (w.heap.size + 1) (w.alloc (.cells X 28)) W → Below w.heap.size w W) := Lib.hid (fun W hW => K.hb.trans (hW.mono (by omega)))
  clear K
  go_enter Tryz.func12, Tryz.ntmps12
  go_wp2_with (first
    | ((with_reducible refine wpList_loadG (o := ⟨some 17, _, _, _, _, _⟩) rfl 24 (.tmp 16) rfl _ ?_ _ HK.out ?_); rfl)
    | (go_at_call 27; (with_reducible refine (H27.out _).mono ?_); rintro e w1 ⟨rfl, rfl⟩)
    | (go_at_call 29; (with_reducible refine H29.out.mono ?_); rintro e w2 ⟨v2, rfl, h34⟩; have H34 := Lib.hid h34; clear h34)
    | (go_at_call 34; (with_reducible refine H34.out.mono ?_); rintro e w3 ⟨rfl, hb3⟩; have p0 := Q0.out _ hb3; have p2 := Q2.out _ hb3)
    | (go_at_call 30; (with_reducible refine (H30.out _).mono ?_); rintro e w4 ⟨rfl, rfl⟩)
    | (go_at_call 35; (with_reducible refine (H35.out _ HR.out).mono ?_); rintro e w5 ⟨rfl, hb5⟩)
    | (go_at_call 35; (with_reducible refine (H35.out _ hb3).mono ?_); rintro e w5 ⟨rfl, hb5⟩))
  go_ret
  first
    | exact ⟨rfl, HE.out _ hb5⟩
    | exact ⟨rfl, HE.out _ hb3⟩
    | exact ⟨rfl, HE.out _ HR.out⟩
theorem gp5_n (G : Bool) (S : Bool) (K : GooL w X 5 Y false A A' n c r c' G S) : Calls Tryz.prog 12 #[.agg X] w fun e w' => e = .returned (.bool false) ∧ Below w.heap.size w w' := by
  have H27 : Hid (∀ W, Calls Tryz.prog 27 #[.int .i64 5] W fun e w' => e = .returned (.bool false) ∧ w' = W) := Lib.hid (fun W => keyed_any 5 W)
  have H30 : Hid (∀ W, Calls Tryz.prog 30 #[.int .i64 5] W fun e w' => e = .returned (.bool false) ∧ w' = W) := Lib.hid (fun W => listed_any 5 W)
  have q0 := K.q0 _ (Below.refl _ _)
  have q1 := K.q1 _ (Below.refl _ _)
  have q2 := K.q2 _ (Below.refl _ _)
  have Q0 := Lib.hid K.q0
  have Q2 := Lib.hid K.q2
  have HK := Lib.hid K.hk
  have he := K.he
  have H29 := Lib.hid K.c29
  have H35 := Lib.hid K.c35
  have HR := Lib.hid (Below.refl (w.heap.size + 1) (w.alloc (.cells X 28)))
  have HE : Hid (∀ W, Below (w.heap.size + 1) (w.alloc (.cells X 28)) W → Below w.heap.size w W) := Lib.hid (fun W hW => K.hb.trans (hW.mono (by omega)))
  clear K
  go_enter Tryz.func12, Tryz.ntmps12
  go_wp2_with (first
    | ((with_reducible refine wpList_loadG (o := ⟨some 17, _, _, _, _, _⟩) rfl 24 (.tmp 16) rfl _ ?_ _ HK.out ?_); rfl)
    | (go_at_call 27; (with_reducible refine (H27.out _).mono ?_); rintro e w1 ⟨rfl, rfl⟩)
    | (go_at_call 29; (with_reducible refine H29.out.mono ?_); rintro e w2 ⟨v2, rfl, h34⟩; have H34 := Lib.hid h34; clear h34)
    | (go_at_call 34; (with_reducible refine H34.out.mono ?_); rintro e w3 ⟨rfl, hb3⟩; have p0 := Q0.out _ hb3; have p2 := Q2.out _ hb3)
    | (go_at_call 30; (with_reducible refine (H30.out _).mono ?_); rintro e w4 ⟨rfl, rfl⟩)
    | (go_at_call 35; (with_reducible refine (H35.out _ HR.out).mono ?_); rintro e w5 ⟨rfl, hb5⟩)
    | (go_at_call 35; (with_reducible refine (H35.out _ hb3).mono ?_); rintro e w5 ⟨rfl, hb5⟩))
  go_ret
  first
    | exact ⟨rfl, HE.out _ hb5⟩
    | exact ⟨rfl, HE.out _ hb3⟩
    | exact ⟨rfl, HE.out _ HR.out⟩
theorem gp5_p (G : Bool) (S : Bool) (hn : 0 < n) (K : GooL w X 5 Y true A A' n c r c' G S) : Calls Tryz.prog 12 #[.agg X] w fun e w' => e = .returned (.bool false) ∧ Below w.heap.size w w' := by
  have bn : ((n : Int) == 0) = false := by simp; omega
  have gn : (0 : Int) < (n : Int) := by omega
  have H27 : Hid (∀ W, Calls Tryz.prog 27 #[.int .i64 5] W fun e w' => e = .returned (.bool false) ∧ w' = W) := Lib.hid (fun W => keyed_any 5 W)
  have H30 : Hid (∀ W, Calls Tryz.prog 30 #[.int .i64 5] W fun e w' => e = .returned (.bool false) ∧ w' = W) := Lib.hid (fun W => listed_any 5 W)
  have q0 := K.q0 _ (Below.refl _ _)
  have q1 := K.q1 _ (Below.refl _ _)
  have q2 := K.q2 _ (Below.refl _ _)
  have Q0 := Lib.hid K.q0
  have Q2 := Lib.hid K.q2
  have HK := Lib.hid K.hk
  have he := K.he
  have H29 := Lib.hid K.c29
  have H35 := Lib.hid K.c35
  have HR := Lib.hid (Below.refl (w.heap.size + 1) (w.alloc (.cells X 28)))
  have HE : Hid (∀ W, Below (w.heap.size + 1) (w.alloc (.cells X 28)) W → Below w.heap.size w W) := Lib.hid (fun W hW => K.hb.trans (hW.mono (by omega)))
  clear K
  go_enter Tryz.func12, Tryz.ntmps12
  go_wp2_with (first
    | ((with_reducible refine wpList_loadG (o := ⟨some 17, _, _, _, _, _⟩) rfl 24 (.tmp 16) rfl _ ?_ _ HK.out ?_); rfl)
    | (go_at_call 27; (with_reducible refine (H27.out _).mono ?_); rintro e w1 ⟨rfl, rfl⟩)
    | (go_at_call 29; (with_reducible refine H29.out.mono ?_); rintro e w2 ⟨v2, rfl, h34⟩; have H34 := Lib.hid h34; clear h34)
    | (go_at_call 34; (with_reducible refine H34.out.mono ?_); rintro e w3 ⟨rfl, hb3⟩; have p0 := Q0.out _ hb3; have p2 := Q2.out _ hb3)
    | (go_at_call 30; (with_reducible refine (H30.out _).mono ?_); rintro e w4 ⟨rfl, rfl⟩)
    | (go_at_call 35; (with_reducible refine (H35.out _ HR.out).mono ?_); rintro e w5 ⟨rfl, hb5⟩)
    | (go_at_call 35; (with_reducible refine (H35.out _ hb3).mono ?_); rintro e w5 ⟨rfl, hb5⟩))
  go_ret
  first
    | exact ⟨rfl, HE.out _ hb5⟩
    | exact ⟨rfl, HE.out _ hb3⟩
    | exact ⟨rfl, HE.out _ HR.out⟩
theorem gp5_q (G : Bool) (S : Bool) (hr : 0 < r) (K : GooL w X 5 Y true A A' 0 c r c' G S) : Calls Tryz.prog 12 #[.agg X] w fun e w' => e = .returned (.bool false) ∧ Below w.heap.size w w' := by
  have br : ((r : Int) == 0) = false := by simp; omega
  have gr : (0 : Int) < (r : Int) := by omega
  have H27 : Hid (∀ W, Calls Tryz.prog 27 #[.int .i64 5] W fun e w' => e = .returned (.bool false) ∧ w' = W) := Lib.hid (fun W => keyed_any 5 W)
  have H30 : Hid (∀ W, Calls Tryz.prog 30 #[.int .i64 5] W fun e w' => e = .returned (.bool false) ∧ w' = W) := Lib.hid (fun W => listed_any 5 W)
  have q0 := K.q0 _ (Below.refl _ _)
  have q1 := K.q1 _ (Below.refl _ _)
  have q2 := K.q2 _ (Below.refl _ _)
  have Q0 := Lib.hid K.q0
  have Q2 := Lib.hid K.q2
  have HK := Lib.hid K.hk
  have he := K.he
  have H29 := Lib.hid K.c29
  have H35 := Lib.hid K.c35
  have HR := Lib.hid (Below.refl (w.heap.size + 1) (w.alloc (.cells X 28)))
  have HE : Hid (∀ W, Below (w.heap.size + 1) (w.alloc (.cells X 28)) W → Below w.heap.size w W) := Lib.hid (fun W hW => K.hb.trans (hW.mono (by omega)))
  clear K
  go_enter Tryz.func12, Tryz.ntmps12
  go_wp2_with (first
    | ((with_reducible refine wpList_loadG (o := ⟨some 17, _, _, _, _, _⟩) rfl 24 (.tmp 16) rfl _ ?_ _ HK.out ?_); rfl)
    | (go_at_call 27; (with_reducible refine (H27.out _).mono ?_); rintro e w1 ⟨rfl, rfl⟩)
    | (go_at_call 29; (with_reducible refine H29.out.mono ?_); rintro e w2 ⟨v2, rfl, h34⟩; have H34 := Lib.hid h34; clear h34)
    | (go_at_call 34; (with_reducible refine H34.out.mono ?_); rintro e w3 ⟨rfl, hb3⟩; have p0 := Q0.out _ hb3; have p2 := Q2.out _ hb3)
    | (go_at_call 30; (with_reducible refine (H30.out _).mono ?_); rintro e w4 ⟨rfl, rfl⟩)
    | (go_at_call 35; (with_reducible refine (H35.out _ HR.out).mono ?_); rintro e w5 ⟨rfl, hb5⟩)
    | (go_at_call 35; (with_reducible refine (H35.out _ hb3).mono ?_); rintro e w5 ⟨rfl, hb5⟩))
  go_ret
  first
    | exact ⟨rfl, HE.out _ hb5⟩
    | exact ⟨rfl, HE.out _ hb3⟩
    | exact ⟨rfl, HE.out _ HR.out⟩
theorem gp5_y (G : Bool) (S : Bool) (K : GooL w X 5 Y true A A' 0 c 0 c' G S) : Calls Tryz.prog 12 #[.agg X] w fun e w' => e = .returned (.bool true) ∧ Below w.heap.size w w' := by
  have H27 : Hid (∀ W, Calls Tryz.prog 27 #[.int .i64 5] W fun e w' => e = .returned (.bool false) ∧ w' = W) := Lib.hid (fun W => keyed_any 5 W)
  have H30 : Hid (∀ W, Calls Tryz.prog 30 #[.int .i64 5] W fun e w' => e = .returned (.bool false) ∧ w' = W) := Lib.hid (fun W => listed_any 5 W)
  have q0 := K.q0 _ (Below.refl _ _)
  have q1 := K.q1 _ (Below.refl _ _)
  have q2 := K.q2 _ (Below.refl _ _)
  have Q0 := Lib.hid K.q0
  have Q2 := Lib.hid K.q2
  have HK := Lib.hid K.hk
  have he := K.he
  have H29 := Lib.hid K.c29
  have H35 := Lib.hid K.c35
  have HR := Lib.hid (Below.refl (w.heap.size + 1) (w.alloc (.cells X 28)))
  have HE : Hid (∀ W, Below (w.heap.size + 1) (w.alloc (.cells X 28)) W → Below w.heap.size w W) := Lib.hid (fun W hW => K.hb.trans (hW.mono (by omega)))
  clear K
  go_enter Tryz.func12, Tryz.ntmps12
  go_wp2_with (first
    | ((with_reducible refine wpList_loadG (o := ⟨some 17, _, _, _, _, _⟩) rfl 24 (.tmp 16) rfl _ ?_ _ HK.out ?_); rfl)
    | (go_at_call 27; (with_reducible refine (H27.out _).mono ?_); rintro e w1 ⟨rfl, rfl⟩)
    | (go_at_call 29; (with_reducible refine H29.out.mono ?_); rintro e w2 ⟨v2, rfl, h34⟩; have H34 := Lib.hid h34; clear h34)
    | (go_at_call 34; (with_reducible refine H34.out.mono ?_); rintro e w3 ⟨rfl, hb3⟩; have p0 := Q0.out _ hb3; have p2 := Q2.out _ hb3)
    | (go_at_call 30; (with_reducible refine (H30.out _).mono ?_); rintro e w4 ⟨rfl, rfl⟩)
    | (go_at_call 35; (with_reducible refine (H35.out _ HR.out).mono ?_); rintro e w5 ⟨rfl, hb5⟩)
    | (go_at_call 35; (with_reducible refine (H35.out _ hb3).mono ?_); rintro e w5 ⟨rfl, hb5⟩))
  go_ret
  first
    | exact ⟨rfl, HE.out _ hb5⟩
    | exact ⟨rfl, HE.out _ hb3⟩
    | exact ⟨rfl, HE.out _ HR.out⟩
theorem gp2_p (y : Bool) (G : Bool) (S : Bool) (hn : 0 < n) (K : GooL w X 2 Y y A A' n c r c' G S) : Calls Tryz.prog 12 #[.agg X] w fun e w' => e = .returned (.bool false) ∧ Below w.heap.size w w' := by
  have bn : ((n : Int) == 0) = false := by simp; omega
  have gn : (0 : Int) < (n : Int) := by omega
  have H27 : Hid (∀ W, Calls Tryz.prog 27 #[.int .i64 2] W fun e w' => e = .returned (.bool true) ∧ w' = W) := Lib.hid (fun W => keyed_any 2 W)
  have H30 : Hid (∀ W, Calls Tryz.prog 30 #[.int .i64 2] W fun e w' => e = .returned (.bool false) ∧ w' = W) := Lib.hid (fun W => listed_any 2 W)
  have q0 := K.q0 _ (Below.refl _ _)
  have q1 := K.q1 _ (Below.refl _ _)
  have q2 := K.q2 _ (Below.refl _ _)
  have Q0 := Lib.hid K.q0
  have Q2 := Lib.hid K.q2
  have HK := Lib.hid K.hk
  have he := K.he
  have H29 := Lib.hid K.c29
  have H35 := Lib.hid K.c35
  have HR := Lib.hid (Below.refl (w.heap.size + 1) (w.alloc (.cells X 28)))
  have HE : Hid (∀ W, Below (w.heap.size + 1) (w.alloc (.cells X 28)) W → Below w.heap.size w W) := Lib.hid (fun W hW => K.hb.trans (hW.mono (by omega)))
  clear K
  go_enter Tryz.func12, Tryz.ntmps12
  go_wp2_with (first
    | ((with_reducible refine wpList_loadG (o := ⟨some 17, _, _, _, _, _⟩) rfl 24 (.tmp 16) rfl _ ?_ _ HK.out ?_); rfl)
    | (go_at_call 27; (with_reducible refine (H27.out _).mono ?_); rintro e w1 ⟨rfl, rfl⟩)
    | (go_at_call 29; (with_reducible refine H29.out.mono ?_); rintro e w2 ⟨v2, rfl, h34⟩; have H34 := Lib.hid h34; clear h34)
    | (go_at_call 34; (with_reducible refine H34.out.mono ?_); rintro e w3 ⟨rfl, hb3⟩; have p0 := Q0.out _ hb3; have p2 := Q2.out _ hb3)
    | (go_at_call 30; (with_reducible refine (H30.out _).mono ?_); rintro e w4 ⟨rfl, rfl⟩)
    | (go_at_call 35; (with_reducible refine (H35.out _ HR.out).mono ?_); rintro e w5 ⟨rfl, hb5⟩)
    | (go_at_call 35; (with_reducible refine (H35.out _ hb3).mono ?_); rintro e w5 ⟨rfl, hb5⟩))
  go_ret
  first
    | exact ⟨rfl, HE.out _ hb5⟩
    | exact ⟨rfl, HE.out _ hb3⟩
    | exact ⟨rfl, HE.out _ HR.out⟩
theorem gp2_q (y : Bool) (G : Bool) (S : Bool) (hr : 0 < r) (K : GooL w X 2 Y y A A' 0 c r c' G S) : Calls Tryz.prog 12 #[.agg X] w fun e w' => e = .returned (.bool false) ∧ Below w.heap.size w w' := by
  have br : ((r : Int) == 0) = false := by simp; omega
  have gr : (0 : Int) < (r : Int) := by omega
  have H27 : Hid (∀ W, Calls Tryz.prog 27 #[.int .i64 2] W fun e w' => e = .returned (.bool true) ∧ w' = W) := Lib.hid (fun W => keyed_any 2 W)
  have H30 : Hid (∀ W, Calls Tryz.prog 30 #[.int .i64 2] W fun e w' => e = .returned (.bool false) ∧ w' = W) := Lib.hid (fun W => listed_any 2 W)
  have q0 := K.q0 _ (Below.refl _ _)
  have q1 := K.q1 _ (Below.refl _ _)
  have q2 := K.q2 _ (Below.refl _ _)
  have Q0 := Lib.hid K.q0
  have Q2 := Lib.hid K.q2
  have HK := Lib.hid K.hk
  have he := K.he
  have H29 := Lib.hid K.c29
  have H35 := Lib.hid K.c35
  have HR := Lib.hid (Below.refl (w.heap.size + 1) (w.alloc (.cells X 28)))
  have HE : Hid (∀ W, Below (w.heap.size + 1) (w.alloc (.cells X 28)) W → Below w.heap.size w W) := Lib.hid (fun W hW => K.hb.trans (hW.mono (by omega)))
  clear K
  go_enter Tryz.func12, Tryz.ntmps12
  go_wp2_with (first
    | ((with_reducible refine wpList_loadG (o := ⟨some 17, _, _, _, _, _⟩) rfl 24 (.tmp 16) rfl _ ?_ _ HK.out ?_); rfl)
    | (go_at_call 27; (with_reducible refine (H27.out _).mono ?_); rintro e w1 ⟨rfl, rfl⟩)
    | (go_at_call 29; (with_reducible refine H29.out.mono ?_); rintro e w2 ⟨v2, rfl, h34⟩; have H34 := Lib.hid h34; clear h34)
    | (go_at_call 34; (with_reducible refine H34.out.mono ?_); rintro e w3 ⟨rfl, hb3⟩; have p0 := Q0.out _ hb3; have p2 := Q2.out _ hb3)
    | (go_at_call 30; (with_reducible refine (H30.out _).mono ?_); rintro e w4 ⟨rfl, rfl⟩)
    | (go_at_call 35; (with_reducible refine (H35.out _ HR.out).mono ?_); rintro e w5 ⟨rfl, hb5⟩)
    | (go_at_call 35; (with_reducible refine (H35.out _ hb3).mono ?_); rintro e w5 ⟨rfl, hb5⟩))
  go_ret
  first
    | exact ⟨rfl, HE.out _ hb5⟩
    | exact ⟨rfl, HE.out _ hb3⟩
    | exact ⟨rfl, HE.out _ HR.out⟩
theorem gp2_y (y : Bool) (G : Bool) (S : Bool) (K : GooL w X 2 Y y A A' 0 c 0 c' G S) : Calls Tryz.prog 12 #[.agg X] w fun e w' => e = .returned (.bool true) ∧ Below w.heap.size w w' := by
  have H27 : Hid (∀ W, Calls Tryz.prog 27 #[.int .i64 2] W fun e w' => e = .returned (.bool true) ∧ w' = W) := Lib.hid (fun W => keyed_any 2 W)
  have H30 : Hid (∀ W, Calls Tryz.prog 30 #[.int .i64 2] W fun e w' => e = .returned (.bool false) ∧ w' = W) := Lib.hid (fun W => listed_any 2 W)
  have q0 := K.q0 _ (Below.refl _ _)
  have q1 := K.q1 _ (Below.refl _ _)
  have q2 := K.q2 _ (Below.refl _ _)
  have Q0 := Lib.hid K.q0
  have Q2 := Lib.hid K.q2
  have HK := Lib.hid K.hk
  have he := K.he
  have H29 := Lib.hid K.c29
  have H35 := Lib.hid K.c35
  have HR := Lib.hid (Below.refl (w.heap.size + 1) (w.alloc (.cells X 28)))
  have HE : Hid (∀ W, Below (w.heap.size + 1) (w.alloc (.cells X 28)) W → Below w.heap.size w W) := Lib.hid (fun W hW => K.hb.trans (hW.mono (by omega)))
  clear K
  go_enter Tryz.func12, Tryz.ntmps12
  go_wp2_with (first
    | ((with_reducible refine wpList_loadG (o := ⟨some 17, _, _, _, _, _⟩) rfl 24 (.tmp 16) rfl _ ?_ _ HK.out ?_); rfl)
    | (go_at_call 27; (with_reducible refine (H27.out _).mono ?_); rintro e w1 ⟨rfl, rfl⟩)
    | (go_at_call 29; (with_reducible refine H29.out.mono ?_); rintro e w2 ⟨v2, rfl, h34⟩; have H34 := Lib.hid h34; clear h34)
    | (go_at_call 34; (with_reducible refine H34.out.mono ?_); rintro e w3 ⟨rfl, hb3⟩; have p0 := Q0.out _ hb3; have p2 := Q2.out _ hb3)
    | (go_at_call 30; (with_reducible refine (H30.out _).mono ?_); rintro e w4 ⟨rfl, rfl⟩)
    | (go_at_call 35; (with_reducible refine (H35.out _ HR.out).mono ?_); rintro e w5 ⟨rfl, hb5⟩)
    | (go_at_call 35; (with_reducible refine (H35.out _ hb3).mono ?_); rintro e w5 ⟨rfl, hb5⟩))
  go_ret
  first
    | exact ⟨rfl, HE.out _ hb5⟩
    | exact ⟨rfl, HE.out _ hb3⟩
    | exact ⟨rfl, HE.out _ HR.out⟩
theorem gp3_p (y : Bool) (G : Bool) (S : Bool) (hn : 0 < n) (K : GooL w X 3 Y y A A' n c r c' G S) : Calls Tryz.prog 12 #[.agg X] w fun e w' => e = .returned (.bool false) ∧ Below w.heap.size w w' := by
  have bn : ((n : Int) == 0) = false := by simp; omega
  have gn : (0 : Int) < (n : Int) := by omega
  have H27 : Hid (∀ W, Calls Tryz.prog 27 #[.int .i64 3] W fun e w' => e = .returned (.bool true) ∧ w' = W) := Lib.hid (fun W => keyed_any 3 W)
  have H30 : Hid (∀ W, Calls Tryz.prog 30 #[.int .i64 3] W fun e w' => e = .returned (.bool false) ∧ w' = W) := Lib.hid (fun W => listed_any 3 W)
  have q0 := K.q0 _ (Below.refl _ _)
  have q1 := K.q1 _ (Below.refl _ _)
  have q2 := K.q2 _ (Below.refl _ _)
  have Q0 := Lib.hid K.q0
  have Q2 := Lib.hid K.q2
  have HK := Lib.hid K.hk
  have he := K.he
  have H29 := Lib.hid K.c29
  have H35 := Lib.hid K.c35
  have HR := Lib.hid (Below.refl (w.heap.size + 1) (w.alloc (.cells X 28)))
  have HE : Hid (∀ W, Below (w.heap.size + 1) (w.alloc (.cells X 28)) W → Below w.heap.size w W) := Lib.hid (fun W hW => K.hb.trans (hW.mono (by omega)))
  clear K
  go_enter Tryz.func12, Tryz.ntmps12
  go_wp2_with (first
    | ((with_reducible refine wpList_loadG (o := ⟨some 17, _, _, _, _, _⟩) rfl 24 (.tmp 16) rfl _ ?_ _ HK.out ?_); rfl)
    | (go_at_call 27; (with_reducible refine (H27.out _).mono ?_); rintro e w1 ⟨rfl, rfl⟩)
    | (go_at_call 29; (with_reducible refine H29.out.mono ?_); rintro e w2 ⟨v2, rfl, h34⟩; have H34 := Lib.hid h34; clear h34)
    | (go_at_call 34; (with_reducible refine H34.out.mono ?_); rintro e w3 ⟨rfl, hb3⟩; have p0 := Q0.out _ hb3; have p2 := Q2.out _ hb3)
    | (go_at_call 30; (with_reducible refine (H30.out _).mono ?_); rintro e w4 ⟨rfl, rfl⟩)
    | (go_at_call 35; (with_reducible refine (H35.out _ HR.out).mono ?_); rintro e w5 ⟨rfl, hb5⟩)
    | (go_at_call 35; (with_reducible refine (H35.out _ hb3).mono ?_); rintro e w5 ⟨rfl, hb5⟩))
  go_ret
  first
    | exact ⟨rfl, HE.out _ hb5⟩
    | exact ⟨rfl, HE.out _ hb3⟩
    | exact ⟨rfl, HE.out _ HR.out⟩
theorem gp3_q (y : Bool) (G : Bool) (S : Bool) (hr : 0 < r) (K : GooL w X 3 Y y A A' 0 c r c' G S) : Calls Tryz.prog 12 #[.agg X] w fun e w' => e = .returned (.bool false) ∧ Below w.heap.size w w' := by
  have br : ((r : Int) == 0) = false := by simp; omega
  have gr : (0 : Int) < (r : Int) := by omega
  have H27 : Hid (∀ W, Calls Tryz.prog 27 #[.int .i64 3] W fun e w' => e = .returned (.bool true) ∧ w' = W) := Lib.hid (fun W => keyed_any 3 W)
  have H30 : Hid (∀ W, Calls Tryz.prog 30 #[.int .i64 3] W fun e w' => e = .returned (.bool false) ∧ w' = W) := Lib.hid (fun W => listed_any 3 W)
  have q0 := K.q0 _ (Below.refl _ _)
  have q1 := K.q1 _ (Below.refl _ _)
  have q2 := K.q2 _ (Below.refl _ _)
  have Q0 := Lib.hid K.q0
  have Q2 := Lib.hid K.q2
  have HK := Lib.hid K.hk
  have he := K.he
  have H29 := Lib.hid K.c29
  have H35 := Lib.hid K.c35
  have HR := Lib.hid (Below.refl (w.heap.size + 1) (w.alloc (.cells X 28)))
  have HE : Hid (∀ W, Below (w.heap.size + 1) (w.alloc (.cells X 28)) W → Below w.heap.size w W) := Lib.hid (fun W hW => K.hb.trans (hW.mono (by omega)))
  clear K
  go_enter Tryz.func12, Tryz.ntmps12
  go_wp2_with (first
    | ((with_reducible refine wpList_loadG (o := ⟨some 17, _, _, _, _, _⟩) rfl 24 (.tmp 16) rfl _ ?_ _ HK.out ?_); rfl)
    | (go_at_call 27; (with_reducible refine (H27.out _).mono ?_); rintro e w1 ⟨rfl, rfl⟩)
    | (go_at_call 29; (with_reducible refine H29.out.mono ?_); rintro e w2 ⟨v2, rfl, h34⟩; have H34 := Lib.hid h34; clear h34)
    | (go_at_call 34; (with_reducible refine H34.out.mono ?_); rintro e w3 ⟨rfl, hb3⟩; have p0 := Q0.out _ hb3; have p2 := Q2.out _ hb3)
    | (go_at_call 30; (with_reducible refine (H30.out _).mono ?_); rintro e w4 ⟨rfl, rfl⟩)
    | (go_at_call 35; (with_reducible refine (H35.out _ HR.out).mono ?_); rintro e w5 ⟨rfl, hb5⟩)
    | (go_at_call 35; (with_reducible refine (H35.out _ hb3).mono ?_); rintro e w5 ⟨rfl, hb5⟩))
  go_ret
  first
    | exact ⟨rfl, HE.out _ hb5⟩
    | exact ⟨rfl, HE.out _ hb3⟩
    | exact ⟨rfl, HE.out _ HR.out⟩
theorem gp3_y (y : Bool) (G : Bool) (S : Bool) (K : GooL w X 3 Y y A A' 0 c 0 c' G S) : Calls Tryz.prog 12 #[.agg X] w fun e w' => e = .returned (.bool true) ∧ Below w.heap.size w w' := by
  have H27 : Hid (∀ W, Calls Tryz.prog 27 #[.int .i64 3] W fun e w' => e = .returned (.bool true) ∧ w' = W) := Lib.hid (fun W => keyed_any 3 W)
  have H30 : Hid (∀ W, Calls Tryz.prog 30 #[.int .i64 3] W fun e w' => e = .returned (.bool false) ∧ w' = W) := Lib.hid (fun W => listed_any 3 W)
  have q0 := K.q0 _ (Below.refl _ _)
  have q1 := K.q1 _ (Below.refl _ _)
  have q2 := K.q2 _ (Below.refl _ _)
  have Q0 := Lib.hid K.q0
  have Q2 := Lib.hid K.q2
  have HK := Lib.hid K.hk
  have he := K.he
  have H29 := Lib.hid K.c29
  have H35 := Lib.hid K.c35
  have HR := Lib.hid (Below.refl (w.heap.size + 1) (w.alloc (.cells X 28)))
  have HE : Hid (∀ W, Below (w.heap.size + 1) (w.alloc (.cells X 28)) W → Below w.heap.size w W) := Lib.hid (fun W hW => K.hb.trans (hW.mono (by omega)))
  clear K
  go_enter Tryz.func12, Tryz.ntmps12
  go_wp2_with (first
    | ((with_reducible refine wpList_loadG (o := ⟨some 17, _, _, _, _, _⟩) rfl 24 (.tmp 16) rfl _ ?_ _ HK.out ?_); rfl)
    | (go_at_call 27; (with_reducible refine (H27.out _).mono ?_); rintro e w1 ⟨rfl, rfl⟩)
    | (go_at_call 29; (with_reducible refine H29.out.mono ?_); rintro e w2 ⟨v2, rfl, h34⟩; have H34 := Lib.hid h34; clear h34)
    | (go_at_call 34; (with_reducible refine H34.out.mono ?_); rintro e w3 ⟨rfl, hb3⟩; have p0 := Q0.out _ hb3; have p2 := Q2.out _ hb3)
    | (go_at_call 30; (with_reducible refine (H30.out _).mono ?_); rintro e w4 ⟨rfl, rfl⟩)
    | (go_at_call 35; (with_reducible refine (H35.out _ HR.out).mono ?_); rintro e w5 ⟨rfl, hb5⟩)
    | (go_at_call 35; (with_reducible refine (H35.out _ hb3).mono ?_); rintro e w5 ⟨rfl, hb5⟩))
  go_ret
  first
    | exact ⟨rfl, HE.out _ hb5⟩
    | exact ⟨rfl, HE.out _ hb3⟩
    | exact ⟨rfl, HE.out _ HR.out⟩
theorem gp8_p (y : Bool) (G : Bool) (S : Bool) (hn : 0 < n) (K : GooL w X 8 Y y A A' n c r c' G S) : Calls Tryz.prog 12 #[.agg X] w fun e w' => e = .returned (.bool false) ∧ Below w.heap.size w w' := by
  have bn : ((n : Int) == 0) = false := by simp; omega
  have gn : (0 : Int) < (n : Int) := by omega
  have H27 : Hid (∀ W, Calls Tryz.prog 27 #[.int .i64 8] W fun e w' => e = .returned (.bool true) ∧ w' = W) := Lib.hid (fun W => keyed_any 8 W)
  have H30 : Hid (∀ W, Calls Tryz.prog 30 #[.int .i64 8] W fun e w' => e = .returned (.bool false) ∧ w' = W) := Lib.hid (fun W => listed_any 8 W)
  have q0 := K.q0 _ (Below.refl _ _)
  have q1 := K.q1 _ (Below.refl _ _)
  have q2 := K.q2 _ (Below.refl _ _)
  have Q0 := Lib.hid K.q0
  have Q2 := Lib.hid K.q2
  have HK := Lib.hid K.hk
  have he := K.he
  have H29 := Lib.hid K.c29
  have H35 := Lib.hid K.c35
  have HR := Lib.hid (Below.refl (w.heap.size + 1) (w.alloc (.cells X 28)))
  have HE : Hid (∀ W, Below (w.heap.size + 1) (w.alloc (.cells X 28)) W → Below w.heap.size w W) := Lib.hid (fun W hW => K.hb.trans (hW.mono (by omega)))
  clear K
  go_enter Tryz.func12, Tryz.ntmps12
  go_wp2_with (first
    | ((with_reducible refine wpList_loadG (o := ⟨some 17, _, _, _, _, _⟩) rfl 24 (.tmp 16) rfl _ ?_ _ HK.out ?_); rfl)
    | (go_at_call 27; (with_reducible refine (H27.out _).mono ?_); rintro e w1 ⟨rfl, rfl⟩)
    | (go_at_call 29; (with_reducible refine H29.out.mono ?_); rintro e w2 ⟨v2, rfl, h34⟩; have H34 := Lib.hid h34; clear h34)
    | (go_at_call 34; (with_reducible refine H34.out.mono ?_); rintro e w3 ⟨rfl, hb3⟩; have p0 := Q0.out _ hb3; have p2 := Q2.out _ hb3)
    | (go_at_call 30; (with_reducible refine (H30.out _).mono ?_); rintro e w4 ⟨rfl, rfl⟩)
    | (go_at_call 35; (with_reducible refine (H35.out _ HR.out).mono ?_); rintro e w5 ⟨rfl, hb5⟩)
    | (go_at_call 35; (with_reducible refine (H35.out _ hb3).mono ?_); rintro e w5 ⟨rfl, hb5⟩))
  go_ret
  first
    | exact ⟨rfl, HE.out _ hb5⟩
    | exact ⟨rfl, HE.out _ hb3⟩
    | exact ⟨rfl, HE.out _ HR.out⟩
theorem gp8_q (y : Bool) (G : Bool) (S : Bool) (hr : 0 < r) (K : GooL w X 8 Y y A A' 0 c r c' G S) : Calls Tryz.prog 12 #[.agg X] w fun e w' => e = .returned (.bool false) ∧ Below w.heap.size w w' := by
  have br : ((r : Int) == 0) = false := by simp; omega
  have gr : (0 : Int) < (r : Int) := by omega
  have H27 : Hid (∀ W, Calls Tryz.prog 27 #[.int .i64 8] W fun e w' => e = .returned (.bool true) ∧ w' = W) := Lib.hid (fun W => keyed_any 8 W)
  have H30 : Hid (∀ W, Calls Tryz.prog 30 #[.int .i64 8] W fun e w' => e = .returned (.bool false) ∧ w' = W) := Lib.hid (fun W => listed_any 8 W)
  have q0 := K.q0 _ (Below.refl _ _)
  have q1 := K.q1 _ (Below.refl _ _)
  have q2 := K.q2 _ (Below.refl _ _)
  have Q0 := Lib.hid K.q0
  have Q2 := Lib.hid K.q2
  have HK := Lib.hid K.hk
  have he := K.he
  have H29 := Lib.hid K.c29
  have H35 := Lib.hid K.c35
  have HR := Lib.hid (Below.refl (w.heap.size + 1) (w.alloc (.cells X 28)))
  have HE : Hid (∀ W, Below (w.heap.size + 1) (w.alloc (.cells X 28)) W → Below w.heap.size w W) := Lib.hid (fun W hW => K.hb.trans (hW.mono (by omega)))
  clear K
  go_enter Tryz.func12, Tryz.ntmps12
  go_wp2_with (first
    | ((with_reducible refine wpList_loadG (o := ⟨some 17, _, _, _, _, _⟩) rfl 24 (.tmp 16) rfl _ ?_ _ HK.out ?_); rfl)
    | (go_at_call 27; (with_reducible refine (H27.out _).mono ?_); rintro e w1 ⟨rfl, rfl⟩)
    | (go_at_call 29; (with_reducible refine H29.out.mono ?_); rintro e w2 ⟨v2, rfl, h34⟩; have H34 := Lib.hid h34; clear h34)
    | (go_at_call 34; (with_reducible refine H34.out.mono ?_); rintro e w3 ⟨rfl, hb3⟩; have p0 := Q0.out _ hb3; have p2 := Q2.out _ hb3)
    | (go_at_call 30; (with_reducible refine (H30.out _).mono ?_); rintro e w4 ⟨rfl, rfl⟩)
    | (go_at_call 35; (with_reducible refine (H35.out _ HR.out).mono ?_); rintro e w5 ⟨rfl, hb5⟩)
    | (go_at_call 35; (with_reducible refine (H35.out _ hb3).mono ?_); rintro e w5 ⟨rfl, hb5⟩))
  go_ret
  first
    | exact ⟨rfl, HE.out _ hb5⟩
    | exact ⟨rfl, HE.out _ hb3⟩
    | exact ⟨rfl, HE.out _ HR.out⟩
theorem gp8_y (y : Bool) (G : Bool) (S : Bool) (K : GooL w X 8 Y y A A' 0 c 0 c' G S) : Calls Tryz.prog 12 #[.agg X] w fun e w' => e = .returned (.bool true) ∧ Below w.heap.size w w' := by
  have H27 : Hid (∀ W, Calls Tryz.prog 27 #[.int .i64 8] W fun e w' => e = .returned (.bool true) ∧ w' = W) := Lib.hid (fun W => keyed_any 8 W)
  have H30 : Hid (∀ W, Calls Tryz.prog 30 #[.int .i64 8] W fun e w' => e = .returned (.bool false) ∧ w' = W) := Lib.hid (fun W => listed_any 8 W)
  have q0 := K.q0 _ (Below.refl _ _)
  have q1 := K.q1 _ (Below.refl _ _)
  have q2 := K.q2 _ (Below.refl _ _)
  have Q0 := Lib.hid K.q0
  have Q2 := Lib.hid K.q2
  have HK := Lib.hid K.hk
  have he := K.he
  have H29 := Lib.hid K.c29
  have H35 := Lib.hid K.c35
  have HR := Lib.hid (Below.refl (w.heap.size + 1) (w.alloc (.cells X 28)))
  have HE : Hid (∀ W, Below (w.heap.size + 1) (w.alloc (.cells X 28)) W → Below w.heap.size w W) := Lib.hid (fun W hW => K.hb.trans (hW.mono (by omega)))
  clear K
  go_enter Tryz.func12, Tryz.ntmps12
  go_wp2_with (first
    | ((with_reducible refine wpList_loadG (o := ⟨some 17, _, _, _, _, _⟩) rfl 24 (.tmp 16) rfl _ ?_ _ HK.out ?_); rfl)
    | (go_at_call 27; (with_reducible refine (H27.out _).mono ?_); rintro e w1 ⟨rfl, rfl⟩)
    | (go_at_call 29; (with_reducible refine H29.out.mono ?_); rintro e w2 ⟨v2, rfl, h34⟩; have H34 := Lib.hid h34; clear h34)
    | (go_at_call 34; (with_reducible refine H34.out.mono ?_); rintro e w3 ⟨rfl, hb3⟩; have p0 := Q0.out _ hb3; have p2 := Q2.out _ hb3)
    | (go_at_call 30; (with_reducible refine (H30.out _).mono ?_); rintro e w4 ⟨rfl, rfl⟩)
    | (go_at_call 35; (with_reducible refine (H35.out _ HR.out).mono ?_); rintro e w5 ⟨rfl, hb5⟩)
    | (go_at_call 35; (with_reducible refine (H35.out _ hb3).mono ?_); rintro e w5 ⟨rfl, hb5⟩))
  go_ret
  first
    | exact ⟨rfl, HE.out _ hb5⟩
    | exact ⟨rfl, HE.out _ hb3⟩
    | exact ⟨rfl, HE.out _ HR.out⟩
theorem gp9_p (y : Bool) (G : Bool) (S : Bool) (hn : 0 < n) (K : GooL w X 9 Y y A A' n c r c' G S) : Calls Tryz.prog 12 #[.agg X] w fun e w' => e = .returned (.bool false) ∧ Below w.heap.size w w' := by
  have bn : ((n : Int) == 0) = false := by simp; omega
  have gn : (0 : Int) < (n : Int) := by omega
  have H27 : Hid (∀ W, Calls Tryz.prog 27 #[.int .i64 9] W fun e w' => e = .returned (.bool true) ∧ w' = W) := Lib.hid (fun W => keyed_any 9 W)
  have H30 : Hid (∀ W, Calls Tryz.prog 30 #[.int .i64 9] W fun e w' => e = .returned (.bool false) ∧ w' = W) := Lib.hid (fun W => listed_any 9 W)
  have q0 := K.q0 _ (Below.refl _ _)
  have q1 := K.q1 _ (Below.refl _ _)
  have q2 := K.q2 _ (Below.refl _ _)
  have Q0 := Lib.hid K.q0
  have Q2 := Lib.hid K.q2
  have HK := Lib.hid K.hk
  have he := K.he
  have H29 := Lib.hid K.c29
  have H35 := Lib.hid K.c35
  have HR := Lib.hid (Below.refl (w.heap.size + 1) (w.alloc (.cells X 28)))
  have HE : Hid (∀ W, Below (w.heap.size + 1) (w.alloc (.cells X 28)) W → Below w.heap.size w W) := Lib.hid (fun W hW => K.hb.trans (hW.mono (by omega)))
  clear K
  go_enter Tryz.func12, Tryz.ntmps12
  go_wp2_with (first
    | ((with_reducible refine wpList_loadG (o := ⟨some 17, _, _, _, _, _⟩) rfl 24 (.tmp 16) rfl _ ?_ _ HK.out ?_); rfl)
    | (go_at_call 27; (with_reducible refine (H27.out _).mono ?_); rintro e w1 ⟨rfl, rfl⟩)
    | (go_at_call 29; (with_reducible refine H29.out.mono ?_); rintro e w2 ⟨v2, rfl, h34⟩; have H34 := Lib.hid h34; clear h34)
    | (go_at_call 34; (with_reducible refine H34.out.mono ?_); rintro e w3 ⟨rfl, hb3⟩; have p0 := Q0.out _ hb3; have p2 := Q2.out _ hb3)
    | (go_at_call 30; (with_reducible refine (H30.out _).mono ?_); rintro e w4 ⟨rfl, rfl⟩)
    | (go_at_call 35; (with_reducible refine (H35.out _ HR.out).mono ?_); rintro e w5 ⟨rfl, hb5⟩)
    | (go_at_call 35; (with_reducible refine (H35.out _ hb3).mono ?_); rintro e w5 ⟨rfl, hb5⟩))
  go_ret
  first
    | exact ⟨rfl, HE.out _ hb5⟩
    | exact ⟨rfl, HE.out _ hb3⟩
    | exact ⟨rfl, HE.out _ HR.out⟩
theorem gp9_q (y : Bool) (G : Bool) (S : Bool) (hr : 0 < r) (K : GooL w X 9 Y y A A' 0 c r c' G S) : Calls Tryz.prog 12 #[.agg X] w fun e w' => e = .returned (.bool false) ∧ Below w.heap.size w w' := by
  have br : ((r : Int) == 0) = false := by simp; omega
  have gr : (0 : Int) < (r : Int) := by omega
  have H27 : Hid (∀ W, Calls Tryz.prog 27 #[.int .i64 9] W fun e w' => e = .returned (.bool true) ∧ w' = W) := Lib.hid (fun W => keyed_any 9 W)
  have H30 : Hid (∀ W, Calls Tryz.prog 30 #[.int .i64 9] W fun e w' => e = .returned (.bool false) ∧ w' = W) := Lib.hid (fun W => listed_any 9 W)
  have q0 := K.q0 _ (Below.refl _ _)
  have q1 := K.q1 _ (Below.refl _ _)
  have q2 := K.q2 _ (Below.refl _ _)
  have Q0 := Lib.hid K.q0
  have Q2 := Lib.hid K.q2
  have HK := Lib.hid K.hk
  have he := K.he
  have H29 := Lib.hid K.c29
  have H35 := Lib.hid K.c35
  have HR := Lib.hid (Below.refl (w.heap.size + 1) (w.alloc (.cells X 28)))
  have HE : Hid (∀ W, Below (w.heap.size + 1) (w.alloc (.cells X 28)) W → Below w.heap.size w W) := Lib.hid (fun W hW => K.hb.trans (hW.mono (by omega)))
  clear K
  go_enter Tryz.func12, Tryz.ntmps12
  go_wp2_with (first
    | ((with_reducible refine wpList_loadG (o := ⟨some 17, _, _, _, _, _⟩) rfl 24 (.tmp 16) rfl _ ?_ _ HK.out ?_); rfl)
    | (go_at_call 27; (with_reducible refine (H27.out _).mono ?_); rintro e w1 ⟨rfl, rfl⟩)
    | (go_at_call 29; (with_reducible refine H29.out.mono ?_); rintro e w2 ⟨v2, rfl, h34⟩; have H34 := Lib.hid h34; clear h34)
    | (go_at_call 34; (with_reducible refine H34.out.mono ?_); rintro e w3 ⟨rfl, hb3⟩; have p0 := Q0.out _ hb3; have p2 := Q2.out _ hb3)
    | (go_at_call 30; (with_reducible refine (H30.out _).mono ?_); rintro e w4 ⟨rfl, rfl⟩)
    | (go_at_call 35; (with_reducible refine (H35.out _ HR.out).mono ?_); rintro e w5 ⟨rfl, hb5⟩)
    | (go_at_call 35; (with_reducible refine (H35.out _ hb3).mono ?_); rintro e w5 ⟨rfl, hb5⟩))
  go_ret
  first
    | exact ⟨rfl, HE.out _ hb5⟩
    | exact ⟨rfl, HE.out _ hb3⟩
    | exact ⟨rfl, HE.out _ HR.out⟩
theorem gp9_y (y : Bool) (G : Bool) (S : Bool) (K : GooL w X 9 Y y A A' 0 c 0 c' G S) : Calls Tryz.prog 12 #[.agg X] w fun e w' => e = .returned (.bool true) ∧ Below w.heap.size w w' := by
  have H27 : Hid (∀ W, Calls Tryz.prog 27 #[.int .i64 9] W fun e w' => e = .returned (.bool true) ∧ w' = W) := Lib.hid (fun W => keyed_any 9 W)
  have H30 : Hid (∀ W, Calls Tryz.prog 30 #[.int .i64 9] W fun e w' => e = .returned (.bool false) ∧ w' = W) := Lib.hid (fun W => listed_any 9 W)
  have q0 := K.q0 _ (Below.refl _ _)
  have q1 := K.q1 _ (Below.refl _ _)
  have q2 := K.q2 _ (Below.refl _ _)
  have Q0 := Lib.hid K.q0
  have Q2 := Lib.hid K.q2
  have HK := Lib.hid K.hk
  have he := K.he
  have H29 := Lib.hid K.c29
  have H35 := Lib.hid K.c35
  have HR := Lib.hid (Below.refl (w.heap.size + 1) (w.alloc (.cells X 28)))
  have HE : Hid (∀ W, Below (w.heap.size + 1) (w.alloc (.cells X 28)) W → Below w.heap.size w W) := Lib.hid (fun W hW => K.hb.trans (hW.mono (by omega)))
  clear K
  go_enter Tryz.func12, Tryz.ntmps12
  go_wp2_with (first
    | ((with_reducible refine wpList_loadG (o := ⟨some 17, _, _, _, _, _⟩) rfl 24 (.tmp 16) rfl _ ?_ _ HK.out ?_); rfl)
    | (go_at_call 27; (with_reducible refine (H27.out _).mono ?_); rintro e w1 ⟨rfl, rfl⟩)
    | (go_at_call 29; (with_reducible refine H29.out.mono ?_); rintro e w2 ⟨v2, rfl, h34⟩; have H34 := Lib.hid h34; clear h34)
    | (go_at_call 34; (with_reducible refine H34.out.mono ?_); rintro e w3 ⟨rfl, hb3⟩; have p0 := Q0.out _ hb3; have p2 := Q2.out _ hb3)
    | (go_at_call 30; (with_reducible refine (H30.out _).mono ?_); rintro e w4 ⟨rfl, rfl⟩)
    | (go_at_call 35; (with_reducible refine (H35.out _ HR.out).mono ?_); rintro e w5 ⟨rfl, hb5⟩)
    | (go_at_call 35; (with_reducible refine (H35.out _ hb3).mono ?_); rintro e w5 ⟨rfl, hb5⟩))
  go_ret
  first
    | exact ⟨rfl, HE.out _ hb5⟩
    | exact ⟨rfl, HE.out _ hb3⟩
    | exact ⟨rfl, HE.out _ HR.out⟩
theorem gp6_n (y : Bool) (S : Bool) (K : GooL w X 6 Y y A A' n c r c' false S) : Calls Tryz.prog 12 #[.agg X] w fun e w' => e = .returned (.bool false) ∧ Below w.heap.size w w' := by
  have H27 : Hid (∀ W, Calls Tryz.prog 27 #[.int .i64 6] W fun e w' => e = .returned (.bool true) ∧ w' = W) := Lib.hid (fun W => keyed_any 6 W)
  have H30 : Hid (∀ W, Calls Tryz.prog 30 #[.int .i64 6] W fun e w' => e = .returned (.bool false) ∧ w' = W) := Lib.hid (fun W => listed_any 6 W)
  have q0 := K.q0 _ (Below.refl _ _)
  have q1 := K.q1 _ (Below.refl _ _)
  have q2 := K.q2 _ (Below.refl _ _)
  have Q0 := Lib.hid K.q0
  have Q2 := Lib.hid K.q2
  have HK := Lib.hid K.hk
  have he := K.he
  have H29 := Lib.hid K.c29
  have H35 := Lib.hid K.c35
  have HR := Lib.hid (Below.refl (w.heap.size + 1) (w.alloc (.cells X 28)))
  have HE : Hid (∀ W, Below (w.heap.size + 1) (w.alloc (.cells X 28)) W → Below w.heap.size w W) := Lib.hid (fun W hW => K.hb.trans (hW.mono (by omega)))
  clear K
  go_enter Tryz.func12, Tryz.ntmps12
  go_wp2_with (first
    | ((with_reducible refine wpList_loadG (o := ⟨some 17, _, _, _, _, _⟩) rfl 24 (.tmp 16) rfl _ ?_ _ HK.out ?_); rfl)
    | (go_at_call 27; (with_reducible refine (H27.out _).mono ?_); rintro e w1 ⟨rfl, rfl⟩)
    | (go_at_call 29; (with_reducible refine H29.out.mono ?_); rintro e w2 ⟨v2, rfl, h34⟩; have H34 := Lib.hid h34; clear h34)
    | (go_at_call 34; (with_reducible refine H34.out.mono ?_); rintro e w3 ⟨rfl, hb3⟩; have p0 := Q0.out _ hb3; have p2 := Q2.out _ hb3)
    | (go_at_call 30; (with_reducible refine (H30.out _).mono ?_); rintro e w4 ⟨rfl, rfl⟩)
    | (go_at_call 35; (with_reducible refine (H35.out _ HR.out).mono ?_); rintro e w5 ⟨rfl, hb5⟩)
    | (go_at_call 35; (with_reducible refine (H35.out _ hb3).mono ?_); rintro e w5 ⟨rfl, hb5⟩))
  go_ret
  first
    | exact ⟨rfl, HE.out _ hb5⟩
    | exact ⟨rfl, HE.out _ hb3⟩
    | exact ⟨rfl, HE.out _ HR.out⟩
theorem gp6_q (y : Bool) (S : Bool) (hr : 0 < r) (K : GooL w X 6 Y y A A' n c r c' true S) : Calls Tryz.prog 12 #[.agg X] w fun e w' => e = .returned (.bool false) ∧ Below w.heap.size w w' := by
  have br : ((r : Int) == 0) = false := by simp; omega
  have gr : (0 : Int) < (r : Int) := by omega
  have H27 : Hid (∀ W, Calls Tryz.prog 27 #[.int .i64 6] W fun e w' => e = .returned (.bool true) ∧ w' = W) := Lib.hid (fun W => keyed_any 6 W)
  have H30 : Hid (∀ W, Calls Tryz.prog 30 #[.int .i64 6] W fun e w' => e = .returned (.bool false) ∧ w' = W) := Lib.hid (fun W => listed_any 6 W)
  have q0 := K.q0 _ (Below.refl _ _)
  have q1 := K.q1 _ (Below.refl _ _)
  have q2 := K.q2 _ (Below.refl _ _)
  have Q0 := Lib.hid K.q0
  have Q2 := Lib.hid K.q2
  have HK := Lib.hid K.hk
  have he := K.he
  have H29 := Lib.hid K.c29
  have H35 := Lib.hid K.c35
  have HR := Lib.hid (Below.refl (w.heap.size + 1) (w.alloc (.cells X 28)))
  have HE : Hid (∀ W, Below (w.heap.size + 1) (w.alloc (.cells X 28)) W → Below w.heap.size w W) := Lib.hid (fun W hW => K.hb.trans (hW.mono (by omega)))
  clear K
  go_enter Tryz.func12, Tryz.ntmps12
  go_wp2_with (first
    | ((with_reducible refine wpList_loadG (o := ⟨some 17, _, _, _, _, _⟩) rfl 24 (.tmp 16) rfl _ ?_ _ HK.out ?_); rfl)
    | (go_at_call 27; (with_reducible refine (H27.out _).mono ?_); rintro e w1 ⟨rfl, rfl⟩)
    | (go_at_call 29; (with_reducible refine H29.out.mono ?_); rintro e w2 ⟨v2, rfl, h34⟩; have H34 := Lib.hid h34; clear h34)
    | (go_at_call 34; (with_reducible refine H34.out.mono ?_); rintro e w3 ⟨rfl, hb3⟩; have p0 := Q0.out _ hb3; have p2 := Q2.out _ hb3)
    | (go_at_call 30; (with_reducible refine (H30.out _).mono ?_); rintro e w4 ⟨rfl, rfl⟩)
    | (go_at_call 35; (with_reducible refine (H35.out _ HR.out).mono ?_); rintro e w5 ⟨rfl, hb5⟩)
    | (go_at_call 35; (with_reducible refine (H35.out _ hb3).mono ?_); rintro e w5 ⟨rfl, hb5⟩))
  go_ret
  first
    | exact ⟨rfl, HE.out _ hb5⟩
    | exact ⟨rfl, HE.out _ hb3⟩
    | exact ⟨rfl, HE.out _ HR.out⟩
theorem gp6_y (y : Bool) (S : Bool) (K : GooL w X 6 Y y A A' n c 0 c' true S) : Calls Tryz.prog 12 #[.agg X] w fun e w' => e = .returned (.bool true) ∧ Below w.heap.size w w' := by
  have H27 : Hid (∀ W, Calls Tryz.prog 27 #[.int .i64 6] W fun e w' => e = .returned (.bool true) ∧ w' = W) := Lib.hid (fun W => keyed_any 6 W)
  have H30 : Hid (∀ W, Calls Tryz.prog 30 #[.int .i64 6] W fun e w' => e = .returned (.bool false) ∧ w' = W) := Lib.hid (fun W => listed_any 6 W)
  have q0 := K.q0 _ (Below.refl _ _)
  have q1 := K.q1 _ (Below.refl _ _)
  have q2 := K.q2 _ (Below.refl _ _)
  have Q0 := Lib.hid K.q0
  have Q2 := Lib.hid K.q2
  have HK := Lib.hid K.hk
  have he := K.he
  have H29 := Lib.hid K.c29
  have H35 := Lib.hid K.c35
  have HR := Lib.hid (Below.refl (w.heap.size + 1) (w.alloc (.cells X 28)))
  have HE : Hid (∀ W, Below (w.heap.size + 1) (w.alloc (.cells X 28)) W → Below w.heap.size w W) := Lib.hid (fun W hW => K.hb.trans (hW.mono (by omega)))
  clear K
  go_enter Tryz.func12, Tryz.ntmps12
  go_wp2_with (first
    | ((with_reducible refine wpList_loadG (o := ⟨some 17, _, _, _, _, _⟩) rfl 24 (.tmp 16) rfl _ ?_ _ HK.out ?_); rfl)
    | (go_at_call 27; (with_reducible refine (H27.out _).mono ?_); rintro e w1 ⟨rfl, rfl⟩)
    | (go_at_call 29; (with_reducible refine H29.out.mono ?_); rintro e w2 ⟨v2, rfl, h34⟩; have H34 := Lib.hid h34; clear h34)
    | (go_at_call 34; (with_reducible refine H34.out.mono ?_); rintro e w3 ⟨rfl, hb3⟩; have p0 := Q0.out _ hb3; have p2 := Q2.out _ hb3)
    | (go_at_call 30; (with_reducible refine (H30.out _).mono ?_); rintro e w4 ⟨rfl, rfl⟩)
    | (go_at_call 35; (with_reducible refine (H35.out _ HR.out).mono ?_); rintro e w5 ⟨rfl, hb5⟩)
    | (go_at_call 35; (with_reducible refine (H35.out _ hb3).mono ?_); rintro e w5 ⟨rfl, hb5⟩))
  go_ret
  first
    | exact ⟨rfl, HE.out _ hb5⟩
    | exact ⟨rfl, HE.out _ hb3⟩
    | exact ⟨rfl, HE.out _ HR.out⟩
theorem gp4_p (y : Bool) (G : Bool) (S : Bool) (hn : 0 < n) (K : GooL w X 4 Y y A A' n c r c' G S) : Calls Tryz.prog 12 #[.agg X] w fun e w' => e = .returned (.bool false) ∧ Below w.heap.size w w' := by
  have bn : ((n : Int) == 0) = false := by simp; omega
  have gn : (0 : Int) < (n : Int) := by omega
  have H27 : Hid (∀ W, Calls Tryz.prog 27 #[.int .i64 4] W fun e w' => e = .returned (.bool true) ∧ w' = W) := Lib.hid (fun W => keyed_any 4 W)
  have H30 : Hid (∀ W, Calls Tryz.prog 30 #[.int .i64 4] W fun e w' => e = .returned (.bool true) ∧ w' = W) := Lib.hid (fun W => listed_any 4 W)
  have q0 := K.q0 _ (Below.refl _ _)
  have q1 := K.q1 _ (Below.refl _ _)
  have q2 := K.q2 _ (Below.refl _ _)
  have Q0 := Lib.hid K.q0
  have Q2 := Lib.hid K.q2
  have HK := Lib.hid K.hk
  have he := K.he
  have H29 := Lib.hid K.c29
  have H35 := Lib.hid K.c35
  have HR := Lib.hid (Below.refl (w.heap.size + 1) (w.alloc (.cells X 28)))
  have HE : Hid (∀ W, Below (w.heap.size + 1) (w.alloc (.cells X 28)) W → Below w.heap.size w W) := Lib.hid (fun W hW => K.hb.trans (hW.mono (by omega)))
  clear K
  go_enter Tryz.func12, Tryz.ntmps12
  go_wp2_with (first
    | ((with_reducible refine wpList_loadG (o := ⟨some 17, _, _, _, _, _⟩) rfl 24 (.tmp 16) rfl _ ?_ _ HK.out ?_); rfl)
    | (go_at_call 27; (with_reducible refine (H27.out _).mono ?_); rintro e w1 ⟨rfl, rfl⟩)
    | (go_at_call 29; (with_reducible refine H29.out.mono ?_); rintro e w2 ⟨v2, rfl, h34⟩; have H34 := Lib.hid h34; clear h34)
    | (go_at_call 34; (with_reducible refine H34.out.mono ?_); rintro e w3 ⟨rfl, hb3⟩; have p0 := Q0.out _ hb3; have p2 := Q2.out _ hb3)
    | (go_at_call 30; (with_reducible refine (H30.out _).mono ?_); rintro e w4 ⟨rfl, rfl⟩)
    | (go_at_call 35; (with_reducible refine (H35.out _ HR.out).mono ?_); rintro e w5 ⟨rfl, hb5⟩)
    | (go_at_call 35; (with_reducible refine (H35.out _ hb3).mono ?_); rintro e w5 ⟨rfl, hb5⟩))
  go_ret
  first
    | exact ⟨rfl, HE.out _ hb5⟩
    | exact ⟨rfl, HE.out _ hb3⟩
    | exact ⟨rfl, HE.out _ HR.out⟩
theorem gp4_q (y : Bool) (G : Bool) (S : Bool) (K : GooL w X 4 Y y A A' 0 c 0 c' G S) : Calls Tryz.prog 12 #[.agg X] w fun e w' => e = .returned (.bool false) ∧ Below w.heap.size w w' := by
  have H27 : Hid (∀ W, Calls Tryz.prog 27 #[.int .i64 4] W fun e w' => e = .returned (.bool true) ∧ w' = W) := Lib.hid (fun W => keyed_any 4 W)
  have H30 : Hid (∀ W, Calls Tryz.prog 30 #[.int .i64 4] W fun e w' => e = .returned (.bool true) ∧ w' = W) := Lib.hid (fun W => listed_any 4 W)
  have q0 := K.q0 _ (Below.refl _ _)
  have q1 := K.q1 _ (Below.refl _ _)
  have q2 := K.q2 _ (Below.refl _ _)
  have Q0 := Lib.hid K.q0
  have Q2 := Lib.hid K.q2
  have HK := Lib.hid K.hk
  have he := K.he
  have H29 := Lib.hid K.c29
  have H35 := Lib.hid K.c35
  have HR := Lib.hid (Below.refl (w.heap.size + 1) (w.alloc (.cells X 28)))
  have HE : Hid (∀ W, Below (w.heap.size + 1) (w.alloc (.cells X 28)) W → Below w.heap.size w W) := Lib.hid (fun W hW => K.hb.trans (hW.mono (by omega)))
  clear K
  go_enter Tryz.func12, Tryz.ntmps12
  go_wp2_with (first
    | ((with_reducible refine wpList_loadG (o := ⟨some 17, _, _, _, _, _⟩) rfl 24 (.tmp 16) rfl _ ?_ _ HK.out ?_); rfl)
    | (go_at_call 27; (with_reducible refine (H27.out _).mono ?_); rintro e w1 ⟨rfl, rfl⟩)
    | (go_at_call 29; (with_reducible refine H29.out.mono ?_); rintro e w2 ⟨v2, rfl, h34⟩; have H34 := Lib.hid h34; clear h34)
    | (go_at_call 34; (with_reducible refine H34.out.mono ?_); rintro e w3 ⟨rfl, hb3⟩; have p0 := Q0.out _ hb3; have p2 := Q2.out _ hb3)
    | (go_at_call 30; (with_reducible refine (H30.out _).mono ?_); rintro e w4 ⟨rfl, rfl⟩)
    | (go_at_call 35; (with_reducible refine (H35.out _ HR.out).mono ?_); rintro e w5 ⟨rfl, hb5⟩)
    | (go_at_call 35; (with_reducible refine (H35.out _ hb3).mono ?_); rintro e w5 ⟨rfl, hb5⟩))
  go_ret
  first
    | exact ⟨rfl, HE.out _ hb5⟩
    | exact ⟨rfl, HE.out _ hb3⟩
    | exact ⟨rfl, HE.out _ HR.out⟩
theorem gp4_y (y : Bool) (G : Bool) (S : Bool) (hr : 0 < r) (K : GooL w X 4 Y y A A' 0 c r c' G S) : Calls Tryz.prog 12 #[.agg X] w fun e w' => e = .returned (.bool S) ∧ Below w.heap.size w w' := by
  have br : ((r : Int) == 0) = false := by simp; omega
  have gr : (0 : Int) < (r : Int) := by omega
  have H27 : Hid (∀ W, Calls Tryz.prog 27 #[.int .i64 4] W fun e w' => e = .returned (.bool true) ∧ w' = W) := Lib.hid (fun W => keyed_any 4 W)
  have H30 : Hid (∀ W, Calls Tryz.prog 30 #[.int .i64 4] W fun e w' => e = .returned (.bool true) ∧ w' = W) := Lib.hid (fun W => listed_any 4 W)
  have q0 := K.q0 _ (Below.refl _ _)
  have q1 := K.q1 _ (Below.refl _ _)
  have q2 := K.q2 _ (Below.refl _ _)
  have Q0 := Lib.hid K.q0
  have Q2 := Lib.hid K.q2
  have HK := Lib.hid K.hk
  have he := K.he
  have H29 := Lib.hid K.c29
  have H35 := Lib.hid K.c35
  have HR := Lib.hid (Below.refl (w.heap.size + 1) (w.alloc (.cells X 28)))
  have HE : Hid (∀ W, Below (w.heap.size + 1) (w.alloc (.cells X 28)) W → Below w.heap.size w W) := Lib.hid (fun W hW => K.hb.trans (hW.mono (by omega)))
  clear K
  go_enter Tryz.func12, Tryz.ntmps12
  go_wp2_with (first
    | ((with_reducible refine wpList_loadG (o := ⟨some 17, _, _, _, _, _⟩) rfl 24 (.tmp 16) rfl _ ?_ _ HK.out ?_); rfl)
    | (go_at_call 27; (with_reducible refine (H27.out _).mono ?_); rintro e w1 ⟨rfl, rfl⟩)
    | (go_at_call 29; (with_reducible refine H29.out.mono ?_); rintro e w2 ⟨v2, rfl, h34⟩; have H34 := Lib.hid h34; clear h34)
    | (go_at_call 34; (with_reducible refine H34.out.mono ?_); rintro e w3 ⟨rfl, hb3⟩; have p0 := Q0.out _ hb3; have p2 := Q2.out _ hb3)
    | (go_at_call 30; (with_reducible refine (H30.out _).mono ?_); rintro e w4 ⟨rfl, rfl⟩)
    | (go_at_call 35; (with_reducible refine (H35.out _ HR.out).mono ?_); rintro e w5 ⟨rfl, hb5⟩)
    | (go_at_call 35; (with_reducible refine (H35.out _ hb3).mono ?_); rintro e w5 ⟨rfl, hb5⟩))
  go_ret
  first
    | exact ⟨rfl, HE.out _ hb5⟩
    | exact ⟨rfl, HE.out _ hb3⟩
    | exact ⟨rfl, HE.out _ HR.out⟩
theorem gp7_p (y : Bool) (G : Bool) (S : Bool) (hn : 0 < n) (K : GooL w X 7 Y y A A' n c r c' G S) : Calls Tryz.prog 12 #[.agg X] w fun e w' => e = .returned (.bool false) ∧ Below w.heap.size w w' := by
  have bn : ((n : Int) == 0) = false := by simp; omega
  have gn : (0 : Int) < (n : Int) := by omega
  have H27 : Hid (∀ W, Calls Tryz.prog 27 #[.int .i64 7] W fun e w' => e = .returned (.bool true) ∧ w' = W) := Lib.hid (fun W => keyed_any 7 W)
  have H30 : Hid (∀ W, Calls Tryz.prog 30 #[.int .i64 7] W fun e w' => e = .returned (.bool true) ∧ w' = W) := Lib.hid (fun W => listed_any 7 W)
  have q0 := K.q0 _ (Below.refl _ _)
  have q1 := K.q1 _ (Below.refl _ _)
  have q2 := K.q2 _ (Below.refl _ _)
  have Q0 := Lib.hid K.q0
  have Q2 := Lib.hid K.q2
  have HK := Lib.hid K.hk
  have he := K.he
  have H29 := Lib.hid K.c29
  have H35 := Lib.hid K.c35
  have HR := Lib.hid (Below.refl (w.heap.size + 1) (w.alloc (.cells X 28)))
  have HE : Hid (∀ W, Below (w.heap.size + 1) (w.alloc (.cells X 28)) W → Below w.heap.size w W) := Lib.hid (fun W hW => K.hb.trans (hW.mono (by omega)))
  clear K
  go_enter Tryz.func12, Tryz.ntmps12
  go_wp2_with (first
    | ((with_reducible refine wpList_loadG (o := ⟨some 17, _, _, _, _, _⟩) rfl 24 (.tmp 16) rfl _ ?_ _ HK.out ?_); rfl)
    | (go_at_call 27; (with_reducible refine (H27.out _).mono ?_); rintro e w1 ⟨rfl, rfl⟩)
    | (go_at_call 29; (with_reducible refine H29.out.mono ?_); rintro e w2 ⟨v2, rfl, h34⟩; have H34 := Lib.hid h34; clear h34)
    | (go_at_call 34; (with_reducible refine H34.out.mono ?_); rintro e w3 ⟨rfl, hb3⟩; have p0 := Q0.out _ hb3; have p2 := Q2.out _ hb3)
    | (go_at_call 30; (with_reducible refine (H30.out _).mono ?_); rintro e w4 ⟨rfl, rfl⟩)
    | (go_at_call 35; (with_reducible refine (H35.out _ HR.out).mono ?_); rintro e w5 ⟨rfl, hb5⟩)
    | (go_at_call 35; (with_reducible refine (H35.out _ hb3).mono ?_); rintro e w5 ⟨rfl, hb5⟩))
  go_ret
  first
    | exact ⟨rfl, HE.out _ hb5⟩
    | exact ⟨rfl, HE.out _ hb3⟩
    | exact ⟨rfl, HE.out _ HR.out⟩
theorem gp7_q (y : Bool) (G : Bool) (S : Bool) (K : GooL w X 7 Y y A A' 0 c 0 c' G S) : Calls Tryz.prog 12 #[.agg X] w fun e w' => e = .returned (.bool false) ∧ Below w.heap.size w w' := by
  have H27 : Hid (∀ W, Calls Tryz.prog 27 #[.int .i64 7] W fun e w' => e = .returned (.bool true) ∧ w' = W) := Lib.hid (fun W => keyed_any 7 W)
  have H30 : Hid (∀ W, Calls Tryz.prog 30 #[.int .i64 7] W fun e w' => e = .returned (.bool true) ∧ w' = W) := Lib.hid (fun W => listed_any 7 W)
  have q0 := K.q0 _ (Below.refl _ _)
  have q1 := K.q1 _ (Below.refl _ _)
  have q2 := K.q2 _ (Below.refl _ _)
  have Q0 := Lib.hid K.q0
  have Q2 := Lib.hid K.q2
  have HK := Lib.hid K.hk
  have he := K.he
  have H29 := Lib.hid K.c29
  have H35 := Lib.hid K.c35
  have HR := Lib.hid (Below.refl (w.heap.size + 1) (w.alloc (.cells X 28)))
  have HE : Hid (∀ W, Below (w.heap.size + 1) (w.alloc (.cells X 28)) W → Below w.heap.size w W) := Lib.hid (fun W hW => K.hb.trans (hW.mono (by omega)))
  clear K
  go_enter Tryz.func12, Tryz.ntmps12
  go_wp2_with (first
    | ((with_reducible refine wpList_loadG (o := ⟨some 17, _, _, _, _, _⟩) rfl 24 (.tmp 16) rfl _ ?_ _ HK.out ?_); rfl)
    | (go_at_call 27; (with_reducible refine (H27.out _).mono ?_); rintro e w1 ⟨rfl, rfl⟩)
    | (go_at_call 29; (with_reducible refine H29.out.mono ?_); rintro e w2 ⟨v2, rfl, h34⟩; have H34 := Lib.hid h34; clear h34)
    | (go_at_call 34; (with_reducible refine H34.out.mono ?_); rintro e w3 ⟨rfl, hb3⟩; have p0 := Q0.out _ hb3; have p2 := Q2.out _ hb3)
    | (go_at_call 30; (with_reducible refine (H30.out _).mono ?_); rintro e w4 ⟨rfl, rfl⟩)
    | (go_at_call 35; (with_reducible refine (H35.out _ HR.out).mono ?_); rintro e w5 ⟨rfl, hb5⟩)
    | (go_at_call 35; (with_reducible refine (H35.out _ hb3).mono ?_); rintro e w5 ⟨rfl, hb5⟩))
  go_ret
  first
    | exact ⟨rfl, HE.out _ hb5⟩
    | exact ⟨rfl, HE.out _ hb3⟩
    | exact ⟨rfl, HE.out _ HR.out⟩
theorem gp7_y (y : Bool) (G : Bool) (S : Bool) (hr : 0 < r) (K : GooL w X 7 Y y A A' 0 c r c' G S) : Calls Tryz.prog 12 #[.agg X] w fun e w' => e = .returned (.bool S) ∧ Below w.heap.size w w' := by
  have br : ((r : Int) == 0) = false := by simp; omega
  have gr : (0 : Int) < (r : Int) := by omega
  have H27 : Hid (∀ W, Calls Tryz.prog 27 #[.int .i64 7] W fun e w' => e = .returned (.bool true) ∧ w' = W) := Lib.hid (fun W => keyed_any 7 W)
  have H30 : Hid (∀ W, Calls Tryz.prog 30 #[.int .i64 7] W fun e w' => e = .returned (.bool true) ∧ w' = W) := Lib.hid (fun W => listed_any 7 W)
  have q0 := K.q0 _ (Below.refl _ _)
  have q1 := K.q1 _ (Below.refl _ _)
  have q2 := K.q2 _ (Below.refl _ _)
  have Q0 := Lib.hid K.q0
  have Q2 := Lib.hid K.q2
  have HK := Lib.hid K.hk
  have he := K.he
  have H29 := Lib.hid K.c29
  have H35 := Lib.hid K.c35
  have HR := Lib.hid (Below.refl (w.heap.size + 1) (w.alloc (.cells X 28)))
  have HE : Hid (∀ W, Below (w.heap.size + 1) (w.alloc (.cells X 28)) W → Below w.heap.size w W) := Lib.hid (fun W hW => K.hb.trans (hW.mono (by omega)))
  clear K
  go_enter Tryz.func12, Tryz.ntmps12
  go_wp2_with (first
    | ((with_reducible refine wpList_loadG (o := ⟨some 17, _, _, _, _, _⟩) rfl 24 (.tmp 16) rfl _ ?_ _ HK.out ?_); rfl)
    | (go_at_call 27; (with_reducible refine (H27.out _).mono ?_); rintro e w1 ⟨rfl, rfl⟩)
    | (go_at_call 29; (with_reducible refine H29.out.mono ?_); rintro e w2 ⟨v2, rfl, h34⟩; have H34 := Lib.hid h34; clear h34)
    | (go_at_call 34; (with_reducible refine H34.out.mono ?_); rintro e w3 ⟨rfl, hb3⟩; have p0 := Q0.out _ hb3; have p2 := Q2.out _ hb3)
    | (go_at_call 30; (with_reducible refine (H30.out _).mono ?_); rintro e w4 ⟨rfl, rfl⟩)
    | (go_at_call 35; (with_reducible refine (H35.out _ HR.out).mono ?_); rintro e w5 ⟨rfl, hb5⟩)
    | (go_at_call 35; (with_reducible refine (H35.out _ hb3).mono ?_); rintro e w5 ⟨rfl, hb5⟩))
  go_ret
  first
    | exact ⟨rfl, HE.out _ hb5⟩
    | exact ⟨rfl, HE.out _ hb3⟩
    | exact ⟨rfl, HE.out _ HR.out⟩
theorem gp0l (k : Int) (y : Bool) (G : Bool) (S : Bool) (h : k < 1) (K : GooL w X k Y y A A' n c r c' G S) : Calls Tryz.prog 12 #[.agg X] w fun e w' => e = .returned (.bool false) ∧ Below w.heap.size w w' := by
  have q0 := K.q0 _ (Below.refl _ _)
  have q1 := K.q1 _ (Below.refl _ _)
  have q2 := K.q2 _ (Below.refl _ _)
  have Q0 := Lib.hid K.q0
  have Q2 := Lib.hid K.q2
  have HK := Lib.hid K.hk
  have he := K.he
  have H29 := Lib.hid K.c29
  have H35 := Lib.hid K.c35
  have HR := Lib.hid (Below.refl (w.heap.size + 1) (w.alloc (.cells X 28)))
  have HE : Hid (∀ W, Below (w.heap.size + 1) (w.alloc (.cells X 28)) W → Below w.heap.size w W) := Lib.hid (fun W hW => K.hb.trans (hW.mono (by omega)))
  clear K
  go_enter Tryz.func12, Tryz.ntmps12
  go_wp2
  go_ret
  exact ⟨rfl, HE.out _ HR.out⟩
theorem gp0g (k : Int) (y : Bool) (G : Bool) (S : Bool) (h : 9 < k) (K : GooL w X k Y y A A' n c r c' G S) : Calls Tryz.prog 12 #[.agg X] w fun e w' => e = .returned (.bool false) ∧ Below w.heap.size w w' := by
  have h1 : ¬ k < 1 := by omega
  have q0 := K.q0 _ (Below.refl _ _)
  have q1 := K.q1 _ (Below.refl _ _)
  have q2 := K.q2 _ (Below.refl _ _)
  have Q0 := Lib.hid K.q0
  have Q2 := Lib.hid K.q2
  have HK := Lib.hid K.hk
  have he := K.he
  have H29 := Lib.hid K.c29
  have H35 := Lib.hid K.c35
  have HR := Lib.hid (Below.refl (w.heap.size + 1) (w.alloc (.cells X 28)))
  have HE : Hid (∀ W, Below (w.heap.size + 1) (w.alloc (.cells X 28)) W → Below w.heap.size w W) := Lib.hid (fun W hW => K.hb.trans (hW.mono (by omega)))
  clear K
  go_enter Tryz.func12, Tryz.ntmps12
  go_wp2
  go_ret
  exact ⟨rfl, HE.out _ HR.out⟩
theorem gpod_case (k : Int) (y G S : Bool) (K : GooL w X k Y y A A' n c r c' G S) : Calls Tryz.prog 12 #[.agg X] w fun e w' => e = .returned (.bool (goodK k y n r G S)) ∧ Below w.heap.size w w' := by
  by_cases hk : 1 ≤ k ∧ k ≤ 9
  · obtain rfl | rfl | rfl | rfl | rfl | rfl | rfl | rfl | rfl : k = 1 ∨ k = 2 ∨ k = 3 ∨ k = 4 ∨ k = 5 ∨ k = 6 ∨ k = 7 ∨ k = 8 ∨ k = 9 := by omega
    · cases y with
      | false => exact gp1_n G S K
      | true =>
        rcases Nat.eq_zero_or_pos n with rfl | hn
        · rcases Nat.eq_zero_or_pos r with rfl | hr
          · exact gp1_y G S K
          · rw [show goodK 1 true 0 r G S = false by simp [goodK]; omega]
            exact gp1_q G S hr K
        · rw [show goodK 1 true n r G S = false by simp [goodK]; omega]
          exact gp1_p G S hn K
    · rcases Nat.eq_zero_or_pos n with rfl | hn
      · rcases Nat.eq_zero_or_pos r with rfl | hr
        · exact gp2_y y G S K
        · rw [show goodK 2 y 0 r G S = false by simp [goodK]; omega]
          exact gp2_q y G S hr K
      · rw [show goodK 2 y n r G S = false by simp [goodK]; omega]
        exact gp2_p y G S hn K
    · rcases Nat.eq_zero_or_pos n with rfl | hn
      · rcases Nat.eq_zero_or_pos r with rfl | hr
        · exact gp3_y y G S K
        · rw [show goodK 3 y 0 r G S = false by simp [goodK]; omega]
          exact gp3_q y G S hr K
      · rw [show goodK 3 y n r G S = false by simp [goodK]; omega]
        exact gp3_p y G S hn K
    · rcases Nat.eq_zero_or_pos n with rfl | hn
      · rcases Nat.eq_zero_or_pos r with rfl | hr
        · exact gp4_q y G S K
        · rw [show goodK 4 y 0 r G S = S by simp [goodK]; omega]
          exact gp4_y y G S hr K
      · rw [show goodK 4 y n r G S = false by simp [goodK]; omega]
        exact gp4_p y G S hn K
    · cases y with
      | false => exact gp5_n G S K
      | true =>
        rcases Nat.eq_zero_or_pos n with rfl | hn
        · rcases Nat.eq_zero_or_pos r with rfl | hr
          · exact gp5_y G S K
          · rw [show goodK 5 true 0 r G S = false by simp [goodK]; omega]
            exact gp5_q G S hr K
        · rw [show goodK 5 true n r G S = false by simp [goodK]; omega]
          exact gp5_p G S hn K
    · cases G with
      | false => exact gp6_n y S K
      | true =>
        rcases Nat.eq_zero_or_pos r with rfl | hr
        · exact gp6_y y S K
        · rw [show goodK 6 y n r true S = false by simp [goodK]; omega]
          exact gp6_q y S hr K
    · rcases Nat.eq_zero_or_pos n with rfl | hn
      · rcases Nat.eq_zero_or_pos r with rfl | hr
        · exact gp7_q y G S K
        · rw [show goodK 7 y 0 r G S = S by simp [goodK]; omega]
          exact gp7_y y G S hr K
      · rw [show goodK 7 y n r G S = false by simp [goodK]; omega]
        exact gp7_p y G S hn K
    · rcases Nat.eq_zero_or_pos n with rfl | hn
      · rcases Nat.eq_zero_or_pos r with rfl | hr
        · exact gp8_y y G S K
        · rw [show goodK 8 y 0 r G S = false by simp [goodK]; omega]
          exact gp8_q y G S hr K
      · rw [show goodK 8 y n r G S = false by simp [goodK]; omega]
        exact gp8_p y G S hn K
    · rcases Nat.eq_zero_or_pos n with rfl | hn
      · rcases Nat.eq_zero_or_pos r with rfl | hr
        · exact gp9_y y G S K
        · rw [show goodK 9 y 0 r G S = false by simp [goodK]; omega]
          exact gp9_q y G S hr K
      · rw [show goodK 9 y n r G S = false by simp [goodK]; omega]
        exact gp9_p y G S hn K
  · rw [show goodK k y n r G S = false by unfold goodK; rw [if_neg (by omega), if_neg (by omega), if_neg (by omega), if_neg (by omega)]]
    by_cases h : k < 1
    · exact gp0l k y G S h K
    · exact gp0g k y G S (by omega) K
end
theorem mrgood_any (m : Msg) (L : List Con) (R : List Ins) (w : World) (hc : ConV w m.vc L) (hr : InsV w m.vr R) (hL : L.length ≤ 10000) (hR : R.length ≤ 10000) (ht : ∀ x ∈ R, x.tgt.length ≤ 100000) : Calls Tryz.prog 12 #[.agg (encM m).toArray] w fun e w' => e = .returned (.bool (goodM m.kind m.key L R)) ∧ Below w.heap.size w w' := by
  have hb : Below w.heap.size w (w.alloc (.cells (encM m).toArray 28)) := (Below.refl _ w).alloc (Nat.le_refl _) _
  have hc1 := hc.below hb
  have hr1 := hr.below hb
  obtain ⟨A, c, hv, hA, hA2⟩ := hc1
  obtain ⟨A', c', hv', hA'⟩ := hr1
  have hn := heap_alloc_new w (.cells (encM m).toArray 28)
  have F := fldM hn
  have e : (w.alloc (.cells (encM m).toArray 28)).heap.size = w.heap.size + 1 := by simp
  refine gpod_case (Y := (bcells m.key).toArray) (A := A) (A' := A') (n := L.length) (c := c) (r := R.length) (c' := c') m.kind (m.key == zero20) (goodC (ctsC L)) (goodR R) ⟨fun W hW => (fldM_below hn hW (by omega)).kind, fun W hW => by rw [← hv]; exact (fldM_below hn hW (by omega)).con, fun W hW => by rw [← hv']; exact (fldM_below hn hW (by omega)).ros, F.key, fun W => eq23 m.key zero20 m.hy (by simp [zero20]) W 9998, ?_, ?_, hb⟩
  · rw [← e]
    refine (plain_any _ L _ ⟨A, c, rfl, hA, hA2⟩ hL).mono ?_
    rintro e1 w1 ⟨v1, rfl, ⟨B, q, rfl, hB, _⟩, hb1⟩
    refine ⟨_, rfl, (rgoodlist_any B q L w1 hL hB).mono ?_⟩
    rintro e2 w2 ⟨rfl, hb2⟩
    exact ⟨rfl, hb1.trans (hb2.mono hb1.size)⟩
  · intro W hW
    refine (rgd_any A' c' R W hR ht ?_).mono ?_
    · rw [← e] at hW
      exact (hA'.below hW).more hW.size
    · rintro e2 w2 ⟨rfl, hb2⟩
      exact ⟨rfl, hW.trans (hb2.mono (by have := hW.size; simpa using this))⟩
end Go.Proofs.YtehgpnnfjgmiiaaGreat
