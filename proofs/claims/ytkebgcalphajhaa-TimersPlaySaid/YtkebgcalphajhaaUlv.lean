/- lives of the statements on the package timers. No condition. -/
import Derived.Test.YtkebgcalphajhaaUan
namespace Go.Proofs.Ytkebgcalphajhaa.Str
open Go.RowKit Go.Lib Go.Shelf Go.Proofs.Ytkebgcalphajhaa
set_option maxRecDepth 100000
set_option maxHeartbeats 400000
def kA : ByteArray := ⟨#[97]⟩
def kB : ByteArray := ⟨#[98]⟩
theorem o1 : setO [] 9 kA 5 = [(kA, 5)] ∧ setR [] 9 kA = 0 := by decide
theorem o2 : setO [(kA, 5)] 9 kB 3 = [(kB, 3), (kA, 5)] ∧ setR [(kA, 5)] 9 kB = 0 := by decide
theorem o3 : setO [(kB, 3), (kA, 5)] 9 kA 3 = [(kB, 3), (kA, 3)] ∧ setR [(kB, 3), (kA, 5)] 9 kA = 0 := by decide
theorem o4 : [(kB, 3), (kA, 3)].takeWhile (dueT 4) = [(kB, 3), (kA, 3)] ∧ [(kB, 3), (kA, 3)].dropWhile (dueT 4) = [] := by decide
theorem srt1 : SrtT [(kA, 5)] ∧ UniT [(kA, 5)] ∧ SrtT [(kB, 3), (kA, 5)] ∧ UniT [(kB, 3), (kA, 5)] := by
  unfold SrtT UniT
  decide
theorem tlives (w : World) : Calls Try.prog 7 #[] w fun e w' => e = .returned (.bool true) ∧ Below w.heap.size w w' := by
  have HN : Hid (Calls Try.prog 31 #[.int .i64 9] w fun e w' => e = .returned (.pointer (some ⟨w.heap.size, 0, none⟩)) ∧ w' = w.alloc (.cells #[.int .i64 9, .slice none 0 0] 99)) := Lib.hid (tnew_yes 9 (by omega) (by omega) w)
  obtain ⟨w1, hw1⟩ : ∃ w1, w1 = w.alloc (.cells #[.int .i64 9, .slice none 0 0] 99) := ⟨_, rfl⟩
  have HW1 := Lib.hid hw1
  have HT0 : Hid (Tab w1 w.heap.size 9 (.slice none 0 0) []) := Lib.hid (by rw [hw1]; exact tab_new 9 w)
  have hb1 : Below w.heap.size w w1 := by rw [hw1]; exact (Below.refl _ w).alloc (Nat.le_refl _) _
  have HB1 := Lib.hid hb1
  have HS1 : Hid (∀ W v, Tab W w.heap.size 9 v [] → Calls Try.prog 32 #[.pointer (some ⟨w.heap.size, 0, none⟩), .string ⟨#[97]⟩, .int .u64 5] W (Moved W w.heap.size 9 v [(kA, 5)] (.int .i64 0))) := Lib.hid (fun W v h => by
    have := set_any w.heap.size 9 (by omega) (by omega) v [] kA 5 W h List.Pairwise.nil (by unfold UniT; decide) (by simp)
    rw [o1.1, o1.2] at this
    exact this)
  have HS2 : Hid (∀ W v, Tab W w.heap.size 9 v [(kA, 5)] → Calls Try.prog 32 #[.pointer (some ⟨w.heap.size, 0, none⟩), .string ⟨#[98]⟩, .int .u64 3] W (Moved W w.heap.size 9 v [(kB, 3), (kA, 5)] (.int .i64 0))) := Lib.hid (fun W v h => by
    have := set_any w.heap.size 9 (by omega) (by omega) v _ kB 3 W h srt1.1 srt1.2.1 (by simp)
    rw [o2.1, o2.2] at this
    exact this)
  have HS3 : Hid (∀ W v, Tab W w.heap.size 9 v [(kB, 3), (kA, 5)] → Calls Try.prog 32 #[.pointer (some ⟨w.heap.size, 0, none⟩), .string ⟨#[97]⟩, .int .u64 3] W (Moved W w.heap.size 9 v [(kB, 3), (kA, 3)] (.int .i64 0))) := Lib.hid (fun W v h => by
    have := set_any w.heap.size 9 (by omega) (by omega) v _ kA 3 W h srt1.2.2.1 srt1.2.2.2 (by simp)
    rw [o3.1, o3.2] at this
    exact this)
  have HD : Hid (∀ W v, Tab W w.heap.size 9 v [(kB, 3), (kA, 3)] → Calls Try.prog 33 #[.pointer (some ⟨w.heap.size, 0, none⟩), .int .u64 4] W (DueIs W w.heap.size 9 v [(kB, 3), (kA, 3)] [])) := Lib.hid (fun W v h => by
    have := tdue_any w.heap.size 9 4 (by omega) v _ W h (by simp)
    rw [o4.1, o4.2] at this
    exact this)
  have HL : Hid (∀ W v, Tab W w.heap.size 9 v [] → Calls Try.prog 34 #[.pointer (some ⟨w.heap.size, 0, none⟩)] W fun e w' => e = .returned (.int .i64 0) ∧ w' = W) := Lib.hid (fun W v h => tlen_any w.heap.size 9 (by omega) v [] W h)
  have HF : Hid (∀ W v, Mov w1 W w.heap.size (.slice none 0 0) v → Below w.heap.size w W) := Lib.hid (fun W v h => hb1.trans (h.below (by rw [hw1]; simp) (Nat.le_refl _) (fun b h => by cases h)))
  have HK : Hid (∀ W vk, RowAt W 9 1 vk 2 (keysV [(kB, 3), (kA, 3)]) → ∃ b off c, vk = .slice (some ⟨b, off, none⟩) 2 c ∧ W.cell? ⟨b, off, none⟩ = some (.string ⟨#[98]⟩) ∧ W.cell? ⟨b, off + 1, none⟩ = some (.string ⟨#[97]⟩)) := Lib.hid (fun W vk h => by
    obtain ⟨b, off, c, rfl, _⟩ := h.filled (by omega)
    exact ⟨b, off, c, rfl, h.cell 0 _ rfl, h.cell 1 _ rfl⟩)
  clear hw1 hb1
  go_enter Try.func7, Try.ntmps7
  go_wp2_with (first
    | (go_at_call 31; (with_reducible refine HN.out.mono ?_); rintro e w2 ⟨rfl, hw2⟩; rw [hw2, ← HW1.out]; clear hw2 w2)
    | (go_at_call 32; (with_reducible refine (HS1.out _ _ HT0.out).mono ?_); rintro e w3 ⟨v3, rfl, ht3, hm3⟩)
    | (go_at_call 32; (with_reducible refine (HS2.out _ _ ht3).mono ?_); rintro e w4 ⟨v4, rfl, ht4, hm4⟩)
    | (go_at_call 32; (with_reducible refine (HS3.out _ _ ht4).mono ?_); rintro e w5 ⟨v5, rfl, ht5, hm5⟩)
    | (go_at_call 33; (with_reducible refine (HD.out _ _ ht5).mono ?_); rintro e w6 ⟨v6, vk, rfl, hk6, ht6, hm6, _⟩; obtain ⟨b, off, c, rfl, q0, q1⟩ := HK.out _ _ hk6)
    | (go_at_call 34; (with_reducible refine (HL.out _ _ ht6).mono ?_); rintro e w7 ⟨rfl, rfl⟩))
  go_ret
  exact ⟨rfl, HF.out _ _ (((hm3.trans hm4).trans hm5).trans hm6)⟩
end Go.Proofs.Ytkebgcalphajhaa.Str
