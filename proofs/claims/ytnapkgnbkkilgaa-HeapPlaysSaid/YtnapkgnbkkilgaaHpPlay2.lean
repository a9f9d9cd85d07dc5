/- HeapPlays: a heap for any number; the walk. -/
import Derived.Test.YtnapkgnbkkilgaaHpPlay
namespace Go.Proofs.Ytnapkgnbkkilgaa.Hp
open Go.RowKit Go.ChangeShapes Go.WideShapes Go.Deep Go.Joins

set_option maxRecDepth 100000 in
set_option maxHeartbeats 1600000 in
theorem new_neg (w : World) (x : Int) (hx : x < 0) (hy : -9223372036854775808 ≤ x) :
    Calls Try.prog 8 #[.int .i64 x] w fun e w' => ∃ B S P v, e = .returned (.pointer (some ⟨B, 0, none⟩)) ∧
      Hp w' w.heap.size B S P v (List.replicate 1 0) [] (List.replicate 1 0) ∧ Below w.heap.size w w' := by
  have m1 := make_ints (0 + 1) (by omega) 1 (by simp)
  have m2 := make_u64s (0 + 1) (by omega) 1 (by simp)
  have e1 : max x 0 = 0 := by omega
  have e2 : decide (x < 0) = true := by simp; exact hx
  go_enter Try.func8, Try.ntmps8
  go_wp2
  go_region
  all_goals clear m1 m2
  · have hb0 : Below w.heap.size w (((w.alloc (.cells (us (0 + 1)) 28)).alloc (.cells (zs (0 + 1)) 3)).alloc (.cells #[.slice (some ⟨w.heap.size, 0, none⟩) (0 + 1) (0 + 1), .slice none 0 0, .slice (some ⟨w.heap.size + 1, 0, none⟩) (0 + 1) (0 + 1)] 44)).drew :=
      below_draws ((((Below.refl _ _).alloc (Nat.le_refl _) _).alloc (by simp) _).alloc (by simp; omega) _) 1
    have H0 := Lib.hid (hp_made1 w 0 (by omega)).drew
    have HB0 := Lib.hid hb0
    clear hb0
    go_wp2
    go_loopw [4] (fun t wr => t = .int .i64 1 ∧ Hp wr w.heap.size (w.heap.size + 1 + 1) (w.heap.size) (w.heap.size + 1) (.slice none 0 0) (List.replicate (0 + 1) 0) [] (List.replicate (0 + 1) 0) ∧ Below w.heap.size w wr) (fun t _ => 0)
    case atStart => exact ⟨rfl, H0.out, HB0.out⟩
    case round =>
      obtain ⟨rfl, hh, hb⟩ := hrel
      go_wp2
      go_ret
      exact ⟨_, _, _, _, rfl, hh, hb⟩
  · have hb0 : Below w.heap.size w (((w.alloc (.cells (zs (0 + 1)) 3)).alloc (.cells (us (0 + 1)) 28)).alloc (.cells #[.slice (some ⟨w.heap.size + 1, 0, none⟩) (0 + 1) (0 + 1), .slice none 0 0, .slice (some ⟨w.heap.size, 0, none⟩) (0 + 1) (0 + 1)] 44)).drew :=
      below_draws ((((Below.refl _ _).alloc (Nat.le_refl _) _).alloc (by simp) _).alloc (by simp; omega) _) 1
    have H0 := Lib.hid (hp_made2 w 0 (by omega)).drew
    have HB0 := Lib.hid hb0
    clear hb0
    go_wp2
    go_loopw [4] (fun t wr => t = .int .i64 1 ∧ Hp wr w.heap.size (w.heap.size + 1 + 1) (w.heap.size + 1) (w.heap.size) (.slice none 0 0) (List.replicate (0 + 1) 0) [] (List.replicate (0 + 1) 0) ∧ Below w.heap.size w wr) (fun t _ => 0)
    case atStart => exact ⟨rfl, H0.out, HB0.out⟩
    case round =>
      obtain ⟨rfl, hh, hb⟩ := hrel
      go_wp2
      go_ret
      exact ⟨_, _, _, _, rfl, hh, hb⟩

theorem heap_new_any (w : World) (x : Int) (n : Nat) (hx : max 0 x = n) (hn : n ≤ 65536) (hy : -9223372036854775808 ≤ x) :
    Calls Try.prog 8 #[.int .i64 x] w fun e w' => ∃ B S P v, e = .returned (.pointer (some ⟨B, 0, none⟩)) ∧
      Heap w' w.heap.size B S P v (List.replicate (n + 1) 0) (List.range' 1 n) (List.range (n + 1)) ∧ Below w.heap.size w w' := by
  by_cases h : x < 0
  · obtain rfl : n = 0 := by omega
    exact (new_neg w x h hy).mono fun e w' ⟨B, S, P, v, h1, h2, h3⟩ => ⟨B, S, P, v, h1, ⟨h2, new_inv 0⟩, h3⟩
  · exact heap_new w x n (by omega) hn

end Go.Proofs.Ytnapkgnbkkilgaa.Hp
