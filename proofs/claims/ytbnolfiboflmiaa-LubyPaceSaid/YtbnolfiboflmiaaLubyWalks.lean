/- The walks of luby.Row and of the chapter's example. -/
import Derived.Test.YtbnolfiboflmiaaRows
import Derived.Test.YtbnolfiboflmiaaShelf
import Derived.Test.YtbnolfiboflmiaaLubyMath
import Derived.WalkKit
import Derived.WalkSpells
import Derived.WalkLawsBesides
import Derived.Handy
import Derived.Lib.Hide
namespace Go.Proofs.Ytbnolfiboflmiaa.Luby
open Go.RowKit

set_option maxHeartbeats 400000 in
theorem row_low (n : Int) (w : World) (h : n < 1) :
    Calls Try.prog 8 #[.int .i64 n] w fun e w' => e = .returned (.int .i64 0) ∧ w = w' := by
  go_enter Try.func8, Try.ntmps8
  go_wp2
  go_ret
  exact ⟨rfl, rfl⟩

theorem len_any (m k : Nat) (w : World) (hi : m < 9223372036854775808) (hk : Lib.bitLen m = k + 1) :
    Calls Try.prog 13 #[.int .u64 m] w fun e w' => e = .returned (.int .i64 ((k : Int) + 1)) ∧ w = w' := by
  refine (Try.bits_Len (m : Int) w (by omega) (by omega)).mono ?_
  rintro e w' ⟨rfl, rfl⟩
  refine ⟨?_, rfl⟩
  rw [Int.toNat_natCast, hk]; rfl

set_option maxHeartbeats 400000 in
theorem row_high (n : Nat) (w : World) (h : 1 ≤ n) (hi : n < 9223372036854775808) :
    Calls Try.prog 8 #[.int .i64 n] w fun e w' => e = .returned (.int .i64 (row n)) ∧ w = w' := by
  have h1 : ¬ (n : Int) < 1 := by omega
  go_enter Try.func8, Try.ntmps8
  go_wp2
  go_loop [0] (fun x => ∃ m : Nat, 1 ≤ m ∧ m < 9223372036854775808 ∧ row m = row n ∧ x = .int .i64 m) (fun x => (intOf x).toNat)
  case atStart => exact ⟨n, h, hi, rfl, rfl⟩
  case round =>
    obtain ⟨m, hm1, hm2, hm3, rfl⟩ := hrel
    obtain ⟨k, hk1, hk2, hk3, hk4, hk5⟩ := half_facts hm1 hm2
    have hp : ((2 ^ k : Nat) : Int) = (2 : Int) ^ k := by norm_cast
    have q1 : (1 : Int) ≤ 2 ^ k := by rw [← hp]; have := Nat.two_pow_pos k; omega
    have q2 : (2 : Int) ^ k ≤ m := by rw [← hp]; omega
    have q3 : (m : Int) < 2 * 2 ^ k := by rw [← hp]; omega
    have q4 : (2 : Int) ^ k ≤ 4611686018427387904 := by rw [← hp]; have : 2 ^ k ≤ 2 ^ 62 := Nat.pow_le_pow_right (by omega) hk2; omega
    have Hp := Lib.hid hp
    clear hp hk4 hk5
    have Hk := Lib.hid hk3
    have Hm := Lib.hid hm3
    have Hl := Lib.hid hk1
    clear hk3 hm3 hk1
    go_wp2_with fail
    refine (len_any m k _ hm2 Hl.out).mono ?_
    rintro e w' ⟨rfl, rfl⟩
    go_wp2_with fail
    · have he : ((m : Int) == 2 ^ k - 1 + 2 ^ k) = true := by assumption
      go_ret
      refine ⟨?_, rfl⟩
      rw [hit_of hm1 Hk.out he, Hm.out]
      rfl
    · have he : ((m : Int) == 2 ^ k - 1 + 2 ^ k) = false := by assumption
      obtain ⟨m', a1, a2, a3, a4⟩ := step_of hm1 Hk.out q2 q3 he
      rw [a4]
      exact ⟨⟨m', a1, by omega, by rw [a3, Hm.out], rfl⟩, by simp [intOf]; omega⟩

theorem row_any (n : Int) (w : World) (h : n < 9223372036854775808) :
    Calls Try.prog 8 #[.int .i64 n] w fun e w' => e = .returned (.int .i64 (rowZ n)) ∧ w = w' := by
  by_cases h1 : n < 1
  · unfold rowZ; rw [if_pos h1]; exact row_low n w h1
  · obtain ⟨k, rfl⟩ := Int.eq_ofNat_of_zero_le (show 0 ≤ n by omega)
    unfold rowZ; rw [if_neg h1]
    exact row_high k w (by omega) (by omega)

theorem row_at (n v : Int) (w : World) (h : n < 9223372036854775808) (hv : rowZ n = v) :
    Calls Try.prog 8 #[.int .i64 n] w fun e w' => e = .returned (.int .i64 v) ∧ w = w' := by
  subst hv; exact row_any n w h

set_option maxHeartbeats 400000 in
theorem fixed_any (w : World) :
    Calls Try.prog 9 #[] w fun e w' => e = .returned (.bool true) ∧ Below w.heap.size w w' := by
  go_enter Try.func9, Try.ntmps9
  go_wp2_with fail
  go_loop [5] (fun i => ∃ k : Nat, k ≤ 7 ∧ i = .int .i64 k) (fun i => 7 - (intOf i).toNat)
  case atStart => exact ⟨0, by omega, rfl⟩
  case round =>
    obtain ⟨k, hk, rfl⟩ := hrel
    have hk' : k = 0 ∨ k = 1 ∨ k = 2 ∨ k = 3 ∨ k = 4 ∨ k = 5 ∨ k = 6 ∨ k = 7 := by omega
    clear hk
    rcases hk' with rfl | rfl | rfl | rfl | rfl | rfl | rfl | rfl
    · go_wp2_with fail
      refine (row_at 1 1 _ (by omega) rowZ1).mono ?_
      rintro e w' ⟨rfl, rfl⟩
      go_wp2
      go_round
      case rel => exact ⟨1, by omega, rfl⟩
      case measure => simp [intOf]
    · go_wp2_with fail
      refine (row_at 2 1 _ (by omega) rowZ2).mono ?_
      rintro e w' ⟨rfl, rfl⟩
      go_wp2
      go_round
      case rel => exact ⟨2, by omega, rfl⟩
      case measure => simp [intOf]
    · go_wp2_with fail
      refine (row_at 3 2 _ (by omega) rowZ3).mono ?_
      rintro e w' ⟨rfl, rfl⟩
      go_wp2
      go_round
      case rel => exact ⟨3, by omega, rfl⟩
      case measure => simp [intOf]
    · go_wp2_with fail
      refine (row_at 4 1 _ (by omega) rowZ4).mono ?_
      rintro e w' ⟨rfl, rfl⟩
      go_wp2
      go_round
      case rel => exact ⟨4, by omega, rfl⟩
      case measure => simp [intOf]
    · go_wp2_with fail
      refine (row_at 5 1 _ (by omega) rowZ5).mono ?_
      rintro e w' ⟨rfl, rfl⟩
      go_wp2
      go_round
      case rel => exact ⟨5, by omega, rfl⟩
      case measure => simp [intOf]
    · go_wp2_with fail
      refine (row_at 6 2 _ (by omega) rowZ6).mono ?_
      rintro e w' ⟨rfl, rfl⟩
      go_wp2
      go_round
      case rel => exact ⟨6, by omega, rfl⟩
      case measure => simp [intOf]
    · go_wp2_with fail
      refine (row_at 7 4 _ (by omega) rowZ7).mono ?_
      rintro e w' ⟨rfl, rfl⟩
      go_wp2
      go_round
      case rel => exact ⟨7, by omega, rfl⟩
      case measure => simp [intOf]
    · go_wp2_with fail
      refine (row_at 0 0 _ (by omega) rowZ0).mono ?_
      rintro e w' ⟨rfl, rfl⟩
      go_wp2
      go_ret
      exact ⟨rfl, by go_grown⟩

set_option maxHeartbeats 400000 in
theorem conflict_nil (n : Int) (w : World) :
    Calls Try.prog 11 #[.pointer none, .int .i64 n] w fun e w' => e = .returned (.tuple #[.bool false, .bool false]) ∧ w = w' := by
  go_enter Try.func11, Try.ntmps11
  go_wp2
  go_ret2
  exact ⟨rfl, rfl⟩

set_option maxHeartbeats 400000 in
theorem restarts_nil (w : World) :
    Calls Try.prog 12 #[.pointer none] w fun e w' => e = .returned (.int .i64 0) ∧ w = w' := by
  go_enter Try.func12, Try.ntmps12
  go_wp2
  go_ret
  exact ⟨rfl, rfl⟩

set_option maxHeartbeats 400000 in
theorem lubyNil_any (n : Int) (_wn : (Lit.int .i64 n).wf = true) (w : World) :
    Calls Try.prog 5 #[.int .i64 n] w fun e w' => e = .returned (.bool true) ∧ Below w.heap.size w w' := by
  go_enter Try.func5, Try.ntmps5
  go_wp2_with fail
  refine (conflict_nil n _).mono ?_
  rintro e w' ⟨rfl, rfl⟩
  go_wp2_with fail
  refine (fixed_any _).mono ?_
  rintro e w' ⟨rfl, hb⟩
  go_wp2_with fail
  refine (restarts_nil _).mono ?_
  rintro e w' ⟨rfl, rfl⟩
  go_wp2
  go_ret
  exact ⟨rfl, hb⟩

end Go.Proofs.Ytbnolfiboflmiaa.Luby
