/- The walk of LubySums. -/
import Derived.Test.YtbnolfiboflmiaaLubyWalks
import Derived.Test.YtbnolfiboflmiaaLubySumsMath
namespace Go.Proofs.Ytbnolfiboflmiaa.Luby
open Go.RowKit

set_option maxHeartbeats 400000 in
theorem lubySums_any (a : Int) (wa : (Lit.int .u8 a).wf = true) (w : World) :
    Calls Try.prog 6 #[.int .u8 a] w fun e w' => e = .returned (.bool true) ∧ Below w.heap.size w w' := by
  obtain ⟨b1, b2⟩ := bounds_u8 wa
  clear wa
  go_enter Try.func6, Try.ntmps6
  go_wp2_with fail
  obtain ⟨N, hN⟩ : ∃ N : Nat, 1 + a % 12 = (N : Int) + 1 := ⟨(a % 12).toNat, by omega⟩
  have n2 : (N : Int) ≤ 11 := by omega
  rw [hN]
  clear hN
  have p1 : (1 : Int) ≤ 2 ^ N := by have : ((2 ^ N : Nat) : Int) = (2 : Int) ^ N := by norm_cast
                                    rw [← this]; have := Nat.two_pow_pos N; omega
  have p2 : (2 : Int) ^ N ≤ 2048 := by have : ((2 ^ N : Nat) : Int) = (2 : Int) ^ N := by norm_cast
                                       rw [← this]; have : 2 ^ N ≤ 2 ^ 11 := Nat.pow_le_pow_right (by omega) (by omega); omega
  go_loop [4, 5, 6] (fun s o i => ∃ k : Nat, (k : Int) + 1 ≤ 2 ^ (N + 1) ∧ s = .int .i64 (psum k) ∧ o = .int .i64 (pones k) ∧ i = .int .i64 (k + 1)) (fun _ _ i => 5000 - (intOf i).toNat)
  case atStart => exact ⟨0, by rw [Int.pow_succ]; omega, rfl, rfl, rfl⟩
  case round =>
    obtain ⟨k, hk, rfl, rfl, rfl⟩ := hrel
    have k1 : (k : Int) ≤ 4095 := by rw [Int.pow_succ] at hk; omega
    have k2 := psum_le k
    have k3 := pones_le k
    have k4 : k * k ≤ 4095 * 4095 := Nat.mul_le_mul (by omega) (by omega)
    have k5 := row_le (k + 1)
    have k6 : ((psum k : Nat) : Int) ≤ 16769025 := by omega
    have k7 : ((pones k : Nat) : Int) ≤ 4095 := by omega
    have k8 : ((row (k + 1) : Nat) : Int) ≤ 4096 := by omega
    clear k2 k3 k4 k5
    have hv : rowZ ((k : Int) + 1) = (row (k + 1) : Int) := rowZ_nat (n := k + 1) (by omega)
    have Hv := Lib.hid hv
    clear hv
    have hs : psum (k + 1) = psum k + row (k + 1) := rfl
    have Hs := Lib.hid hs
    clear hs
    go_wp2_with fail
    · have hlt : (k : Int) + 1 < 2 ^ (N + 1) := by assumption
      refine (row_at _ _ _ (by omega) Hv.out).mono ?_
      rintro e w' ⟨rfl, rfl⟩
      by_cases h1 : row (k + 1) = 1
      · have g1 : ((row (k + 1) : Int) == 1) = true := by rw [h1]; rfl
        have ho : pones (k + 1) = pones k + 1 := by simp only [pones, if_pos h1]
        have Ho := Lib.hid ho
        clear ho h1
        go_wp2
        go_round
        case rel => exact ⟨k + 1, by omega, by rw [Hs.out]; go_num, by rw [Ho.out]; go_num, by go_num⟩
        case measure => simp [intOf]; omega
      · have g1 : ((row (k + 1) : Int) == 1) = false := by rw [beq_eq_false_iff_ne]; omega
        have ho : pones (k + 1) = pones k := by simp only [pones, if_neg h1]; rfl
        have Ho := Lib.hid ho
        clear ho h1
        go_wp2
        go_round
        case rel => exact ⟨k + 1, by omega, by rw [Hs.out]; go_num, by rw [Ho.out], by go_num⟩
        case measure => simp [intOf]; omega
    · have hge : (2 : Int) ^ (N + 1) ≤ (k : Int) + 1 := by assumption
      have hp : ((2 ^ (N + 1) : Nat) : Int) = (2 : Int) ^ (N + 1) := by norm_cast
      obtain rfl : k = 2 ^ (N + 1) - 1 := by have := Nat.two_pow_pos (N + 1); omega
      refine (fixed_any _).mono ?_
      rintro e w' ⟨rfl, hb⟩
      have e1 : ((psum (2 ^ (N + 1) - 1) : Int) == ((N : Int) + 1) * 2 ^ N) = true := by rw [psum_all, beq_iff_eq]; norm_cast
      have e2 : ((pones (2 ^ (N + 1) - 1) : Int) == 2 ^ N) = true := by rw [pones_all, beq_iff_eq]; norm_cast
      have ew : wrap64 (((N : Int) + 1) * 2 ^ N) = ((N : Int) + 1) * 2 ^ N := by
        have a1 : ((N : Int) + 1) * 2 ^ N ≤ 12 * 2048 := Int.mul_le_mul (by omega) (by omega) (by omega) (by omega)
        have a2 : 0 ≤ ((N : Int) + 1) * 2 ^ N := Int.mul_nonneg (by omega) (by omega)
        unfold wrap64; omega
      go_wp2
      go_ret
      exact ⟨rfl, hb⟩


end Go.Proofs.Ytbnolfiboflmiaa.Luby
