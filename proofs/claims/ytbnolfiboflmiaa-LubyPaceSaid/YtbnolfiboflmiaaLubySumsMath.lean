/- Plain mathematics: the sums of Luby's row. -/
import Derived.Test.YtbnolfiboflmiaaLubyMath
namespace Go.Proofs.Ytbnolfiboflmiaa.Luby

def psum : Nat → Nat
  | 0 => 0
  | k + 1 => psum k + row (k + 1)
def pones : Nat → Nat
  | 0 => 0
  | k + 1 => pones k + if row (k + 1) = 1 then 1 else 0

theorem row_le : ∀ n, row n ≤ n := by
  intro n
  induction n using Nat.strongRecOn with
  | _ n ih =>
    by_cases h : n < 1
    · rw [row, dif_pos h]; omega
    · by_cases e : n = 2 ^ n.log2 - 1 + 2 ^ n.log2
      · rw [row_hit (by omega) e]; generalize 2 ^ n.log2 = p at *; omega
      · have h1 : 2 ^ n.log2 ≤ n := Nat.log2_self_le (by omega)
        have h2 : n < 2 ^ (n.log2 + 1) := Nat.lt_log2_self
        rw [Nat.pow_succ] at h2
        rw [row_step (by omega) e]
        have := ih (n - (2 ^ n.log2 - 1)) (by generalize 2 ^ n.log2 = p at *; omega)
        generalize 2 ^ n.log2 = p at *; omega

theorem psum_le : ∀ k, psum k ≤ k * k
  | 0 => Nat.le_refl _
  | k + 1 => by
    have a := psum_le k
    have b := row_le (k + 1)
    have c : (k + 1) * (k + 1) = k * k + 2 * k + 1 := by simp [Nat.add_mul, Nat.mul_add]; omega
    simp only [psum]; omega

theorem pones_le : ∀ k, pones k ≤ k
  | 0 => Nat.le_refl _
  | k + 1 => by
    have a := pones_le k
    simp only [pones]; split <;> omega

theorem row_shift {k j : Nat} (h1 : 1 ≤ j) (h2 : j ≤ 2 ^ k - 1) : row (2 ^ k - 1 + j) = row j := by
  have hp := Nat.two_pow_pos k
  have l : (2 ^ k - 1 + j).log2 = k := log2_of (by omega) (by rw [Nat.pow_succ]; omega)
  rw [row_step (by omega) (by rw [l]; omega), l]
  congr 1
  omega
theorem row_top (k : Nat) : row (2 ^ k - 1 + 2 ^ k) = 2 ^ k := by
  have hp := Nat.two_pow_pos k
  have l : (2 ^ k - 1 + 2 ^ k).log2 = k := log2_of (by omega) (by rw [Nat.pow_succ]; omega)
  rw [row_hit (by omega) (by rw [l]), l]

theorem psum_shift (k : Nat) : ∀ j, j ≤ 2 ^ k - 1 → psum (2 ^ k - 1 + j) = psum (2 ^ k - 1) + psum j
  | 0, _ => by simp [psum]
  | j + 1, h => by
    rw [← Nat.add_assoc]; simp only [psum]
    rw [psum_shift k j (by omega), Nat.add_assoc (2 ^ k - 1) j 1, row_shift (by omega) h]; omega
theorem pones_shift (k : Nat) : ∀ j, j ≤ 2 ^ k - 1 → pones (2 ^ k - 1 + j) = pones (2 ^ k - 1) + pones j
  | 0, _ => by simp [pones]
  | j + 1, h => by
    rw [← Nat.add_assoc]; simp only [pones]
    rw [pones_shift k j (by omega), Nat.add_assoc (2 ^ k - 1) j 1, row_shift (by omega) h]; omega

theorem psum_succ (k : Nat) : psum (2 ^ (k + 1) - 1) = 2 * psum (2 ^ k - 1) + 2 ^ k := by
  have hp := Nat.two_pow_pos k
  have e : 2 ^ (k + 1) - 1 = (2 ^ k - 1 + (2 ^ k - 1)) + 1 := by rw [Nat.pow_succ]; omega
  rw [e]; simp only [psum]
  rw [psum_shift k _ (Nat.le_refl _), show 2 ^ k - 1 + (2 ^ k - 1) + 1 = 2 ^ k - 1 + 2 ^ k by omega, row_top]; omega
theorem pones_succ (k : Nat) (h : 1 ≤ k) : pones (2 ^ (k + 1) - 1) = 2 * pones (2 ^ k - 1) := by
  have hp : 2 ^ 1 ≤ 2 ^ k := Nat.pow_le_pow_right (by omega) h
  have e : 2 ^ (k + 1) - 1 = (2 ^ k - 1 + (2 ^ k - 1)) + 1 := by rw [Nat.pow_succ]; omega
  rw [e]; simp only [pones]
  rw [pones_shift k _ (Nat.le_refl _), show 2 ^ k - 1 + (2 ^ k - 1) + 1 = 2 ^ k - 1 + 2 ^ k by omega, row_top, if_neg (by omega)]; omega

theorem psum_all : ∀ k, psum (2 ^ (k + 1) - 1) = (k + 1) * 2 ^ k
  | 0 => by rw [psum_succ]; simp [psum]
  | k + 1 => by rw [psum_succ (k + 1), psum_all k, Nat.pow_succ, Nat.add_mul (k + 1) 1, Nat.one_mul, ← Nat.mul_assoc, Nat.mul_comm 2, Nat.mul_assoc, Nat.mul_comm 2]
theorem pones_all : ∀ k, pones (2 ^ (k + 1) - 1) = 2 ^ k
  | 0 => by simp [pones, row1]
  | k + 1 => by rw [pones_succ (k + 1) (by omega), pones_all k, Nat.pow_succ]; omega

end Go.Proofs.Ytbnolfiboflmiaa.Luby
