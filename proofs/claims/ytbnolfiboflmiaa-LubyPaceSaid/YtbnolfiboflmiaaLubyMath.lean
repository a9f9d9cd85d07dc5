/- Plain mathematics of Luby's row: no Go in sight. -/
import Derived.Lib.BitFns
import Derived.Lib.ItoaNum
namespace Go.Proofs.Ytbnolfiboflmiaa.Luby

def row (n : Nat) : Nat :=
  if h : n < 1 then 0
  else if n = 2 ^ n.log2 - 1 + 2 ^ n.log2 then 2 ^ n.log2
  else row (n - (2 ^ n.log2 - 1))
termination_by n
decreasing_by
  have h1 : 2 ^ n.log2 ≤ n := Nat.log2_self_le (by omega)
  have h2 : n < 2 ^ (n.log2 + 1) := Nat.lt_log2_self
  rw [Nat.pow_succ] at h2
  have h3 : 0 < 2 ^ n.log2 := Nat.two_pow_pos _
  generalize 2 ^ n.log2 = p at *
  omega

theorem row_hit {n : Nat} (h : 1 ≤ n) (e : n = 2 ^ n.log2 - 1 + 2 ^ n.log2) : row n = 2 ^ n.log2 := by
  rw [row]; rw [dif_neg (by omega), if_pos e]

theorem row_step {n : Nat} (h : 1 ≤ n) (e : n ≠ 2 ^ n.log2 - 1 + 2 ^ n.log2) : row n = row (n - (2 ^ n.log2 - 1)) := by
  conv => lhs; rw [row]
  rw [dif_neg (by omega), if_neg e]

/-- What the round of the program's loop needs of half = 2^(bitLen n - 1). -/
theorem half_facts {n : Nat} (h : 1 ≤ n) (hi : n < 9223372036854775808) :
    ∃ k, Lib.bitLen n = k + 1 ∧ k ≤ 62 ∧ n.log2 = k ∧ 2 ^ k ≤ n ∧ n < 2 * 2 ^ k := by
  obtain ⟨a, b, c⟩ := Lib.bitLenAux_bounds 64 n (by omega) (by omega)
  have hl : Lib.bitLen n ≤ 63 := Lib.bitLen_le n 63 (by omega) (by omega)
  change 1 ≤ Lib.bitLen n at a
  change 2 ^ (Lib.bitLen n - 1) ≤ n at b
  change n < 2 ^ Lib.bitLen n at c
  refine ⟨Lib.bitLen n - 1, by omega, by omega, ?_, b, ?_⟩
  · rw [Nat.log2_eq_iff (by omega)]
    refine ⟨b, ?_⟩
    rw [show Lib.bitLen n - 1 + 1 = Lib.bitLen n by omega]; exact c
  · have : Lib.bitLen n = (Lib.bitLen n - 1) + 1 := by omega
    rw [this, Nat.pow_succ] at c
    omega

theorem hit_of {m k : Nat} (h : 1 ≤ m) (hk : m.log2 = k) (e : ((m : Int) == 2 ^ k - 1 + 2 ^ k) = true) : (2 : Int) ^ k = (row m : Int) := by
  have hp : ((2 ^ k : Nat) : Int) = (2 : Int) ^ k := by norm_cast
  have h0 := Nat.two_pow_pos k
  rw [← hp] at e ⊢
  have e := beq_iff_eq.1 e
  rw [row_hit h (by rw [hk]; omega), hk]

theorem step_of {m k : Nat} (h : 1 ≤ m) (hk : m.log2 = k) (q2 : (2 : Int) ^ k ≤ m) (q3 : (m : Int) < 2 * 2 ^ k) (e : ((m : Int) == 2 ^ k - 1 + 2 ^ k) = false) :
    ∃ m' : Nat, 1 ≤ m' ∧ m' < m ∧ row m' = row m ∧ (m : Int) - (2 ^ k - 1) = (m' : Int) := by
  have hp : ((2 ^ k : Nat) : Int) = (2 : Int) ^ k := by norm_cast
  have h0 := Nat.two_pow_pos k
  rw [← hp] at e q2 q3 ⊢
  have e := beq_eq_false_iff_ne.1 e
  have hr := row_step h (by rw [hk]; intro c; apply e; omega)
  rw [hk] at hr
  refine ⟨m - (2 ^ k - 1), by omega, by omega, hr.symm, by omega⟩

/-- What Row answers. -/
def rowZ (n : Int) : Int := if n < 1 then 0 else (row n.toNat : Int)

theorem log2_of {n k : Nat} (h : 2 ^ k ≤ n) (h2 : n < 2 ^ (k + 1)) : n.log2 = k := by
  have := Nat.two_pow_pos k
  rw [Nat.log2_eq_iff (by omega)]; exact ⟨h, h2⟩
theorem row0 : row 0 = 0 := by rw [row, dif_pos (by omega)]
theorem two_pow_ge (k : Nat) : (1 : Int) ≤ 2 ^ k := by
  have : ((2 ^ k : Nat) : Int) = (2 : Int) ^ k := by norm_cast
  rw [← this]; have := Nat.two_pow_pos k; omega
theorem row1 : row 1 = 1 := by
  have l : (1 : Nat).log2 = 0 := log2_of (by omega) (by omega)
  rw [row_hit (by omega) (by rw [l]), l]
theorem row2 : row 2 = 1 := by
  have l : (2 : Nat).log2 = 1 := log2_of (by omega) (by omega)
  rw [row_step (by omega) (by rw [l]; omega), l]; exact row1
theorem row3 : row 3 = 2 := by
  have l : (3 : Nat).log2 = 1 := log2_of (by omega) (by omega)
  rw [row_hit (by omega) (by rw [l]), l]
theorem row4 : row 4 = 1 := by
  have l : (4 : Nat).log2 = 2 := log2_of (by omega) (by omega)
  rw [row_step (by omega) (by rw [l]; omega), l]; exact row1
theorem row5 : row 5 = 1 := by
  have l : (5 : Nat).log2 = 2 := log2_of (by omega) (by omega)
  rw [row_step (by omega) (by rw [l]; omega), l]; exact row2
theorem row6 : row 6 = 2 := by
  have l : (6 : Nat).log2 = 2 := log2_of (by omega) (by omega)
  rw [row_step (by omega) (by rw [l]; omega), l]; exact row3
theorem row7 : row 7 = 4 := by
  have l : (7 : Nat).log2 = 2 := log2_of (by omega) (by omega)
  rw [row_hit (by omega) (by rw [l]), l]
theorem rowZ0 : rowZ 0 = 0 := rfl
theorem rowZ_nat {n : Nat} (h : 1 ≤ n) : rowZ n = row n := by
  unfold rowZ; rw [if_neg (by omega), Int.toNat_natCast]
theorem rowZ1 : rowZ 1 = 1 := (rowZ_nat (n := 1) (by omega)).trans (by rw [row1]; rfl)
theorem rowZ2 : rowZ 2 = 1 := (rowZ_nat (n := 2) (by omega)).trans (by rw [row2]; rfl)
theorem rowZ3 : rowZ 3 = 2 := (rowZ_nat (n := 3) (by omega)).trans (by rw [row3]; rfl)
theorem rowZ4 : rowZ 4 = 1 := (rowZ_nat (n := 4) (by omega)).trans (by rw [row4]; rfl)
theorem rowZ5 : rowZ 5 = 1 := (rowZ_nat (n := 5) (by omega)).trans (by rw [row5]; rfl)
theorem rowZ6 : rowZ 6 = 2 := (rowZ_nat (n := 6) (by omega)).trans (by rw [row6]; rfl)
theorem rowZ7 : rowZ 7 = 4 := (rowZ_nat (n := 7) (by omega)).trans (by rw [row7]; rfl)

end Go.Proofs.Ytbnolfiboflmiaa.Luby
