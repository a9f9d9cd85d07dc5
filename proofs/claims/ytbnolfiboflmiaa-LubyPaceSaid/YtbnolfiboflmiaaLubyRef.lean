/- The walk of the document's row (ref.Row), and of LubyRow. -/
import Derived.Test.YtbnolfiboflmiaaLubyWalks
import Derived.Test.YtbnolfiboflmiaaLubySumsMath
import Derived.Test.YtbnolfiboflmiaaKit
namespace Go.Proofs.Ytbnolfiboflmiaa.Luby
open Go.RowKit

theorem info_int : (Try.prog.info? 3).map (fun i => (i.zero, i.size, i.bytes)) = some (some (.int .i64 0), 1, 8) := by kernel_rfl

/-- The first rows, from 0 to k. -/
def rows (k : Nat) : List Value := (List.range (k + 1)).map fun i => .int .i64 (row i)
theorem rows_length (k : Nat) : (rows k).length = k + 1 := by simp [rows]
theorem rows_get (k i : Nat) (h : i ≤ k) : (rows k)[i]? = some (.int .i64 (row i)) := by
  simp [rows, List.getElem?_range (show i < k + 1 by omega)]
theorem rows_succ (k : Nat) : rows (k + 1) = rows k ++ [.int .i64 (row (k + 1))] := by
  simp [rows, List.range_succ]

set_option maxHeartbeats 400000 in
theorem refRow_any (most : Nat) (w : World) (hm : most ≤ 5000) :
    Calls Try.prog 7 #[.int .i64 most] w fun e w' => ∃ v, e = .returned v ∧ w'.ownsRow w.heap.size 3 1 v (most + 1) (rows most) ∧ Below w.heap.size w w' := by
  obtain ⟨i0, hi, hz0, hz1, hz2⟩ := info_parts info_int
  go_enter Try.func7, Try.ntmps7
  go_wp2_with fail
  go_loopw [3, 4] (fun v i wr => ∃ k : Nat, k ≤ most ∧ i = .int .i64 (k + 1) ∧ wr.ownsRow w.heap.size 3 1 v (k + 1) (rows k) ∧ Below w.heap.size w wr) (fun _ i _ => 6000 - (intOf i).toNat)
  case atStart =>
    refine ⟨0, by omega, rfl, ?_, by go_grown⟩
    exact ownsRow_cast (World.ownsRow_lit w #[.int .i64 0] 1 (Nat.le_refl _) (by unfold maxLen; omega) rfl) rfl (by simp [rows, List.range_succ, row0])
  case round =>
    obtain ⟨k, hk, rfl, hown, hbel⟩ := hrel
    obtain ⟨g, cap, rfl⟩ := ownsRow_succ hown
    have hsz := hbel.size
    by_cases hlt : (k : Int) + 1 ≤ most
    · go_wp2_with fail
      go_loop [5] (fun x => ∃ j : Nat, (2 : Int) ^ j ≤ (k : Int) + 1 ∧ x = .int .i64 (2 ^ j)) (fun x => 6000 - (intOf x).toNat)
      case atStart => exact ⟨0, by simp; omega, rfl⟩
      case round =>
        obtain ⟨j, hj, rfl⟩ := hrel
        have hj0 : (1 : Int) ≤ 2 ^ j := two_pow_ge j
        by_cases hin : 2 * (2 : Int) ^ j ≤ (k : Int) + 1
        · go_wp2
          go_round
          case rel => exact ⟨j + 1, by rw [Int.pow_succ]; omega, by rw [Int.pow_succ, Int.mul_comm]⟩
          case measure => simp [intOf]; omega
        · have hlog : (k + 1).log2 = j := by
            have hp : ((2 ^ j : Nat) : Int) = (2 : Int) ^ j := by norm_cast
            exact log2_of (by omega) (by rw [Nat.pow_succ]; omega)
          have Hlog := Lib.hid hlog
          clear hlog
          by_cases he : (k : Int) + 1 = 2 * 2 ^ j - 1
          · have hr : (2 : Int) ^ j = (row (k + 1) : Int) := hit_of (m := k + 1) (by omega) Hlog.out (by rw [beq_iff_eq]; omega)
            have Hr := Lib.hid hr
            clear hr
            go_wp2_with (at_builtin; refine wpList_append_own _ rfl _ _ 23 rfl w.heap.size 3 i0 (.int .i64 0) 1 8 Try.underlying23 hi hz0 hz1 hz2 rfl (by decide) _ _ _ rfl (hown.alloc _) ⟨wr.heap.size, 0, none⟩ 1 1 [.int .i64 (2 ^ j)] rfl rfl one_news one_int (by unfold maxLen; omega) (by omega) (by simp; omega) ?_)
            intro v' w1 hown' hgrow _
            have hb1 := below_append hbel (Nat.le_refl _) hown hgrow
            have hown2 := ownsRow_cast hown' rfl (show rows k ++ [.int .i64 (2 ^ j)] = rows (k + 1) by rw [rows_succ, Hr.out])
            clear hown' hgrow hown hbel
            go_wp2
            go_roundw
            case rel => exact ⟨k + 1, by omega, by go_num, hown2, hb1⟩
            case measure => simp [intOf]; omega
          · obtain ⟨m', a1, a2, a3, a4⟩ := step_of (m := k + 1) (k := j) (by omega) Hlog.out (by omega) (by omega) (by rw [beq_eq_false_iff_ne]; omega)
            have ei : (k : Int) + 1 - 2 ^ j + 1 = (m' : Int) := by omega
            have hc : wr.cell? ⟨g, m', none⟩ = some (.int .i64 (row m')) := by
              rw [hown.cellAt m' (by omega), rows_get k m' (by omega)]
            have A3 := Lib.hid a3
            have A4 := Lib.hid a4
            clear a3 a4
            go_wp2_with (at_builtin; refine wpList_append_own _ rfl _ _ 23 rfl w.heap.size 3 i0 (.int .i64 0) 1 8 Try.underlying23 hi hz0 hz1 hz2 rfl (by decide) _ _ _ rfl (hown.alloc _) ⟨wr.heap.size, 0, none⟩ 1 1 [.int .i64 (row m')] rfl rfl one_news one_int (by unfold maxLen; omega) (by omega) (by simp; omega) ?_)
            intro v' w1 hown' hgrow _
            have hb1 := below_append hbel (Nat.le_refl _) hown hgrow
            have hown2 := ownsRow_cast hown' rfl (show rows k ++ [.int .i64 (row m')] = rows (k + 1) by rw [rows_succ, A3.out])
            clear hown' hgrow hown hbel
            go_wp2
            go_roundw
            case rel => exact ⟨k + 1, by omega, by go_num, hown2, hb1⟩
            case measure => simp [intOf]; omega
    · go_wp2
      go_ret
      obtain rfl : k = most := by omega
      exact ⟨_, rfl, hown, hbel⟩

theorem rowZ_any (n : Nat) : rowZ n = row n := by
  by_cases h0 : n = 0
  · subst h0; rw [row0]; rfl
  · exact rowZ_nat (by omega)

theorem and_pow : ∀ j : Fin 63, bits BinOp.and IntKind.i64 (2 ^ j.val) (2 ^ j.val - 1) = 0 := by decide +kernel

theorem row_pow : ∀ n, 1 ≤ n → ∃ j, row n = 2 ^ j ∧ 2 * 2 ^ j ≤ n + 1 := by
  intro n
  induction n using Nat.strongRecOn with
  | _ n ih =>
    intro h
    by_cases e : n = 2 ^ n.log2 - 1 + 2 ^ n.log2
    · exact ⟨n.log2, row_hit h e, by generalize 2 ^ n.log2 = p at *; omega⟩
    · have h1 : 2 ^ n.log2 ≤ n := Nat.log2_self_le (by omega)
      have h2 : n < 2 ^ (n.log2 + 1) := Nat.lt_log2_self
      rw [Nat.pow_succ] at h2
      have h3 := Nat.two_pow_pos n.log2
      obtain ⟨j, a, b⟩ := ih (n - (2 ^ n.log2 - 1)) (by generalize 2 ^ n.log2 = p at *; omega) (by generalize 2 ^ n.log2 = p at *; omega)
      exact ⟨j, by rw [row_step h e, a], by generalize 2 ^ n.log2 = p at *; omega⟩

set_option maxHeartbeats 400000 in
theorem lubyRow_any (a : Int) (wa : (Lit.int .u16 a).wf = true) (b : Int) (wb : (Lit.int .i64 b).wf = true) (w : World) :
    Calls Try.prog 3 #[.int .u16 a, .int .i64 b] w fun e w' => e = .returned (.bool true) ∧ Below w.heap.size w w' := by
  obtain ⟨b1, b2⟩ := bounds_u16 wa
  obtain ⟨c1, c2⟩ := bounds_i64 wb
  clear wa wb
  go_enter Try.func3, Try.ntmps3
  go_wp2_with fail
  obtain ⟨N, hN⟩ : ∃ N : Nat, a % 3001 = (N : Int) := ⟨(a % 3001).toNat, by omega⟩
  have n2 : (N : Int) ≤ 3000 := by omega
  rw [hN]
  clear hN
  refine (refRow_any N _ (by omega)).mono ?_
  rintro e w1 ⟨v, rfl, hown, hbel⟩
  obtain ⟨g, cap, rfl⟩ := ownsRow_succ hown
  have hc : w1.cell? ⟨g, N, none⟩ = some (.int .i64 (row N)) := by
    rw [hown.cellAt N (by omega), rows_get N N (by omega)]
  go_wp2_with fail
  by_cases hb : b < 1
  · have hv := row_at b 0 (h := by omega) (hv := by unfold rowZ; rw [if_pos hb])
    have Hv := Lib.hid hv
    have hr := row_at N (row N) (h := by omega) (hv := rowZ_any N)
    have Hr := Lib.hid hr
    clear hv hr
    go_quiet ((go_at_call 8; exact quiet_eq (Hr.out _)))
    go_wp2_with fail
    refine (Hv.out _).mono ?_
    rintro e w' ⟨rfl, rfl⟩
    go_wp2_with fail
    refine (fixed_any _).mono ?_
    rintro e w' ⟨rfl, hb1⟩
    go_wp2
    go_ret
    exact ⟨rfl, (below_draws hbel _).trans (hb1.mono hbel.size)⟩
  · obtain ⟨j, j1, j2⟩ := row_pow b.toNat (by omega)
    have hp : ((2 ^ j : Nat) : Int) = (2 : Int) ^ j := by norm_cast
    have hv := row_at b (2 ^ j) (h := by omega) (hv := by unfold rowZ; rw [if_neg hb, j1, hp])
    have Hv := Lib.hid hv
    have hr := row_at N (row N) (h := by omega) (hv := rowZ_any N)
    have Hr := Lib.hid hr
    clear hv hr
    have q1 := two_pow_ge j
    have q2 : 2 * (2 : Int) ^ j ≤ b + 1 := by rw [← hp]; omega
    have hj : j < 63 := Decidable.by_contra fun hc => by
      have : 2 ^ 63 ≤ 2 ^ j := Nat.pow_le_pow_right (by omega) (by omega)
      omega
    have ha := and_pow ⟨j, hj⟩
    simp only [] at ha
    have q3 : (2 : Int) ^ j ≤ b / 2 + 1 := by omega
    have q4 : (1 : Int) ≤ b := by omega
    clear hp j1 j2
    go_quiet ((go_at_call 8; exact quiet_eq (Hr.out _)))
    go_wp2_with fail
    refine (Hv.out _).mono ?_
    rintro e w' ⟨rfl, rfl⟩
    go_wp2_with fail
    refine (fixed_any _).mono ?_
    rintro e w' ⟨rfl, hb1⟩
    go_wp2
    go_ret
    exact ⟨by simp, (below_draws hbel _).trans (hb1.mono hbel.size)⟩

end Go.Proofs.Ytbnolfiboflmiaa.Luby
