/- The walk of LubyPace. -/
import Derived.Test.YtbnolfiboflmiaaLubyPaceWalks
namespace Go.Proofs.Ytbnolfiboflmiaa.Luby
open Go.RowKit

theorem row_ge : ∀ n, 1 ≤ n → 1 ≤ row n := by
  intro n h
  obtain ⟨j, e, _⟩ := row_pow n h
  rw [e]; exact Nat.two_pow_pos j
theorem mul_ge (a b : Int) (ha : 0 ≤ a) (hb : 1 ≤ b) : a ≤ a * b := by
  have := Int.mul_le_mul_of_nonneg_left hb ha
  omega

set_option maxHeartbeats 400000 in
theorem lubyPace_long (a b : Int) (c : Option Addr) (len cap : Nat) (w : World) (h : 1000 < len) :
    Calls Try.prog 4 #[.int .i64 a, .int .i64 b, .slice c len cap] w fun e w' => e = .returned (.bool true) ∧ Below w.heap.size w w' := by
  have h' : (1000 : Int) < (len : Int) := by omega
  go_enter Try.func4, Try.ntmps4
  go_wp2_with fail
  refine (fixed_any _).mono ?_
  rintro e w' ⟨rfl, hb1⟩
  go_wp2
  go_ret
  exact ⟨rfl, hb1⟩

set_option maxHeartbeats 4000000 in
theorem lubyPace_short (a : Int) (wa : (Lit.int .i64 a).wf = true) (b : Int) (wb : (Lit.int .i64 b).wf = true) (c : Option Addr) (len cap : Nat) (zs : List Int) (w : World) (hr : IsRow .i64 w c len cap zs) (h : len ≤ 1000) :
    Calls Try.prog 4 #[.int .i64 a, .int .i64 b, .slice c len cap] w fun e w' => e = .returned (.bool true) ∧ Below w.heap.size w w' := by
  have h' : ¬ (1000 : Int) < (len : Int) := by omega
  obtain ⟨a1, a2⟩ := bounds_i64 wa
  obtain ⟨b1, b2⟩ := bounds_i64 wb
  obtain ⟨U, hU1, hU2, hU3, hU4⟩ : ∃ U, max a 1 = U ∧ max 1 a = U ∧ 1 ≤ U ∧ U ≤ 9223372036854775807 := ⟨max a 1, rfl, by omega, by omega, by omega⟩
  obtain ⟨K0, hK1, hK2, hK3, hK4⟩ : ∃ U, max b 1 = U ∧ max 1 b = U ∧ 1 ≤ U ∧ U ≤ 9223372036854775807 := ⟨max b 1, rfl, by omega, by omega, by omega⟩
  have hnew := new_any w a b
  rw [hU1, hK1] at hnew
  have Hnew := Lib.hid hnew
  have Hr := Lib.hid hr
  clear wa wb a1 a2 b1 b2 hU1 hK1 hnew hr
  go_enter Try.func4, Try.ntmps4
  go_wp2_with fail
  refine Hnew.out.mono ?_
  rintro e w1 ⟨rfl, hP, hg⟩
  have hb1 : Below w.heap.size w w1 := (Below.refl _ _).grown hg (Nat.le_refl _) (by intro k hk; cases hk)
  have hlt1 : w.heap.size < w1.heap.size := lt_of_block hP
  have HP := Lib.hid hP
  clear hP hg Hnew
  go_wp2_with fail
  refine (refRow_any 1100 _ (by omega)).mono ?_
  rintro e w2 ⟨v, rfl, hown, hb2⟩
  have hP2 : Pc w2 w.heap.size U K0 0 U := (hb2.block _ hlt1).trans HP.out
  have HP2 := Lib.hid hP2
  obtain ⟨g, cap2, rfl⟩ := ownsRow_succ hown
  have hgw : w1.heap.size ≤ g := (hown.lt g rfl).1
  have hb3 : Below w.heap.size w w2 := hb1.trans (hb2.mono hb1.size)
  clear hP2 HP hb1 hb2
  go_wp2_with fail
  go_loopw [12, 11, 10, 33] (fun vm vt vk vi wr => ∃ (i r m : Nat) (K P : Int), i ≤ len ∧ vi = .int .i64 i ∧ vt = .int .i64 ((r : Int) + 1) ∧ vm = .int .i64 m ∧ vk = .int .i64 K ∧ r ≤ i ∧ m ≤ i ∧ Hid (P = U * (row (r + 1) : Int)) ∧ (m : Int) < P ∧ (3000 < U → r = 0) ∧ 1 ≤ K ∧ K ≤ 9223372036854775807 ∧
      Hid (Pc wr w.heap.size U K r (P - m)) ∧ wr.ownsRow w1.heap.size 3 1 (.slice (some ⟨g, 0, none⟩) 1101 cap2) 1101 (rows 1100) ∧ Below w.heap.size w wr) (fun _ _ _ i _ => 2000 - (intOf i).toNat)
  case atStart =>
    refine ⟨0, 0, 0, K0, U, by omega, rfl, rfl, rfl, rfl, by omega, by omega, Lib.hid (by rw [row1]; omega), by simp; omega, fun _ => rfl, hK3, hK4, ?_, hown, hb3⟩
    exact Lib.hid (by simpa using HP2.out)
  case round =>
    obtain ⟨i, r, m, K, P, hi, rfl, rfl, rfl, rfl, hri, hmi, HPr, hmP, hU0, hk1, hk2, HPc, hown2, hbel⟩ := hrel
    by_cases hlt : i < len
    · obtain ⟨bb, off, rfl, hbb, hcell⟩ := Hr.out.at (by omega)
      obtain ⟨hce, hwf⟩ := hcell i hlt
      obtain ⟨n1, n2⟩ := bounds_i64 hwf
      have hcx : wr.cell? ⟨bb, off + i, none⟩ = some (.int .i64 (zs.getD i 0)) := (hbel.cell hbb).trans hce
      clear hce hwf hcell
      obtain ⟨n, hn⟩ : ∃ n, n = zs.getD i 0 := ⟨_, rfl⟩
      rw [← hn] at hcx n1 n2
      clear hn
      have hR1 : 1 ≤ row (r + 1) := row_ge (r + 1) (by omega)
      have hR2 : row (r + 1) ≤ r + 1 := row_le _
      have hUP : U ≤ P := by rw [HPr.out]; exact mul_ge U _ (by omega) (by omega)
      have hP1 : U ≤ 3000 → P ≤ 3000 * 1001 := fun hu => by rw [HPr.out]; exact Int.mul_le_mul hu (by omega) (by omega) (by omega)
      have hP2 : 3000 < U → P = U := fun hu => by rw [HPr.out, hU0 hu, row1]; omega
      have hPm : P ≤ 9223372036854775807 := by
        by_cases hu : U ≤ 3000
        · have := hP1 hu; omega
        · have := hP2 (by omega); omega
      have hne : g ≠ w.heap.size := by omega
      have hr2 : r ≤ 1000 := by omega
      have hm2 : m ≤ 1000 := by omega
      obtain ⟨R, hR⟩ : ∃ R : Int, R = (row (r + 1) : Int) := ⟨_, rfl⟩
      have hR3 : 1 ≤ R := by omega
      have hR4 : R ≤ 1001 := by omega
      have hcr : ∀ W : World, wr.grownBy W (some w.heap.size) → W.cell? ⟨g, r + 1, none⟩ = some (.int .i64 R) := fun W hg => by
        have := hown2.kept hg (Or.inr (by simp [Value.ownBlock]; exact hne))
        rw [this.cellAt (r + 1) (by omega), rows_get 1100 (r + 1) (by omega), hR]
      have Hcr := Lib.hid hcr
      have HPR : Hid (P = U * R) := Lib.hid (by rw [hR]; exact HPr.out)
      have HR := Lib.hid hR
      have HU0 := Lib.hid hU0
      clear hcr hR hR1 hR2 hU0
      by_cases hO : (m : Int) + 1 = P
      · have hu : U ≤ 3000 := by omega
        have hl : P - (m : Int) = 1 := by omega
        have hPR2 := HPR.out
        have ho : (((m : Int) + 1) == U * R) = true := by rw [← hPR2, beq_iff_eq]; exact hO
        have ew : wrap64 (U * R) = U * R := by rw [← hPR2]; unfold wrap64; omega
        have Hl := Lib.hid hl
        have HO := Lib.hid hO
        have hl : P - (m : Int) = 1 := Hl.out
        clear hPR2 hO
        by_cases hf : n ≤ K
        · have hcon := conflict_of wr w.heap.size U K r (P - m) n K ((r : Int) + 1) (U * (row (r + 2) : Int)) true false HPc.out (fun W hW => turn_yes W w.heap.size U K r (row (r + 2)) (by rw [hl] at hW; exact hW) (by omega) hU3 hu (rowZ_nat (n := r + 2) (by omega)) (by omega) (by have := row_le (r + 2); omega)) (fun W hW => forget_no W w.heap.size U K _ _ n hW hf)
          have Hcon := Lib.hid hcon
          clear hcon
          go_wp2_with fail
          refine Hcon.out.mono ?_
          rintro e w3 ⟨rfl, hP3, hg3⟩
          have HP3 := Lib.hid hP3
          have hc3 := Hcr.out w3 hg3
          have Hg3 := Lib.hid hg3
          clear hP3 hg3 Hcon
          go_wp2_with fail
          refine (restarts_any _ w.heap.size U K ((r : Int) + 1) (U * (row (r + 2) : Int)) HP3.out).mono ?_
          rintro e w4 ⟨rfl, rfl⟩
          have hown3 := hown2.kept Hg3.out (Or.inr (by simp [Value.ownBlock]; exact hne))
          have hb4 : Below w.heap.size w w3 := hbel.grown Hg3.out hbel.size (by intro k hk; cases hk; exact Nat.le_refl _)
          clear hown2 hbel hcx hc3 Hcr
          go_wp2
          go_roundw
          case rel => exact ⟨i + 1, r + 1, 0, K, U * (row (r + 2) : Int), by omega, by go_num, by go_num, rfl, rfl, by omega, by omega, Lib.hid rfl, by have := row_ge (r + 2) (by omega); have := mul_ge U (row (r + 2) : Int) (by omega) (by omega); simp; omega, fun h => by have := HU0.out; omega, hk1, hk2, Lib.hid (by have h9 : Pc w3 w.heap.size U K ((r : Int) + 1) (U * (row (r + 2) : Int)) := HP3.out; simpa using h9), hown3, hb4⟩
          case measure => simp [intOf]; omega
        · have hf : K < n := by omega
          by_cases hbig : K ≤ 4611686018427387904
          · have HM : Hid (more K = K + (K / 2 + 1)) := Lib.hid (by unfold more; rw [if_pos (by omega)])
            have hcon := conflict_of wr w.heap.size U K r (P - m) n (more K) ((r : Int) + 1) (U * (row (r + 2) : Int)) true true HPc.out (fun W hW => turn_yes W w.heap.size U K r (row (r + 2)) (by rw [hl] at hW; exact hW) (by omega) hU3 hu (rowZ_nat (n := r + 2) (by omega)) (by omega) (by have := row_le (r + 2); omega)) (fun W hW => forget_yes W w.heap.size U K _ _ n hW hf hk1 hk2)
            have Hcon := Lib.hid hcon
            clear hcon
            go_wp2_with fail
            refine Hcon.out.mono ?_
            rintro e w3 ⟨rfl, hP3, hg3⟩
            have HP3 := Lib.hid hP3
            have hc3 := Hcr.out w3 hg3
            have Hg3 := Lib.hid hg3
            clear hP3 hg3 Hcon
            go_wp2_with fail
            refine (restarts_any _ w.heap.size U (more K) ((r : Int) + 1) (U * (row (r + 2) : Int)) HP3.out).mono ?_
            rintro e w4 ⟨rfl, rfl⟩
            have hown3 := hown2.kept Hg3.out (Or.inr (by simp [Value.ownBlock]; exact hne))
            have hb4 : Below w.heap.size w w3 := hbel.grown Hg3.out hbel.size (by intro k hk; cases hk; exact Nat.le_refl _)
            clear hown2 hbel hcx hc3 Hcr
            go_wp2
            go_roundw
            case rel => exact ⟨i + 1, r + 1, 0, (K + (K / 2 + 1)), U * (row (r + 2) : Int), by omega, by go_num, by go_num, rfl, rfl, by omega, by omega, Lib.hid rfl, by have := row_ge (r + 2) (by omega); have := mul_ge U (row (r + 2) : Int) (by omega) (by omega); simp; omega, fun h => by have := HU0.out; omega, by omega, by omega, Lib.hid (by have h9 : Pc w3 w.heap.size U (K + (K / 2 + 1)) ((r : Int) + 1) (U * (row (r + 2) : Int)) := (by rw [← HM.out]; exact HP3.out); simpa using h9), hown3, hb4⟩
            case measure => simp [intOf]; omega
          · have hbig : 4611686018427387904 < K := by omega
            have HM : Hid (more K = K + min (K / 2 + 1) (9223372036854775807 - K)) := Lib.hid (by unfold more; split <;> omega)
            have hcon := conflict_of wr w.heap.size U K r (P - m) n (more K) ((r : Int) + 1) (U * (row (r + 2) : Int)) true true HPc.out (fun W hW => turn_yes W w.heap.size U K r (row (r + 2)) (by rw [hl] at hW; exact hW) (by omega) hU3 hu (rowZ_nat (n := r + 2) (by omega)) (by omega) (by have := row_le (r + 2); omega)) (fun W hW => forget_yes W w.heap.size U K _ _ n hW hf hk1 hk2)
            have Hcon := Lib.hid hcon
            clear hcon
            go_wp2_with fail
            refine Hcon.out.mono ?_
            rintro e w3 ⟨rfl, hP3, hg3⟩
            have HP3 := Lib.hid hP3
            have hc3 := Hcr.out w3 hg3
            have Hg3 := Lib.hid hg3
            clear hP3 hg3 Hcon
            go_wp2_with fail
            refine (restarts_any _ w.heap.size U (more K) ((r : Int) + 1) (U * (row (r + 2) : Int)) HP3.out).mono ?_
            rintro e w4 ⟨rfl, rfl⟩
            have hown3 := hown2.kept Hg3.out (Or.inr (by simp [Value.ownBlock]; exact hne))
            have hb4 : Below w.heap.size w w3 := hbel.grown Hg3.out hbel.size (by intro k hk; cases hk; exact Nat.le_refl _)
            clear hown2 hbel hcx hc3 Hcr
            go_wp2
            go_roundw
            case rel => exact ⟨i + 1, r + 1, 0, (K + min (K / 2 + 1) (9223372036854775807 - K)), U * (row (r + 2) : Int), by omega, by go_num, by go_num, rfl, rfl, by omega, by omega, Lib.hid rfl, by have := row_ge (r + 2) (by omega); have := mul_ge U (row (r + 2) : Int) (by omega) (by omega); simp; omega, fun h => by have := HU0.out; omega, by omega, by omega, Lib.hid (by have h9 : Pc w3 w.heap.size U (K + min (K / 2 + 1) (9223372036854775807 - K)) ((r : Int) + 1) (U * (row (r + 2) : Int)) := (by rw [← HM.out]; exact HP3.out); simpa using h9), hown3, hb4⟩
            case measure => simp [intOf]; omega
      · by_cases hu : U ≤ 3000
        · have hPR2 := HPR.out
          have ho : (((m : Int) + 1) == U * R) = false := by rw [← hPR2, beq_eq_false_iff_ne]; exact hO
          have ew : wrap64 (U * R) = U * R := by rw [← hPR2]; have := hP1 hu; unfold wrap64; omega
          have hlt2 : (m : Int) + 1 < P := by omega
          clear hPR2 hO
          by_cases hf : n ≤ K
          · have hcon := conflict_of wr w.heap.size U K r (P - m) n K (r : Int) (P - m - 1) false false HPc.out (fun W hW => turn_no W w.heap.size U K r (P - m) hW (by omega) (by omega)) (fun W hW => forget_no W w.heap.size U K _ _ n hW hf)
            have Hcon := Lib.hid hcon
            clear hcon
            go_wp2_with fail
            refine Hcon.out.mono ?_
            rintro e w3 ⟨rfl, hP3, hg3⟩
            have HP3 := Lib.hid hP3
            have hc3 := Hcr.out w3 hg3
            have Hg3 := Lib.hid hg3
            clear hP3 hg3 Hcon
            go_wp2_with fail
            refine (restarts_any _ w.heap.size U K (r : Int) (P - m - 1) HP3.out).mono ?_
            rintro e w4 ⟨rfl, rfl⟩
            have hown3 := hown2.kept Hg3.out (Or.inr (by simp [Value.ownBlock]; exact hne))
            have hb4 : Below w.heap.size w w3 := hbel.grown Hg3.out hbel.size (by intro k hk; cases hk; exact Nat.le_refl _)
            clear hown2 hbel hcx hc3 Hcr
            go_wp2
            go_roundw
            case rel => exact ⟨i + 1, r, m + 1, K, P, by omega, by go_num, rfl, by go_num, rfl, by omega, by omega, HPr, by omega, HU0.out, hk1, hk2, Lib.hid (by have h9 : Pc w3 w.heap.size U K r (P - m - 1) := HP3.out; rw [show P - ((m + 1 : Nat) : Int) = P - m - 1 by omega]; exact h9), hown3, hb4⟩
            case measure => simp [intOf]; omega
          · have hf : K < n := by omega
            by_cases hbig : K ≤ 4611686018427387904
            · have HM : Hid (more K = K + (K / 2 + 1)) := Lib.hid (by unfold more; rw [if_pos (by omega)])
              have hcon := conflict_of wr w.heap.size U K r (P - m) n (more K) (r : Int) (P - m - 1) false true HPc.out (fun W hW => turn_no W w.heap.size U K r (P - m) hW (by omega) (by omega)) (fun W hW => forget_yes W w.heap.size U K _ _ n hW hf hk1 hk2)
              have Hcon := Lib.hid hcon
              clear hcon
              go_wp2_with fail
              refine Hcon.out.mono ?_
              rintro e w3 ⟨rfl, hP3, hg3⟩
              have HP3 := Lib.hid hP3
              have hc3 := Hcr.out w3 hg3
              have Hg3 := Lib.hid hg3
              clear hP3 hg3 Hcon
              go_wp2_with fail
              refine (restarts_any _ w.heap.size U (more K) (r : Int) (P - m - 1) HP3.out).mono ?_
              rintro e w4 ⟨rfl, rfl⟩
              have hown3 := hown2.kept Hg3.out (Or.inr (by simp [Value.ownBlock]; exact hne))
              have hb4 : Below w.heap.size w w3 := hbel.grown Hg3.out hbel.size (by intro k hk; cases hk; exact Nat.le_refl _)
              clear hown2 hbel hcx hc3 Hcr
              go_wp2
              go_roundw
              case rel => exact ⟨i + 1, r, m + 1, (K + (K / 2 + 1)), P, by omega, by go_num, rfl, by go_num, rfl, by omega, by omega, HPr, by omega, HU0.out, by omega, by omega, Lib.hid (by have h9 : Pc w3 w.heap.size U (K + (K / 2 + 1)) r (P - m - 1) := (by rw [← HM.out]; exact HP3.out); rw [show P - ((m + 1 : Nat) : Int) = P - m - 1 by omega]; exact h9), hown3, hb4⟩
              case measure => simp [intOf]; omega
            · have hbig : 4611686018427387904 < K := by omega
              have HM : Hid (more K = K + min (K / 2 + 1) (9223372036854775807 - K)) := Lib.hid (by unfold more; split <;> omega)
              have hcon := conflict_of wr w.heap.size U K r (P - m) n (more K) (r : Int) (P - m - 1) false true HPc.out (fun W hW => turn_no W w.heap.size U K r (P - m) hW (by omega) (by omega)) (fun W hW => forget_yes W w.heap.size U K _ _ n hW hf hk1 hk2)
              have Hcon := Lib.hid hcon
              clear hcon
              go_wp2_with fail
              refine Hcon.out.mono ?_
              rintro e w3 ⟨rfl, hP3, hg3⟩
              have HP3 := Lib.hid hP3
              have hc3 := Hcr.out w3 hg3
              have Hg3 := Lib.hid hg3
              clear hP3 hg3 Hcon
              go_wp2_with fail
              refine (restarts_any _ w.heap.size U (more K) (r : Int) (P - m - 1) HP3.out).mono ?_
              rintro e w4 ⟨rfl, rfl⟩
              have hown3 := hown2.kept Hg3.out (Or.inr (by simp [Value.ownBlock]; exact hne))
              have hb4 : Below w.heap.size w w3 := hbel.grown Hg3.out hbel.size (by intro k hk; cases hk; exact Nat.le_refl _)
              clear hown2 hbel hcx hc3 Hcr
              go_wp2
              go_roundw
              case rel => exact ⟨i + 1, r, m + 1, (K + min (K / 2 + 1) (9223372036854775807 - K)), P, by omega, by go_num, rfl, by go_num, rfl, by omega, by omega, HPr, by omega, HU0.out, by omega, by omega, Lib.hid (by have h9 : Pc w3 w.heap.size U (K + min (K / 2 + 1) (9223372036854775807 - K)) r (P - m - 1) := (by rw [← HM.out]; exact HP3.out); rw [show P - ((m + 1 : Nat) : Int) = P - m - 1 by omega]; exact h9), hown3, hb4⟩
              case measure => simp [intOf]; omega
        · have hu : 3000 < U := by omega
          have hlt2 : (m : Int) + 1 < P := by omega
          clear hO
          by_cases hf : n ≤ K
          · have hcon := conflict_of wr w.heap.size U K r (P - m) n K (r : Int) (P - m - 1) false false HPc.out (fun W hW => turn_no W w.heap.size U K r (P - m) hW (by omega) (by omega)) (fun W hW => forget_no W w.heap.size U K _ _ n hW hf)
            have Hcon := Lib.hid hcon
            clear hcon
            go_wp2_with fail
            refine Hcon.out.mono ?_
            rintro e w3 ⟨rfl, hP3, hg3⟩
            have HP3 := Lib.hid hP3
            have hc3 := Hcr.out w3 hg3
            have Hg3 := Lib.hid hg3
            clear hP3 hg3 Hcon
            go_wp2_with fail
            refine (restarts_any _ w.heap.size U K (r : Int) (P - m - 1) HP3.out).mono ?_
            rintro e w4 ⟨rfl, rfl⟩
            have hown3 := hown2.kept Hg3.out (Or.inr (by simp [Value.ownBlock]; exact hne))
            have hb4 : Below w.heap.size w w3 := hbel.grown Hg3.out hbel.size (by intro k hk; cases hk; exact Nat.le_refl _)
            clear hown2 hbel hcx hc3 Hcr
            go_wp2
            go_roundw
            case rel => exact ⟨i + 1, r, m + 1, K, P, by omega, by go_num, rfl, by go_num, rfl, by omega, by omega, HPr, by omega, HU0.out, hk1, hk2, Lib.hid (by have h9 : Pc w3 w.heap.size U K r (P - m - 1) := HP3.out; rw [show P - ((m + 1 : Nat) : Int) = P - m - 1 by omega]; exact h9), hown3, hb4⟩
            case measure => simp [intOf]; omega
          · have hf : K < n := by omega
            by_cases hbig : K ≤ 4611686018427387904
            · have HM : Hid (more K = K + (K / 2 + 1)) := Lib.hid (by unfold more; rw [if_pos (by omega)])
              have hcon := conflict_of wr w.heap.size U K r (P - m) n (more K) (r : Int) (P - m - 1) false true HPc.out (fun W hW => turn_no W w.heap.size U K r (P - m) hW (by omega) (by omega)) (fun W hW => forget_yes W w.heap.size U K _ _ n hW hf hk1 hk2)
              have Hcon := Lib.hid hcon
              clear hcon
              go_wp2_with fail
              refine Hcon.out.mono ?_
              rintro e w3 ⟨rfl, hP3, hg3⟩
              have HP3 := Lib.hid hP3
              have hc3 := Hcr.out w3 hg3
              have Hg3 := Lib.hid hg3
              clear hP3 hg3 Hcon
              go_wp2_with fail
              refine (restarts_any _ w.heap.size U (more K) (r : Int) (P - m - 1) HP3.out).mono ?_
              rintro e w4 ⟨rfl, rfl⟩
              have hown3 := hown2.kept Hg3.out (Or.inr (by simp [Value.ownBlock]; exact hne))
              have hb4 : Below w.heap.size w w3 := hbel.grown Hg3.out hbel.size (by intro k hk; cases hk; exact Nat.le_refl _)
              clear hown2 hbel hcx hc3 Hcr
              go_wp2
              go_roundw
              case rel => exact ⟨i + 1, r, m + 1, (K + (K / 2 + 1)), P, by omega, by go_num, rfl, by go_num, rfl, by omega, by omega, HPr, by omega, HU0.out, by omega, by omega, Lib.hid (by have h9 : Pc w3 w.heap.size U (K + (K / 2 + 1)) r (P - m - 1) := (by rw [← HM.out]; exact HP3.out); rw [show P - ((m + 1 : Nat) : Int) = P - m - 1 by omega]; exact h9), hown3, hb4⟩
              case measure => simp [intOf]; omega
            · have hbig : 4611686018427387904 < K := by omega
              have HM : Hid (more K = K + min (K / 2 + 1) (9223372036854775807 - K)) := Lib.hid (by unfold more; split <;> omega)
              have hcon := conflict_of wr w.heap.size U K r (P - m) n (more K) (r : Int) (P - m - 1) false true HPc.out (fun W hW => turn_no W w.heap.size U K r (P - m) hW (by omega) (by omega)) (fun W hW => forget_yes W w.heap.size U K _ _ n hW hf hk1 hk2)
              have Hcon := Lib.hid hcon
              clear hcon
              go_wp2_with fail
              refine Hcon.out.mono ?_
              rintro e w3 ⟨rfl, hP3, hg3⟩
              have HP3 := Lib.hid hP3
              have hc3 := Hcr.out w3 hg3
              have Hg3 := Lib.hid hg3
              clear hP3 hg3 Hcon
              go_wp2_with fail
              refine (restarts_any _ w.heap.size U (more K) (r : Int) (P - m - 1) HP3.out).mono ?_
              rintro e w4 ⟨rfl, rfl⟩
              have hown3 := hown2.kept Hg3.out (Or.inr (by simp [Value.ownBlock]; exact hne))
              have hb4 : Below w.heap.size w w3 := hbel.grown Hg3.out hbel.size (by intro k hk; cases hk; exact Nat.le_refl _)
              clear hown2 hbel hcx hc3 Hcr
              go_wp2
              go_roundw
              case rel => exact ⟨i + 1, r, m + 1, (K + min (K / 2 + 1) (9223372036854775807 - K)), P, by omega, by go_num, rfl, by go_num, rfl, by omega, by omega, HPr, by omega, HU0.out, by omega, by omega, Lib.hid (by have h9 : Pc w3 w.heap.size U (K + min (K / 2 + 1) (9223372036854775807 - K)) r (P - m - 1) := (by rw [← HM.out]; exact HP3.out); rw [show P - ((m + 1 : Nat) : Int) = P - m - 1 by omega]; exact h9), hown3, hb4⟩
              case measure => simp [intOf]; omega
    · go_wp2_with fail
      refine (fixed_any _).mono ?_
      rintro e w' ⟨rfl, hb1⟩
      go_wp2
      go_ret
      exact ⟨rfl, hbel.trans (hb1.mono hbel.size)⟩

theorem lubyPace_any (a : Int) (wa : (Lit.int .i64 a).wf = true) (b : Int) (wb : (Lit.int .i64 b).wf = true) (c : Option Addr) (len cap : Nat) (zs : List Int) (w : World) (hr : IsRow .i64 w c len cap zs) :
    Calls Try.prog 4 #[.int .i64 a, .int .i64 b, .slice c len cap] w fun e w' => e = .returned (.bool true) ∧ Below w.heap.size w w' := by
  by_cases h : 1000 < len
  · exact lubyPace_long a b c len cap w h
  · exact lubyPace_short a wa b wb c len cap zs w hr (by omega)

end Go.Proofs.Ytbnolfiboflmiaa.Luby
