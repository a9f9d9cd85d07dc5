/- What an operation says, by places of the row. -/
import Derived.Test.YtiomocmceccmbaaCnAny
namespace Go.Proofs.Ytiomocmceccmbaa.Cn
open Go.RowKit

/-- An operation in a block of its own. -/
def OpBox (w : World) (N : Nat) (kd x : Int) (A : Option Addr) (L c : Nat) : Prop := w.heap[N]? = some (.cells #[.int .i64 kd, .int .i64 x, .slice A L c] 35 (0, 0))

def soN (zs : List Int) (bs : List Bool) : Nat := (zs.filter fun x => soB x bs).length
theorem soN_le (zs : List Int) (bs : List Bool) : soN zs bs ≤ zs.length := List.length_filter_le _ _
theorem soN_snoc (zs : List Int) (x : Int) (bs : List Bool) : soN (zs ++ [x]) bs = soN zs bs + (if soB x bs then 1 else 0) := by
  unfold soN; rw [List.filter_append, List.length_append]
  by_cases h : soB x bs = true <;> simp [h]

def meansB (kd x : Int) (zs : List Int) (bs : List Bool) : Bool :=
  if kd = 0 then decide (0 < soN zs bs) else if kd = 1 then decide (soN zs bs < 2) else if kd = 2 then decide (soN zs bs = 1)
  else if kd = 3 then soB x bs == decide (soN zs bs = zs.length) else soB x bs == decide (0 < soN zs bs)

theorem beq_one (m : Nat) : ((m : Int) == 1) = decide (m = 1) := by rw [Bool.eq_iff_iff]; simp; omega
theorem beq_nat (m k : Nat) : ((m : Int) == (k : Int)) = decide (m = k) := by rw [Bool.eq_iff_iff]; simp; omega

set_option maxRecDepth 100000 in
set_option maxHeartbeats 1600000 in
theorem means_any (w : World) (kd x : Int) (A : Option Addr) (L c ba : Nat) (zs : List Int) (M : Option Addr) (ml mc : Nat) (bs : List Bool) (hr : Row w ba (.slice A L c) zs) (h : BRow w M ml mc bs) (hx1 : -9223372036854775808 ≤ x) (hx2 : x ≤ 9223372036854775807) (hz : zs.length ≤ 12) :
    Calls Try.prog 21 #[.agg #[.int .i64 kd, .int .i64 x, .slice A L c], .slice M ml mc] w fun e w' => e = .returned (.bool (meansB kd x zs bs)) ∧ Below w.heap.size w w' := by
  obtain ⟨r, hrr⟩ : ∃ r, meansB kd x zs bs = r := ⟨_, rfl⟩
  rw [hrr]
  obtain ⟨A', L', c', e, hL, h1, h2, _⟩ := hr.open'
  injection e with e1 e2 e3
  subst e1; subst e2; subst e3
  unfold maxLen at h2
  have hL12 : L ≤ 12 := by omega
  have HL := Lib.hid hL
  have hb1 := (Below.refl w.heap.size w).alloc (Nat.le_refl _) (.cells #[.int .i64 kd, .int .i64 x, .slice A L c] 35)
  have HBX := heap_alloc_new w (.cells #[.int .i64 kd, .int .i64 x, .slice A L c] 35)
  have c0 := cells_get HBX 0 (v := .int .i64 kd) rfl
  have c1 := cells_get HBX 1 (v := .int .i64 x) rfl
  have c2 := cells_get HBX 2 (v := .slice A L c) rfl
  have HR := Lib.hid (hr.below hb1)
  have HM := Lib.hid (h.below hb1 (Nat.le_refl _))
  have HB := Lib.hid hb1
  have HV := Lib.hid hrr
  clear hr h hL h1 hz hb1 HBX hrr
  go_enter Try.func21, Try.ntmps21
  go_wp2
  go_loop [11, 5] (fun i n => ∃ k m : Nat, i = .int .i64 (k : Int) ∧ n = .int .i64 (m : Int) ∧ k ≤ L ∧ m ≤ k ∧ m = soN (zs.take k) bs) (fun i _ => L - (intOf i).toNat)
  case atStart => exact ⟨0, 0, rfl, rfl, by omega, by omega, by simp [soN]⟩
  case round =>
    obtain ⟨k, m, rfl, rfl, hk, hmk, hm⟩ := hrel
    have HMM := Lib.hid hm
    clear hm
    by_cases hkl : k < L
    · obtain ⟨b, off, rfl, hcell⟩ := HR.out.at (by omega)
      obtain ⟨y, hy⟩ : ∃ y, nthI zs k = y := ⟨_, rfl⟩
      have cy := hcell k hkl
      rw [hy] at cy
      have HYB := Lib.hid (HR.out.bounds y (by rw [← hy]; exact nthI_mem (by rw [← HL.out]; exact hkl)))
      obtain ⟨s, hs⟩ : ∃ s, soB y bs = s := ⟨_, rfl⟩
      have hnx : soN (zs.take (k + 1)) bs = m + (if s then 1 else 0) := by rw [take_snocI (by rw [← HL.out]; exact hkl), soN_snoc, hy, hs, ← HMM.out]
      have HNX := Lib.hid hnx
      have HS := Lib.hid hs
      clear hy hcell hs hnx
      go_wp2_with fail
      refine (so_any _ y M ml mc bs HYB.out.1 HYB.out.2 HM.out).mono ?_
      rintro e w' ⟨rfl, rfl⟩
      rw [HS.out]
      cases s with
      | true =>
        go_wp2
        go_round
        case rel => exact ⟨k + 1, m + 1, by first | rfl | go_num, by first | rfl | go_num, by omega, by omega, by rw [HNX.out]; rfl⟩
        case measure => simp [intOf]; omega
      | false =>
        go_wp2
        go_round
        case rel => exact ⟨k + 1, m, by first | rfl | go_num, rfl, by omega, by omega, by rw [HNX.out]; rfl⟩
        case measure => simp [intOf]; omega
    · have hkL : k = L := by omega
      subst hkL
      have hmn : soN zs bs = m := by have := HMM.out; rw [HL.out, List.take_length] at this; exact this.symm
      have hv := HV.out
      unfold meansB at hv
      rw [hmn, ← HL.out] at hv
      have HV2 := Lib.hid hv
      clear hmn hv HV
      by_cases k0 : kd = 0
      · subst k0
        go_wp2
        go_ret
        exact ⟨by rw [← HV2.out]; simp, HB.out⟩
      have g0 : (kd == 0) = false := by simpa using k0
      by_cases k1 : kd = 1
      · subst k1
        go_wp2
        go_ret
        exact ⟨by rw [← HV2.out]; simp; omega, HB.out⟩
      have g1 : (kd == 1) = false := by simpa using k1
      by_cases k2 : kd = 2
      · subst k2
        go_wp2
        go_ret
        exact ⟨by rw [← HV2.out]; simp [beq_one], HB.out⟩
      have g2 : (kd == 2) = false := by simpa using k2
      obtain ⟨s, hs⟩ : ∃ s, soB x bs = s := ⟨_, rfl⟩
      have hvs := HV2.out
      rw [if_neg k0, if_neg k1, if_neg k2, hs] at hvs
      have HVS := Lib.hid hvs
      have HSX := Lib.hid hs
      clear hvs hs HV2
      by_cases k3 : kd = 3
      · subst k3
        have K := Lib.hid (fun nq : Nat => by
          have := so_any ((w.alloc (.cells #[.int .i64 3, .int .i64 x, .slice A k c] 35)).drewN nq) x M ml mc bs hx1 hx2 HM.out
          rw [HSX.out] at this
          exact quiet_eq this)
        go_wp2_with fail
        go_quiet ((go_at_call 40; exact K.out _))
        go_wp2
        go_ret
        exact ⟨by rw [← HVS.out]; simp [beq_nat], below_draws HB.out _⟩
      · have g3 : (kd == 3) = false := by simpa using k3
        go_wp2_with fail
        refine (so_any _ x M ml mc bs hx1 hx2 HM.out).mono ?_
        rintro e w' ⟨rfl, rfl⟩
        rw [HSX.out]
        go_wp2
        go_ret
        exact ⟨by rw [← HVS.out]; simp [k3], HB.out⟩

end Go.Proofs.Ytiomocmceccmbaa.Cn
