/- The walk of down. -/
import Derived.Test.YtnapkgnbkkilgaaHpUp
namespace Go.Proofs.Ytnapkgnbkkilgaa.Hp
open Go.RowKit

/-- Which one is ahead of all, behind c of the children. -/
def nx (sc row : List Nat) (k c : Nat) : Nat := if c = 0 then k else if c = 1 then next1 sc row k else next2 sc row k

/-- The inner loop by now. -/
def Kids (wo : World) (sc row : List Nat) (k : Nat) (t u : Value) (wr : World) : Prop :=
  ∃ c n : Nat, c ≤ 2 ∧ t = .int .i64 (nx sc row k c : Int) ∧ u = .int .i64 ((2 * k + c : Nat) : Int) ∧ wr = wo.drewN n ∧ (1 ≤ c → 2 * k ≤ row.length) ∧ (c = 2 → 2 * k + 1 ≤ row.length)

theorem nx_step {sc row : List Nat} {k c : Nat} (hc : c ≤ 1) (hl : 2 * k + c ≤ row.length) (h1 : 1 ≤ c → 2 * k ≤ row.length) :
    nx sc row k (c + 1) = if aheadR sc row (2 * k + c - 1) (nx sc row k c - 1) = true then 2 * k + c else nx sc row k c := by
  match c, hc with
  | 0, _ =>
    simp only [nx, next1, Nat.zero_add, Nat.add_zero, if_true]
    simp at hl
    simp [hl]
  | 1, _ =>
    simp only [nx, next2]
    simp
    simp [show 2 * k + 1 ≤ row.length from hl]

theorem nx_end {sc row : List Nat} {k c : Nat} (hc : c ≤ 2) (h : ¬ (c ≤ 1 ∧ 2 * k + c ≤ row.length)) : nx sc row k c = next2 sc row k := by
  match c, hc with
  | 0, _ =>
    simp at h
    have h1 : ¬ 2 * k ≤ row.length := by omega
    have h2 : ¬ 2 * k + 1 ≤ row.length := by omega
    simp [nx, next2, next1, h1, h2]
  | 1, _ =>
    have h2 : ¬ 2 * k + 1 ≤ row.length := by omega
    simp [nx, next2, h2]
  | 2, _ => simp [nx]

theorem nx_le {sc row : List Nat} {k c : Nat} : k ≤ nx sc row k c ∧ nx sc row k c ≤ 2 * k + 1 ∧ (nx sc row k c = k ∨ nx sc row k c ≤ row.length) := by
  have := next1_le sc row k
  have := next2_le sc row k
  have h3 : next1 sc row k ≤ 2 * k := by unfold next1; split <;> omega
  have h4 : next2 sc row k ≤ 2 * k + 1 := by unfold next2; split <;> omega
  unfold nx
  split
  · omega
  · split <;> omega

set_option maxRecDepth 100000 in
set_option maxHeartbeats 1600000 in
theorem down_is (w : World) (base B S P : Nat) (v : Value) (sc row pl : List Nat) (h : Hp w base B S P v sc row pl) (hv : Valid sc row) (k : Nat) (h1 : 1 ≤ k) (hk : k ≤ 65536) (hr : row.length ≤ 65536) :
    Calls Try.prog 19 #[.pointer (some ⟨B, 0, none⟩), .int .i64 (k : Int)] w fun e w' => e = .returned (.tuple #[]) ∧
      Hp w' base B S P v sc (downF sc row pl k).1 (downF sc row pl k).2 ∧ Touch w w' (fun i => i = P ∨ v.ownBlock = some i) := by
  have H := Lib.hid h
  clear h
  go_enter Try.func19, Try.ntmps19
  go_wp2
  go_loopw [1] (fun t wr => Way w base B S P v sc row pl (fun r p j => downF sc r p j) k t wr) (fun t _ => 65537 - (intOf t).toNat)
  case atStart => exact ⟨k, row, pl, rfl, h1, by omega, rfl, H.out, hv, Touch.refl _ _, rfl⟩
  case round =>
    obtain ⟨j, row', pl', rfl, j1, j2, hl, hh, hv', ht, hf⟩ := hrel
    obtain ⟨wo, rfl⟩ : ∃ wo : World, wo = wr := ⟨_, rfl⟩
    have HH := Lib.hid hh
    have HT := Lib.hid ht
    have HF := Lib.hid (show downF sc row' pl' j = downF sc row pl k from hf)
    have HL := Lib.hid hl
    have lr : row'.length ≤ 65536 := by omega
    have lj : j ≤ 65536 := by omega
    have b1 := cells_get hh.head 1 (v := v) rfl
    obtain ⟨A, c0, hvs⟩ := hh.slice
    rw [hvs] at b1
    clear hvs
    clear hh ht hf hl
    go_wp2
    go_loopw [4, 5] (fun t u wr => Kids wo sc row' j t u wr) (fun _ u _ => 2 * j + 2 - (intOf u).toNat)
    case atStart => exact ⟨0, 0, by omega, rfl, by simp, rfl, by omega, by omega⟩
    case round =>
      obtain ⟨c, n, hc, rfl, rfl, rfl, hc1, hc2⟩ := hrel
      obtain ⟨n1, n2, n3⟩ := nx_le (sc := sc) (row := row') (k := j) (c := c)
      by_cases hgo : c ≤ 1 ∧ 2 * j + c ≤ row'.length
      · obtain ⟨g1, g2⟩ := hgo
        have HS := Lib.hid (nx_step (sc := sc) g1 g2 hc1)
        have hq : nx sc row' j c - 1 < row'.length := by rcases n3 with e | e <;> omega
        have Hq := Lib.hid hq
        clear n3 hq hc1 hc2
        by_cases hA : aheadR sc row' (2 * j + c - 1) (nx sc row' j c - 1) = true
        · have HA := Lib.hid hA
          clear hA
          go_wp2_with fail
          refine (ahead_at _ base B S P v sc row' pl' (HH.out.drewN n) hv' (2 * j + c - 1) (nx sc row' j c - 1) (by omega) Hq.out lr _ _ (by omega) (by omega) _ HA.out).mono ?_
          rintro e w1 ⟨rfl, m, rfl⟩
          go_wp2
          go_roundw
          case rel => exact ⟨c + 1, n + m, by omega, by rw [HS.out, if_pos HA.out]; first | rfl | go_num | simp, by first | rfl | go_num | (simp; omega), rfl, by omega, by omega⟩
          case measure => simp [intOf]; omega
        · have HA := Lib.hid (show aheadR sc row' (2 * j + c - 1) (nx sc row' j c - 1) = false by simpa using hA)
          clear hA
          go_wp2_with fail
          refine (ahead_at _ base B S P v sc row' pl' (HH.out.drewN n) hv' (2 * j + c - 1) (nx sc row' j c - 1) (by omega) Hq.out lr _ _ (by omega) (by omega) _ HA.out).mono ?_
          rintro e w1 ⟨rfl, m, rfl⟩
          go_wp2
          go_roundw
          case rel => exact ⟨c + 1, n + m, by omega, by rw [HS.out, if_neg (by rw [HA.out]; simp)], by first | rfl | go_num | (simp; omega), rfl, by omega, by omega⟩
          case measure => simp [intOf]; omega
      · have hE := nx_end (sc := sc) hc hgo
        obtain ⟨m, hm⟩ : ∃ m, nx sc row' j c = m := ⟨_, rfl⟩
        rw [hm] at hE n1 n2 n3 ⊢
        have HE := Lib.hid hE.symm
        clear hE hm hc1 hc2
        by_cases hmj : m = j
        · obtain rfl := hmj
          have HD := Lib.hid (show downF sc row' pl' m = (row', pl') by unfold downF; rw [dif_pos HE.out])
          by_cases c1 : c ≤ 1
          · have c2 : ¬ 2 * m + c ≤ row'.length := fun h => hgo ⟨c1, h⟩
            clear hgo
            go_wp2
            refine bodyPost_ret (results_none rfl _ _ _) rfl ?_
            rw [← HF.out, HD.out]
            exact ⟨rfl, HH.out.drewN n, HT.out.drewN n⟩
          · clear hgo
            go_wp2
            refine bodyPost_ret (results_none rfl _ _ _) rfl ?_
            rw [← HF.out, HD.out]
            exact ⟨rfl, HH.out.drewN n, HT.out.drewN n⟩
        · have HD := Lib.hid (show downF sc row' pl' j = downF sc (swR row' (j - 1) (m - 1)) (swP row' pl' (j - 1) (m - 1)) m by
            conv => lhs; unfold downF
            rw [dif_neg (by rw [HE.out]; exact hmj), HE.out])
          have hml : m ≤ row'.length := by rcases n3 with e | e; exact absurd e hmj; exact e
          have hmj2 : j < m := by omega
          by_cases c1 : c ≤ 1
          · have c2 : ¬ 2 * j + c ≤ row'.length := fun h => hgo ⟨c1, h⟩
            clear hgo n3
            go_wp2_with fail
            refine (swap_at _ base B S P v sc row' pl' (HH.out.drewN n) hv' (j - 1) (m - 1) (by omega) (by omega) lr _ _ (by omega) (by omega)).mono ?_
            rintro e w2 ⟨rfl, h2, t2⟩
            have HH2 := Lib.hid h2
            have HT2 := Lib.hid t2
            clear h2 t2
            go_wp2
            go_roundw
            case rel =>
              refine ⟨m, _, _, rfl, by omega, by have := HL.out; omega, by rw [swR_length]; exact HL.out, HH2.out, hv'.swap (by omega) (by omega), (HT.out.drewN n).trans HT2.out (fun _ _ h => h), ?_⟩
              show downF sc (swR row' (j - 1) (m - 1)) (swP row' pl' (j - 1) (m - 1)) m = downF sc row pl k
              rw [← HF.out, HD.out]
            case measure => simp [intOf]; omega
          · clear hgo n3
            go_wp2_with fail
            refine (swap_at _ base B S P v sc row' pl' (HH.out.drewN n) hv' (j - 1) (m - 1) (by omega) (by omega) lr _ _ (by omega) (by omega)).mono ?_
            rintro e w2 ⟨rfl, h2, t2⟩
            have HH2 := Lib.hid h2
            have HT2 := Lib.hid t2
            clear h2 t2
            go_wp2
            go_roundw
            case rel =>
              refine ⟨m, _, _, rfl, by omega, by have := HL.out; omega, by rw [swR_length]; exact HL.out, HH2.out, hv'.swap (by omega) (by omega), (HT.out.drewN n).trans HT2.out (fun _ _ h => h), ?_⟩
              show downF sc (swR row' (j - 1) (m - 1)) (swP row' pl' (j - 1) (m - 1)) m = downF sc row pl k
              rw [← HF.out, HD.out]
            case measure => simp [intOf]; omega

end Go.Proofs.Ytnapkgnbkkilgaa.Hp
