/- TotalRepeat's walk. -/
import Derived.Test.YtiimhndiifojnaaToTot
import Derived.Test.YtiimhndiifojnaaToFixed
namespace Go.Proofs.Ytiimhndiifojnaa.To
open Go.RowKit

/-- Where what is repeated stands. -/
theorem rep_at (zs ws : List Int) (L2 L1 k j : Nat) (hk : k < L1) (hj : j < (oneK zs ws L2 k).length) : (repK zs ws L2 k).length + j < (repK zs ws L2 L1).length ∧ (repK zs ws L2 L1)[(repK zs ws L2 k).length + j]?.getD 0 = zs.getD k 0 := by
  have e : ∀ m, ∃ r, repK zs ws L2 (k + 1 + m) = repK zs ws L2 (k + 1) ++ r := fun m => by
    induction m with
    | zero => exact ⟨[], by simp⟩
    | succ m ih => obtain ⟨r, hr⟩ := ih; exact ⟨r ++ oneK zs ws L2 (k + 1 + m), by rw [← Nat.add_assoc, repK_succ, hr, List.append_assoc]⟩
  obtain ⟨r, hr⟩ := e (L1 - (k + 1))
  rw [show k + 1 + (L1 - (k + 1)) = L1 by omega, repK_succ, List.append_assoc] at hr
  rw [hr]
  refine ⟨by rw [List.length_append, List.length_append]; omega, ?_⟩
  rw [List.getElem?_append_right (by omega), Nat.add_sub_cancel_left, List.getElem?_append_left hj]
  unfold oneK at hj ⊢
  split at hj
  · rw [List.length_replicate] at hj
    rw [if_pos (by assumption), List.getElem?_replicate, if_pos hj]; rfl
  · simp at hj
theorem timesI_pos {y : Int} (h : 0 < y) : (timesI y : Int) = min y 1000 := by unfold timesI; omega
theorem timesI_non {y : Int} (h : ¬ 0 < y) : timesI y = 0 := by unfold timesI; omega

set_option maxRecDepth 100000 in
set_option maxHeartbeats 1600000 in
theorem totalRepeat_any (A1 : Option Addr) (L1 c1 : Nat) (zs : List Int) (A2 : Option Addr) (L2 c2 : Nat) (ws : List Int) (w : World) (h1 : IsRow .i64 w A1 L1 c1 zs) (h2 : IsRow .i64 w A2 L2 c2 ws) :
    Calls Try.prog 4 #[.slice A1 L1 c1, .slice A2 L2 c2] w fun e w' => e = .returned (.bool true) ∧ Below w.heap.size w w' := by
  have H1 := Lib.hid h1
  have H2 := Lib.hid h2
  have hc1 := h1.le
  have hc2 := h2.le
  unfold maxLen at hc1 hc2
  have HB0 := Lib.hid (Below.refl w.heap.size w)
  clear h1 h2
  by_cases hb1 : 100 < L1
  · have k0 : (100 : Int) < (L1 : Int) := by omega
    go_enter Try.func4, Try.ntmps4
    go_wp2_with fail
    refine (fixed23_any _).mono ?_
    rintro e w9 ⟨rfl, hb9⟩
    have HBZ := Lib.hid (Below.trans HB0.out (hb9.mono (Below.size HB0.out)))
    clear hb9
    go_wp2
    go_ret
    exact ⟨rfl, HBZ.out⟩
  · have k0 : ¬ (100 : Int) < (L1 : Int) := by omega
    by_cases hb2 : 100 < L2
    · have k1 : (100 : Int) < (L2 : Int) := by omega
      go_enter Try.func4, Try.ntmps4
      go_wp2_with fail
      refine (fixed23_any _).mono ?_
      rintro e w9 ⟨rfl, hb9⟩
      have HBZ := Lib.hid (Below.trans HB0.out (hb9.mono (Below.size HB0.out)))
      clear hb9
      go_wp2
      go_ret
      exact ⟨rfl, HBZ.out⟩
    · have k1 : ¬ (100 : Int) < (L2 : Int) := by omega
      have HL1 := Lib.hid hb1
      go_enter Try.func4, Try.ntmps4
      go_wp2_with fail
      refine (totRepeat_any _ _ _ _ zs _ _ _ ws H1.out H2.out (by have := HL1.out; omega)).mono ?_
      rintro e w1 ⟨A, n, c, rfl, hown, hb⟩
      have HO := Lib.hid hown
      have HOP := Lib.hid hown.open'
      have HB := Lib.hid hb
      have HN := Lib.hid (show n ≤ 100000 by have := hown.len; have := repK_len zs ws L2 L1; have := HL1.out; omega)
      clear hown hb
      go_wp2
      go_loop [6, 24] (fun t i => ∃ k : Nat, k ≤ L1 ∧ i = .int .i64 k ∧ t = .int .i64 ((repK zs ws L2 k).length : Nat)) (fun _ i => L1 - (intOf i).toNat)
      case atStart => exact ⟨0, Nat.zero_le _, rfl, rfl⟩
      case round =>
        obtain ⟨k, hk, rfl, rfl⟩ := hrel
        by_cases hlt : k < L1
        · obtain ⟨b, off, rfl, hbb, g1⟩ := H1.out.at (by omega)
          have c0 := (HB.out.cell (p := ⟨b, off + k, none⟩) hbb).trans (g1 k hlt).1
          obtain ⟨z, hz⟩ : ∃ z, zs.getD k 0 = z := ⟨_, rfl⟩
          rw [hz] at c0
          have HZ := Lib.hid hz
          clear hz hbb g1
          obtain ⟨u, hu⟩ : ∃ u, (repK zs ws L2 k).length = u := ⟨_, rfl⟩
          have HU := Lib.hid hu
          have hu2 : u ≤ 100000 := by have := repK_len zs ws L2 k; omega
          rw [hu]
          clear hu
          obtain ⟨t, ht⟩ : ∃ t, (oneK zs ws L2 k).length = t := ⟨_, rfl⟩
          have HT := Lib.hid ht
          have ht2 : t ≤ 1000 := by rw [← ht]; exact oneK_len zs ws L2 k
          have HT2 := Lib.hid ht2
          have HU2 := Lib.hid hu2
          have HLT := Lib.hid hlt
          have HNX := Lib.hid (show (repK zs ws L2 (k + 1)).length = u + t by rw [repK_succ, List.length_append, HU.out, ht])
          have HSM := Lib.hid (show u + t ≤ 100000 by have := repK_len zs ws L2 (k + 1); have := HNX.out; have := HL1.out; omega)
          have HAT := Lib.hid (show ∀ j, j < t → u + j < n ∧ (repK zs ws L2 L1)[u + j]?.getD 0 = z from fun j hj => by
            have := rep_at zs ws L2 L1 k j HLT.out (by rw [HT.out]; exact hj)
            rw [HU.out, HZ.out] at this
            rw [HO.out.len]; exact this)
          have TAIL : True := trivial
          by_cases hl2 : k < L2
          · obtain ⟨b2, off2, rfl, hbb2, g2⟩ := H2.out.at (by omega)
            have d0 := (HB.out.cell (p := ⟨b2, off2 + k, none⟩) hbb2).trans (g2 k hl2).1
            obtain ⟨y, hy⟩ : ∃ y, ws.getD k 0 = y := ⟨_, rfl⟩
            rw [hy] at d0
            have HY := Lib.hid (show timesI y = t by rw [← HT.out, oneK_in hl2, List.length_replicate, hy])
            have j0 : (k : Int) < (L2 : Int) := by omega
            clear hy hbb2 g2 ht
            by_cases hy0 : 0 < y
            · have HYT := Lib.hid (timesI_pos hy0)
              go_wp2
              rw [show min y 1000 = (t : Int) by rw [← HYT.out, HY.out]]
              clear c0 d0
              go_loop [6, 46] (fun v i => ∃ m : Nat, m ≤ t ∧ i = .int .i64 m ∧ v = .int .i64 ((u + m : Nat) : Int)) (fun _ i => t - (intOf i).toNat)
              case atStart => exact ⟨0, Nat.zero_le _, rfl, rfl⟩
              case round =>
                obtain ⟨m, hm, rfl, rfl⟩ := hrel
                obtain ⟨s, hs⟩ : ∃ s, u + m = s := ⟨_, rfl⟩
                rw [hs]
                by_cases hlm : m < t
                · have hat := HAT.out m hlm
                  rw [hs] at hat
                  obtain ⟨g, rfl, _, _, hc⟩ := HOP.out.2.2.2 (by omega)
                  have d1 := hc s hat.1
                  rw [show (repK zs ws L2 L1)[s]?.getD 0 = z from hat.2] at d1
                  have q1 : (s : Int) < 100000 := by have := HSM.out; omega
                  have q2 : ¬ (n : Int) ≤ (s : Int) := by omega
                  have q3 : (0 : Int) ≤ (s : Int) := by omega
                  have q4 : (s : Int) < (n : Int) := by omega
                  have HS := Lib.hid hs
                  clear hs hat
                  go_wp2
                  go_round
                  case rel => exact ⟨m + 1, by omega, by go_num, by rw [← Nat.add_assoc, HS.out]; go_num⟩
                  case measure => simp [intOf]; omega
                · obtain rfl : m = t := by omega
                  have HS := Lib.hid hs
                  clear hs
                  go_wp2
                  go_round
                  case rel => exact ⟨k + 1, by omega, by go_num, by rw [HNX.out, HS.out]⟩
                  case measure => simp [intOf]; omega
            · have HYT := Lib.hid (timesI_non hy0)
              go_wp2
              obtain rfl : t = 0 := HY.out.symm.trans HYT.out
              clear c0 d0
              go_loop [6, 46] (fun v i => ∃ m : Nat, m ≤ 0 ∧ i = .int .i64 m ∧ v = .int .i64 ((u + m : Nat) : Int)) (fun _ i => 0 - (intOf i).toNat)
              case atStart => exact ⟨0, Nat.zero_le _, rfl, rfl⟩
              case round =>
                obtain ⟨m, hm, rfl, rfl⟩ := hrel
                obtain ⟨s, hs⟩ : ∃ s, u + m = s := ⟨_, rfl⟩
                rw [hs]
                by_cases hlm : m < 0
                · exact absurd hlm (Nat.not_lt_zero _)
                · obtain rfl : m = 0 := by omega
                  have HS := Lib.hid hs
                  clear hs
                  go_wp2
                  go_round
                  case rel => exact ⟨k + 1, by omega, by go_num, by rw [HNX.out, HS.out]⟩
                  case measure => simp [intOf]; omega
          · have j0 : ¬ (k : Int) < (L2 : Int) := by omega
            go_wp2
            obtain rfl : t = 0 := by rw [← HT.out, oneK_out (by omega)]; rfl
            clear c0
            go_loop [6, 46] (fun v i => ∃ m : Nat, m ≤ 0 ∧ i = .int .i64 m ∧ v = .int .i64 ((u + m : Nat) : Int)) (fun _ i => 0 - (intOf i).toNat)
            case atStart => exact ⟨0, Nat.zero_le _, rfl, rfl⟩
            case round =>
              obtain ⟨m, hm, rfl, rfl⟩ := hrel
              obtain ⟨s, hs⟩ : ∃ s, u + m = s := ⟨_, rfl⟩
              rw [hs]
              by_cases hlm : m < 0
              · exact absurd hlm (Nat.not_lt_zero _)
              · obtain rfl : m = 0 := by omega
                have HS := Lib.hid hs
                clear hs
                go_wp2
                go_round
                case rel => exact ⟨k + 1, by omega, by go_num, by rw [HNX.out, HS.out]⟩
                case measure => simp [intOf]; omega
        · obtain rfl : k = L1 := by omega
          have HLEN := Lib.hid (show (repK zs ws L2 k).length = n from HO.out.len.symm)
          rw [HLEN.out]
          have hmin : min (n : Int) 100000 = (n : Int) := by have := HN.out; omega
          go_wp2_with fail
          refine (fixed23_any _).mono ?_
          rintro e w9 ⟨rfl, hb9⟩
          have HBZ := Lib.hid (Below.trans HB.out (hb9.mono HB.out.size))
          clear hb9
          go_wp2
          go_ret
          exact ⟨rfl, HBZ.out⟩
theorem totalRepeat_row (A1 : Option Addr) (L1 c1 : Nat) (zs : List Int) (A2 : Option Addr) (L2 c2 : Nat) (ws : List Int) (w : World) (h1 : IsRow .i64 w A1 L1 c1 zs) (h2 : IsRow .i64 w A2 L2 c2 ws) :
    Calls Try.prog 4 #[.slice A1 L1 c1, .slice A2 L2 c2] w fun e w' => e = .returned (.bool true) ∧ Below w.heap.size w w' := totalRepeat_any A1 L1 c1 zs A2 L2 c2 ws w h1 h2
end Go.Proofs.Ytiimhndiifojnaa.To
