/- OrderCircle: the law's walk. -/
import Derived.Test.YtndkpgbcdgiaiaaOrRound
namespace Go.Proofs.Ytndkpgbcdgiaiaa.Or
open Go.RowKit

theorem found_next {k : Nat} {Z : Nat → Nat → Int} {p : Nat} {y z : Int} {hb : Bool} (h : hb = true ↔ ∃ j, j < k ∧ Z p j = y) (hz : Z p k = z) (b : Bool) (e : b = (hb || decide (z = y))) : b = true ↔ ∃ j, j < k + 1 ∧ Z p j = y := by
  subst e
  rw [Bool.or_eq_true, h, decide_eq_true_eq]
  constructor
  · rintro (⟨i, hi, hv⟩ | hv)
    · exact ⟨i, by omega, hv⟩
    · exact ⟨k, by omega, hz.trans hv⟩
  · rintro ⟨i, hi, hv⟩
    by_cases e : i = k
    · subst e; exact .inr (hz.symm.trans hv)
    · exact .inl ⟨i, by omega, hv⟩

set_option maxRecDepth 100000 in
set_option maxHeartbeats 3200000 in
theorem orderCircle_any (w : World) (A : Option Addr) (n cap : Nat) (Ln : Nat → Nat) (Z : Nat → Nat → Int) (hnc : n ≤ cap) (hcap : cap ≤ maxLen) (hE : RowsAt w A n Ln Z) :
    Calls Try.prog 3 #[.slice A n cap] w fun e w' => e = .returned (.bool true) ∧ Below w.heap.size w w' := by
  unfold maxLen at hcap
  have HE := Lib.hid hE
  clear hE
  go_enter Try.func3, Try.ntmps3
  go_wp2
  go_loop [3, 17] (fun t i => ∃ (k : Nat) (x : Int), i = .int .i64 (k : Int) ∧ t = .int .i64 x ∧ k ≤ n) (fun _ i => n - (intOf i).toNat)
  case atStart => exact ⟨0, 0, rfl, rfl, by omega⟩
  case round =>
    obtain ⟨k, s, rfl, rfl, hk⟩ := hrel
    by_cases hkn : k < n
    · have hE := HE.out
      rcases hE with h0 | ⟨b, off, rfl, hE⟩
      · omega
      obtain ⟨q1, q2, x, c, q3, q4, q5⟩ := hE k hkn
      unfold maxLen at q1
      obtain ⟨D, hD⟩ : ∃ D, Ln k = D := ⟨_, rfl⟩
      rw [hD] at q1 q3 q4
      clear q5 hE hD
      go_wp2
      go_round
      case rel => exact ⟨k + 1, _, by first | rfl | go_num, rfl, by omega⟩
      case measure => simp [intOf]; omega
    · have hkN : k = n := by omega
      subst hkN
      by_cases h60 : 60 < k
      · go_wp2_with fail
        refine (fixed_any _).mono ?_
        rintro e w1 ⟨rfl, hb⟩
        have HB := Lib.hid hb
        clear hb
        go_wp2
        go_ret
        exact ⟨rfl, HB.out⟩
      by_cases h360 : 360 < s
      · go_wp2_with fail
        refine (fixed_any _).mono ?_
        rintro e w1 ⟨rfl, hb⟩
        have HB := Lib.hid hb
        clear hb
        go_wp2
        go_ret
        exact ⟨rfl, HB.out⟩
      go_wp2_with fail
      refine (circle_any _ A k cap Ln Z (by omega) HE.out).mono ?_
      rintro e w2 ⟨hb2, hres⟩
      have HB2 := Lib.hid hb2
      clear hb2 hk hkn
      rcases hres with ⟨rfl, hnot⟩ | ⟨v, l, C, rfl, hcy, hno, hq⟩
      · have HN := Lib.hid hnot
        clear hnot
        go_wp2_with fail
        refine (fixed_any _).mono ?_
        rintro e w3 ⟨rfl, hb3⟩
        have HB3 := Lib.hid (HB2.out.trans (hb3.mono HB2.out.size))
        clear hb3
        go_wp2_with fail
        have HE3 : Hid (RowsAt w3 A k Ln Z) := Lib.hid (by
          rcases HE.out with h0 | ⟨b, off, hA, hE⟩
          · exact .inl h0
          · exact .inr ⟨b, off, hA, hE.below HB3.out (Nat.le_refl _)⟩)
        refine (round_any _ A k cap Ln Z (by omega) HE3.out).mono ?_
        rintro e w4 ⟨hb4, hres⟩
        have HB4 := Lib.hid (HB3.out.trans (hb4.mono HB3.out.size))
        clear hb4
        rcases hres with ⟨rfl, hr⟩ | ⟨rfl, hr⟩
        · exact absurd hr HN.out
        · clear hr
          go_wp2
          go_ret
          exact ⟨rfl, HB4.out⟩
      · obtain ⟨g, o, L, cp, rfl, hL, h1, h2, hc⟩ := hq.open'
        unfold maxLen at h2
        have HC := Lib.hid hc
        have HCY := Lib.hid hcy
        have HL := Lib.hid hL
        have hpos : 0 < L := by rw [HL.out]; exact HCY.out.pos
        have hl2 : L ≤ k := by
          rw [HL.out]
          exact nodup_le HCY.out.nodup fun x hx => by obtain ⟨i, hi, e⟩ := mem_nth hx; rw [← e]; exact HCY.out.lt i hi
        clear hq hno hcy hc hL
        have hE := HE.out
        rcases hE with h0 | ⟨b, off, rfl, hE⟩
        · omega
        have HR := Lib.hid (hE.below HB2.out (Nat.le_refl _))
        clear hE
        go_wp2
        go_loop [48] (fun i => ∃ j : Nat, i = .int .i64 (j : Int) ∧ j ≤ L) (fun i => L - (intOf i).toNat)
        case atStart => exact ⟨0, rfl, by omega⟩
        case round =>
          obtain ⟨j, rfl, hj⟩ := hrel
          by_cases hjl : j < L
          · obtain ⟨p, hp⟩ : ∃ p, nth l j = p := ⟨_, rfl⟩
            have hpn : p < k := by rw [← hp]; exact HCY.out.lt j (by rw [← HL.out]; exact hjl)
            have c1 := HC.out j hjl
            rw [hp] at c1
            obtain ⟨m, hm⟩ : ∃ m, (j + 1) % L = m := ⟨_, rfl⟩
            have hmL : m < L := by rw [← hm]; exact Nat.mod_lt _ hpos
            obtain ⟨y, hy⟩ : ∃ y, nth l m = y := ⟨_, rfl⟩
            have c2 := HC.out m hmL
            rw [hy] at c2
            have hedge := HCY.out.next j (by rw [← HL.out]; exact hjl)
            rw [← HL.out, hm, hy, hp] at hedge
            have HED := Lib.hid hedge
            have HP := Lib.hid hp
            have HM := Lib.hid hm
            clear hp hy hedge
            have hmi : ((j : Int) + 1) % (L : Int) = (m : Int) := by rw [← hm, Int.natCast_emod]; simp
            clear hm
            obtain ⟨q1, q2, x, c, q3, q4, q5⟩ := HR.out p hpn
            have Q5 := Lib.hid q5
            unfold maxLen at q1
            clear q5
            obtain ⟨D, hD⟩ : ∃ D, Ln p = D := ⟨_, rfl⟩
            rw [hD] at q1 q3 q4
            have HD := Lib.hid hD
            clear hD
            go_wp2
            clear q3 c2 hmi
            go_loop [10, 74] (fun f i => ∃ (q : Nat) (hb : Bool), i = .int .i64 (q : Int) ∧ f = .bool hb ∧ q ≤ D ∧ (hb = true ↔ ∃ j, j < q ∧ Z p j = (y : Int))) (fun _ i => D - (intOf i).toNat)
            case atStart => exact ⟨0, false, rfl, rfl, by omega, ⟨(fun h => by cases h), fun ⟨i, hi, _⟩ => by omega⟩⟩
            case round =>
              obtain ⟨q, hb, rfl, rfl, hq, hh⟩ := hrel
              have HH := Lib.hid hh
              clear hh
              by_cases hqd : q < D
              · obtain ⟨z1, bb, oo, rfl, z2, z3⟩ := Q5.out q (by rw [HD.out]; exact hqd)
                obtain ⟨z, hz⟩ : ∃ z, Z p q = z := ⟨_, rfl⟩
                rw [hz] at z1 z3
                obtain ⟨y1, y2⟩ := bounds_i64' z1
                have HZ := Lib.hid hz
                clear z1 hz
                cases hb with
                | true =>
                  go_wp2
                  go_round
                  case rel => exact ⟨q + 1, true, by first | rfl | go_num, rfl, hqd, ⟨fun _ => by obtain ⟨i, hi, hv⟩ := HH.out.1 rfl; exact ⟨i, by omega, hv⟩, fun _ => rfl⟩⟩
                  case measure => simp [intOf]; omega
                | false =>
                  by_cases hzy : z = (y : Int)
                  · subst hzy
                    go_wp2
                    go_round
                    case rel => exact ⟨q + 1, true, by first | rfl | go_num, rfl, hqd, found_next HH.out HZ.out true (by simp)⟩
                    case measure => simp [intOf]; omega
                  · have hzq : (z == (y : Int)) = false := by simpa using hzy
                    go_wp2
                    go_round
                    case rel => exact ⟨q + 1, false, by first | rfl | go_num, rfl, hqd, found_next HH.out HZ.out false (by simp [hzy])⟩
                    case measure => simp [intOf]; omega
              · have hqD : q = D := by omega
                subst hqD
                have hb1 : hb = true := HH.out.2 (by
                  obtain ⟨i, hi, e⟩ := HED.out
                  rw [HD.out] at hi
                  exact ⟨i, hi, e⟩)
                subst hb1
                clear HH
                go_wp2
                go_loop [91] (fun i => ∃ q : Nat, i = .int .i64 (q : Int) ∧ q ≤ j) (fun i => j - (intOf i).toNat)
                case atStart => exact ⟨0, rfl, by omega⟩
                case round =>
                  obtain ⟨t, rfl, ht⟩ := hrel
                  by_cases htj : t < j
                  · obtain ⟨u, hu⟩ : ∃ u, nth l t = u := ⟨_, rfl⟩
                    have c3 := HC.out t (by omega)
                    rw [hu] at c3
                    have hne : ¬ ((u : Int) = (p : Int)) := fun e => by
                      have e' : u = p := by omega
                      have := nth_inj HCY.out.nodup (i := t) (j := j) (by rw [← HL.out]; omega) (by rw [← HL.out]; omega) (by rw [hu, HP.out, e'])
                      omega
                    clear hu
                    go_wp2
                    go_round
                    case rel => exact ⟨t + 1, by first | rfl | go_num, by omega⟩
                    case measure => simp [intOf]; omega
                  · have htJ : t = j := by omega
                    subst htJ
                    go_wp2
                    refine ⟨⟨_, _, _, _, _, _, _, _, ⟨t + 1, ?_, ?_⟩, rfl, rfl, rfl, rfl, rfl, rfl, rfl, rfl⟩, ?_⟩
                    · first | rfl | go_num
                    · omega
                    · simp [intOf]; omega
          · have hjL : j = L := by omega
            subst hjL
            go_wp2_with fail
            refine (fixed_any _).mono ?_
            rintro e w3 ⟨rfl, hb3⟩
            have HB3 := Lib.hid (HB2.out.trans (hb3.mono HB2.out.size))
            have HR3 := Lib.hid (HR.out.below hb3 (Nat.le_refl _))
            clear hb3
            go_wp2_with fail
            refine (round_any _ _ k cap Ln Z (by omega) (.inr ⟨b, off, rfl, HR3.out⟩)).mono ?_
            rintro e w4 ⟨hb4, hres⟩
            have HB4 := Lib.hid (HB3.out.trans (hb4.mono HB3.out.size))
            clear hb4
            rcases hres with ⟨rfl, hr⟩ | ⟨rfl, hr⟩
            · clear hr
              go_wp2
              go_ret
              exact ⟨rfl, HB4.out⟩
            · exact absurd HCY.out.round hr

end Go.Proofs.Ytndkpgbcdgiaiaa.Or
