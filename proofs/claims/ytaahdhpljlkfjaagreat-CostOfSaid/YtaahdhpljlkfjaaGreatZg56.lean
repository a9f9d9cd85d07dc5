/- CostOf's walk. -/
import Derived.Test.YtaahdhpljlkfjaaGreatZg37
import Derived.Test.YtaahdhpljlkfjaaGreatZg46
import Derived.Test.YtaahdhpljlkfjaaGreatZg47
import Derived.Test.YtaahdhpljlkfjaaGreatZg54
import Derived.Test.YtaahdhpljlkfjaaGreatZg55
import Derived.Deep.CutRange
import Derived.Deep.CutBlock
import Derived.Lib.QuietBelow
import Derived.BigQuiet
import Derived.Test.YtaahdhpljlkfjaaGreatRows
import Derived.WalkKit
import Derived.ProofKit
import Derived.OpenShut
import Derived.ShutString
import Derived.ChangeOld
import Derived.Below
namespace Go.Proofs.YtaahdhpljlkfjaaGreat.Rc
open Go.RowKit Go.Sort

set_option maxRecDepth 100000 in
set_option maxHeartbeats 6400000 in
theorem costOf_any (w : World) (v1 v2 vq vg vh : Value) (x : Rec) (q : List Root) (g g2 : List Node) (h : IsRec w v1 v2 x) (hq : RowD rootK w vq q) (hg : RowD nodeK w vg g) (hh : RowD nodeK w vh g2) :
    Calls Tryz.prog 3 #[.agg #[v1, v2], .agg #[vq], .agg #[vg], .agg #[vh]] w fun e w' => e = .returned (.bool true) ∧ Below w.heap.size w w' := by
  obtain ⟨A1, L1, c1, A2, L2, c2, rfl, rfl, hL1, hL2, hc1, hm1, hc2, hm2⟩ := rec_box h
  obtain ⟨A3, L3, c3, rfl⟩ := hq.sl
  obtain ⟨A4, L4, c4, rfl⟩ := hg.sl
  obtain ⟨A5, L5, c5, rfl⟩ := hh.sl
  have HX0 := Lib.hid ((Bxs.three w #[.slice A1 L1 c1, .slice A2 L2 c2] 25 #[.slice A3 L3 c3] 28 #[.slice A4 L4 c4] 31).push (by simp) #[.slice A5 L5 c5] 31)
  have HR := Lib.hid h
  have HQ := Lib.hid hq
  have HG := Lib.hid hg
  have HH := Lib.hid hh
  clear h hq hg hh hL1 hL2 hc1 hm1 hc2 hm2
  go_enter Tryz.func3, Tryz.ntmps3
  go_wp2_with fail
  simp only [Nat.add_assoc, Nat.reduceAdd]
  refine (great07P_any _ _ _ x (HR.out.below HX0.out.bel (Nat.le_refl _))).mono ?_
  rintro e w1 ⟨b, rfl, hs, hb⟩
  have HX1 := Lib.hid (HX0.out.step hb)
  clear hb HX0
  cases b with
  | true =>
    clear hs
    go_wp2_with fail
    refine (fixed24_any _).mono ?_
    rintro e w9 ⟨rfl, hb9⟩
    have HB9 := Lib.hid (HX1.out.bel.trans (hb9.mono HX1.out.bel.size))
    clear hb9
    go_wp2
    go_ret
    exact ⟨rfl, HB9.out⟩
  | false =>
    have HS1 := Lib.hid (hs rfl)
    clear hs
    have x2 := HX1.out.get 1 0 (v := .slice A3 L3 c3) rfl rfl
    go_wp2_with fail
    refine (great08_any _ _ q (HQ.out.below HX1.out.bel (Nat.le_refl _))).mono ?_
    rintro e w2 ⟨b, rfl, hs, hb⟩
    have HX2 := Lib.hid (HX1.out.step hb)
    clear hb HX1 x2
    cases b with
    | true =>
      clear hs
      go_wp2_with fail
      refine (fixed24_any _).mono ?_
      rintro e w9 ⟨rfl, hb9⟩
      have HB9 := Lib.hid (HX2.out.bel.trans (hb9.mono HX2.out.bel.size))
      clear hb9
      go_wp2
      go_ret
      exact ⟨rfl, HB9.out⟩
    | false =>
      have HS2 := Lib.hid (hs rfl)
      clear hs
      have x3 := HX2.out.get 2 0 (v := .slice A4 L4 c4) rfl rfl
      go_wp2_with fail
      refine (greatGraph_any _ _ g (HG.out.below HX2.out.bel (Nat.le_refl _))).mono ?_
      rintro e w3 ⟨b, rfl, hs, hb⟩
      have HX3 := Lib.hid (HX2.out.step hb)
      clear hb HX2 x3
      cases b with
      | true =>
        clear hs
        go_wp2_with fail
        refine (fixed24_any _).mono ?_
        rintro e w9 ⟨rfl, hb9⟩
        have HB9 := Lib.hid (HX3.out.bel.trans (hb9.mono HX3.out.bel.size))
        clear hb9
        go_wp2
        go_ret
        exact ⟨rfl, HB9.out⟩
      | false =>
        have HS3 := Lib.hid (hs rfl)
        clear hs
        have x4 := HX3.out.get 3 0 (v := .slice A5 L5 c5) rfl rfl
        go_wp2_with fail
        refine (greatGraph_any _ _ g2 (HH.out.below HX3.out.bel (Nat.le_refl _))).mono ?_
        rintro e w4 ⟨b, rfl, hs, hb⟩
        have HX4 := Lib.hid (HX3.out.step hb)
        clear hb HX3 x4
        cases b with
        | true =>
          clear hs
          go_wp2_with fail
          refine (fixed24_any _).mono ?_
          rintro e w9 ⟨rfl, hb9⟩
          have HB9 := Lib.hid (HX4.out.bel.trans (hb9.mono HX4.out.bel.size))
          clear hb9
          go_wp2
          go_ret
          exact ⟨rfl, HB9.out⟩
        | false =>
          have HS4 := Lib.hid (hs rfl)
          clear hs
          have x0 := HX4.out.get 0 0 (v := .slice A1 L1 c1) rfl rfl
          have x1 := HX4.out.get 0 1 (v := .slice A2 L2 c2) rfl rfl
          have x2 := HX4.out.get 1 0 (v := .slice A3 L3 c3) rfl rfl
          rw [Nat.add_zero] at x0 x1
          go_wp2_with fail
          refine (odd24_any _ _ _ _ x q (HR.out.below HX4.out.bel (Nat.le_refl _)) (HQ.out.below HX4.out.bel (Nat.le_refl _)) HS1.out.1.pkgs).mono ?_
          rintro e w5 ⟨b, rfl, hb⟩
          have HX5 := Lib.hid (HX4.out.step hb)
          clear hb HX4 x0 x1 x2
          cases b with
          | true =>
            go_wp2_with fail
            refine (fixed24_any _).mono ?_
            rintro e w9 ⟨rfl, hb9⟩
            have HB9 := Lib.hid (HX5.out.bel.trans (hb9.mono HX5.out.bel.size))
            clear hb9
            go_wp2
            go_ret
            exact ⟨rfl, HB9.out⟩
          | false =>
            have HT1 := Lib.hid (show Tame x g from ⟨HS1.out.1, HS1.out.2, HS3.out.1, HS3.out.2⟩)
            have HT2 := Lib.hid (show Tame x g2 from ⟨HS1.out.1, HS1.out.2, HS4.out.1, HS4.out.2⟩)
            have HLQ := Lib.hid HS2.out.len
            obtain ⟨a, ha⟩ : ∃ a, costL x q g = a := ⟨_, rfl⟩
            obtain ⟨b, hb⟩ : ∃ b, costL x q g2 = b := ⟨_, rfl⟩
            have HCA := Lib.hid ha
            have HCB := Lib.hid hb
            have HXR := HX5
            clear ha hb HX5
            go_wp2_with fail
            refine wp_region_held_drew (S := fun W => Bxs w W [(#[.slice A1 L1 c1, .slice A2 L2 c2], 25), (#[.slice A3 L3 c3], 28), (#[.slice A4 L4 c4], 31), (#[.slice A5 L5 c5], 31)]) (by kernel_rfl) HXR.out.drew (fun hS0 => ?_)
            refine wpAnyH_take (i := 0) (v := .agg #[.slice A1 L1 c1, .slice A2 L2 c2]) rfl (by kernel_rfl) (by kernel_rfl) (by kernel_rfl) (fun _ _ _ h => h) (Or.inl ⟨by rfl, ?_⟩) hS0 ?_
            · intro W hW
              have q0 := hW.get 0 0 (v := .slice A1 L1 c1) rfl rfl
              have q1 := hW.get 0 1 (v := .slice A2 L2 c2) rfl rfl
              have q2 := hW.get 1 0 (v := .slice A3 L3 c3) rfl rfl
              have q3 := hW.get 2 0 (v := .slice A4 L4 c4) rfl rfl
              have q4 := hW.get 3 0 (v := .slice A5 L5 c5) rfl rfl
              rw [Nat.add_zero] at q0 q1
              clear hW
              go_simp
            refine wpAnyH_take (i := 1) (v := .agg #[.slice A3 L3 c3]) rfl (by kernel_rfl) (by kernel_rfl) (by kernel_rfl) (fun _ _ _ h => h) (Or.inl ⟨by rfl, ?_⟩) hS0 ?_
            · intro W hW
              have q0 := hW.get 0 0 (v := .slice A1 L1 c1) rfl rfl
              have q1 := hW.get 0 1 (v := .slice A2 L2 c2) rfl rfl
              have q2 := hW.get 1 0 (v := .slice A3 L3 c3) rfl rfl
              have q3 := hW.get 2 0 (v := .slice A4 L4 c4) rfl rfl
              have q4 := hW.get 3 0 (v := .slice A5 L5 c5) rfl rfl
              rw [Nat.add_zero] at q0 q1
              clear hW
              go_simp
            refine wpAnyH_take (i := 2) (v := .agg #[.slice A4 L4 c4]) rfl (by kernel_rfl) (by kernel_rfl) (by kernel_rfl) (fun _ _ _ h => h) (Or.inl ⟨by rfl, ?_⟩) hS0 ?_
            · intro W hW
              have q0 := hW.get 0 0 (v := .slice A1 L1 c1) rfl rfl
              have q1 := hW.get 0 1 (v := .slice A2 L2 c2) rfl rfl
              have q2 := hW.get 1 0 (v := .slice A3 L3 c3) rfl rfl
              have q3 := hW.get 2 0 (v := .slice A4 L4 c4) rfl rfl
              have q4 := hW.get 3 0 (v := .slice A5 L5 c5) rfl rfl
              rw [Nat.add_zero] at q0 q1
              clear hW
              go_simp
            refine wpAnyH_take (i := 4) (v := .agg #[.slice A1 L1 c1, .slice A2 L2 c2]) rfl (by kernel_rfl) (by kernel_rfl) (by kernel_rfl) (fun _ _ _ h => h) (Or.inl ⟨by rfl, ?_⟩) hS0 ?_
            · intro W hW
              have q0 := hW.get 0 0 (v := .slice A1 L1 c1) rfl rfl
              have q1 := hW.get 0 1 (v := .slice A2 L2 c2) rfl rfl
              have q2 := hW.get 1 0 (v := .slice A3 L3 c3) rfl rfl
              have q3 := hW.get 2 0 (v := .slice A4 L4 c4) rfl rfl
              have q4 := hW.get 3 0 (v := .slice A5 L5 c5) rfl rfl
              rw [Nat.add_zero] at q0 q1
              clear hW
              go_simp
            refine wpAnyH_take (i := 5) (v := .agg #[.slice A3 L3 c3]) rfl (by kernel_rfl) (by kernel_rfl) (by kernel_rfl) (fun _ _ _ h => h) (Or.inl ⟨by rfl, ?_⟩) hS0 ?_
            · intro W hW
              have q0 := hW.get 0 0 (v := .slice A1 L1 c1) rfl rfl
              have q1 := hW.get 0 1 (v := .slice A2 L2 c2) rfl rfl
              have q2 := hW.get 1 0 (v := .slice A3 L3 c3) rfl rfl
              have q3 := hW.get 2 0 (v := .slice A4 L4 c4) rfl rfl
              have q4 := hW.get 3 0 (v := .slice A5 L5 c5) rfl rfl
              rw [Nat.add_zero] at q0 q1
              clear hW
              go_simp
            refine wpAnyH_take (i := 6) (v := .agg #[.slice A5 L5 c5]) rfl (by kernel_rfl) (by kernel_rfl) (by kernel_rfl) (fun _ _ _ h => h) (Or.inl ⟨by rfl, ?_⟩) hS0 ?_
            · intro W hW
              have q0 := hW.get 0 0 (v := .slice A1 L1 c1) rfl rfl
              have q1 := hW.get 0 1 (v := .slice A2 L2 c2) rfl rfl
              have q2 := hW.get 1 0 (v := .slice A3 L3 c3) rfl rfl
              have q3 := hW.get 2 0 (v := .slice A4 L4 c4) rfl rfl
              have q4 := hW.get 3 0 (v := .slice A5 L5 c5) rfl rfl
              rw [Nat.add_zero] at q0 q1
              clear hW
              go_simp
            refine Co.two_boxes (S := fun W => Bxs w W [(#[.slice A1 L1 c1, .slice A2 L2 c2], 25), (#[.slice A3 L3 c3], 28), (#[.slice A4 L4 c4], 31), (#[.slice A5 L5 c5], 31)]) (A := fun v1 v2 v3 v4 => { tmps := #[.agg #[.slice A1 L1 c1, .slice A2 L2 c2], .agg #[.slice A3 L3 c3], .agg #[.slice A4 L4 c4], .agg #[.slice A5 L5 c5], .pointer (some ⟨w.heap.size, 0, none⟩), .pointer (some ⟨w.heap.size + 1, 0, none⟩), .pointer (some ⟨w.heap.size + 2, 0, none⟩), .pointer (some ⟨w.heap.size + 3, 0, none⟩), .bool false, v3, v4, undef, .agg #[.slice A1 L1 c1, .slice A2 L2 c2], .bool false, .bool false, .agg #[.slice A3 L3 c3], .bool false, .bool false, .bool false, .agg #[.slice A4 L4 c4], .bool false, .bool false, .bool false, .agg #[.slice A5 L5 c5], .bool false, .bool false, .bool false, .agg #[.slice A1 L1 c1, .slice A2 L2 c2], .agg #[.slice A3 L3 c3], .bool false, .bool false, undef, .agg #[.slice A1 L1 c1, .slice A2 L2 c2], .agg #[.slice A3 L3 c3], .agg #[.slice A4 L4 c4], v1, .agg #[.slice A1 L1 c1, .slice A2 L2 c2], .agg #[.slice A3 L3 c3], .agg #[.slice A5 L5 c5], v2, undef, undef, undef, undef, undef, undef, undef, undef, undef, undef, undef, undef, undef, undef, undef, undef, undef, undef, undef, undef, undef, undef, undef, undef, undef, undef, undef, undef, undef, undef, undef, undef, undef, undef, undef, undef], defers := [] }) (V1 := costV a) (V2 := costV b) (cs1 := costA a) (cs2 := costA b) (z := #[.int .i64 0, .int .i64 0, .int .i64 0, .int .i64 0, .int .i64 0, .int .i64 0]) (T := 38) (N := w.heap.size + 4) (J := fun W => Bxs w W [(#[.slice A1 L1 c1, .slice A2 L2 c2], 25), (#[.slice A3 L3 c3], 28), (#[.slice A4 L4 c4], 31), (#[.slice A5 L5 c5], 31)]) (c1 := 3) (c2 := 7) (p1 := 8) (p2 := 9) (s1 := 10) (s2 := 11)
              (Co.upward_of (by kernel_rfl)) (by decide) (by kernel_rfl) (Co.core_of (by kernel_rfl)) (Co.free_of (by kernel_rfl)) (Nat.le_of_ble_eq_true (by kernel_rfl))
              rfl rfl rfl rfl rfl rfl rfl rfl rfl rfl rfl rfl
              (Co.waits_of (by kernel_rfl)) (Co.waits_of (by kernel_rfl)) (Co.waits_of (by kernel_rfl)) (Co.waits_of (by kernel_rfl))
              ?_ ?_ ?_ ?_ ?_ ?_ (fun _ h => h) rfl rfl (fun _ _ h hb => h.step hb) (fun W B cs h hB => h.row hB cs) (fun W h => h.top) ?_ hS0
            · intro u1 u2 u3 u4 W K hJ hK
              dsimp only
              go_simp
              refine (of_is _ _ _ _ _ x q g (HR.out.below hJ.bel (Nat.le_refl _)) (HQ.out.below hJ.bel (Nat.le_refl _)) (HG.out.below hJ.bel (Nat.le_refl _)) HT1.out HLQ.out).mono ?_
              rw [HCA.out]
              rintro e w' ⟨rfl, hb⟩
              exact hK w' hb
            · intro u1 u2 u3 u4 W K hJ hK
              dsimp only
              go_simp
              refine (of_is _ _ _ _ _ x q g2 (HR.out.below hJ.bel (Nat.le_refl _)) (HQ.out.below hJ.bel (Nat.le_refl _)) (HH.out.below hJ.bel (Nat.le_refl _)) HT2.out HLQ.out).mono ?_
              rw [HCB.out]
              rintro e w' ⟨rfl, hb⟩
              exact hK w' hb
            · intro u1 u2 u3 u4 W K hK
              dsimp only
              go_simp
              exact hK
            · intro u1 u2 u3 u4 W K hK
              dsimp only
              go_simp
              exact hK
            · intro u2 u4 B old W K hB ho hK
              exact wp_store_row 38 (.tmp 9) (.tmp 35) rfl B (costA a) rfl rfl _ old hB (by kernel_rfl) ho (costA_one a) hK
            · intro u1 u3 B old W K hB ho hK
              exact wp_store_row 38 (.tmp 10) (.tmp 39) rfl B (costA b) rfl rfl _ old hB (by kernel_rfl) ho (costA_one b) hK
            · intro B1 B2 W hJ n1 n2 hne h1 h2
              have HXV := Lib.hid hJ
              have HB1 := Lib.hid h1
              have HB2 := Lib.hid h2
              have E1 := eq_cost a
              have E2 := eq_cost b
              unfold costA at E1 E2 HB1 HB2
              have x0 := HXV.out.get 0 0 (v := .slice A1 L1 c1) rfl rfl
              have x1 := HXV.out.get 0 1 (v := .slice A2 L2 c2) rfl rfl
              have x2 := HXV.out.get 1 0 (v := .slice A3 L3 c3) rfl rfl
              have x3 := HXV.out.get 2 0 (v := .slice A4 L4 c4) rfl rfl
              have x4 := HXV.out.get 3 0 (v := .slice A5 L5 c5) rfl rfl
              rw [Nat.add_zero] at x0 x1
              have y0 := cells_get HB1.out 0 (v := .int .i64 (nth a 0)) rfl
              have y1 := cells_get HB1.out 1 (v := .int .i64 (nth a 1)) rfl
              have y2 := cells_get HB1.out 2 (v := .int .i64 (nth a 2)) rfl
              have y3 := cells_get HB1.out 3 (v := .int .i64 (nth a 3)) rfl
              have y4 := cells_get HB1.out 4 (v := .int .i64 (nth a 4)) rfl
              have y5 := cells_get HB1.out 5 (v := .int .i64 (nth a 5)) rfl
              have z0 := cells_get HB2.out 0 (v := .int .i64 (nth b 0)) rfl
              have z1 := cells_get HB2.out 1 (v := .int .i64 (nth b 1)) rfl
              have z2 := cells_get HB2.out 2 (v := .int .i64 (nth b 2)) rfl
              have z3 := cells_get HB2.out 3 (v := .int .i64 (nth b 3)) rfl
              have z4 := cells_get HB2.out 4 (v := .int .i64 (nth b 4)) rfl
              have z5 := cells_get HB2.out 5 (v := .int .i64 (nth b 5)) rfl
              have r0 := cell_regrown x0
              have r1 := cell_regrown x1
              have r2 := cell_regrown x2
              have r3 := cell_regrown x3
              have r4 := cell_regrown x4
              have s0 := cell_regrown y0
              have s1 := cell_regrown y1
              have s2 := cell_regrown y2
              have s3 := cell_regrown y3
              have s4 := cell_regrown y4
              have s5 := cell_regrown y5
              have t0 := cell_regrown z0
              have t1 := cell_regrown z1
              have t2 := cell_regrown z2
              have t3 := cell_regrown z3
              have t4 := cell_regrown z4
              have t5 := cell_regrown z5
              have C1 := Lib.hid (show ∀ d os, Calls Tryz.prog 11 #[.agg #[.slice A1 L1 c1, .slice A2 L2 c2], .agg #[.slice A3 L3 c3], .agg #[.slice A4 L4 c4]] (grow (redrawn W d) os) fun e w'' => e = .returned (costV a) ∧ ∃ p : Regrown, w'' = grow (redrawn W p.d) p.os from
                fun d os => Calls.regrown_of (by
                  have := refOf_is (grow (redrawn W d) os) _ _ _ _ x q g (HR.out.below (HXV.out.step (below_regrown W d os)).bel (Nat.le_refl _)) (HQ.out.below (HXV.out.step (below_regrown W d os)).bel (Nat.le_refl _)) (HG.out.below (HXV.out.step (below_regrown W d os)).bel (Nat.le_refl _)) HT1.out
                  rw [HCA.out] at this
                  exact this))
              have C2 := Lib.hid (show ∀ d os, Calls Tryz.prog 11 #[.agg #[.slice A1 L1 c1, .slice A2 L2 c2], .agg #[.slice A3 L3 c3], .agg #[.slice A5 L5 c5]] (grow (redrawn W d) os) fun e w'' => e = .returned (costV b) ∧ ∃ p : Regrown, w'' = grow (redrawn W p.d) p.os from
                fun d os => Calls.regrown_of (by
                  have := refOf_is (grow (redrawn W d) os) _ _ _ _ x q g2 (HR.out.below (HXV.out.step (below_regrown W d os)).bel (Nat.le_refl _)) (HQ.out.below (HXV.out.step (below_regrown W d os)).bel (Nat.le_refl _)) (HH.out.below (HXV.out.step (below_regrown W d os)).bel (Nat.le_refl _)) HT2.out
                  rw [HCB.out] at this
                  exact this))
              unfold costV at C1 C2
              clear hJ h1 h2 n1 n2 hne hS0 y0 y1 y2 y3 y4 y5 z0 z1 z2 z3 z4 z5 x0 x1 x2 x3 x4
              unfold costV
              dsimp only
              go_wp2_with fail
              refine wp_region_quiet_below (by kernel_rfl) (by kernel_rfl) ?_
              repeat (go_big_quiet_step ((go_at_call 11; (first | with_reducible exact C1.out _ _ | with_reducible exact C2.out _ _))))
              refine wpQuiet_nil ?_
              intro w6 hw'
              have hb : Below W.heap.size W w6 := by obtain ⟨⟨dq, osq⟩, hw''⟩ := hw'; rw [hw'']; exact below_regrown W dq osq
              have K1_6 := Lib.hid (heap_below HB1.out hb)
              have K2_6 := Lib.hid (heap_below HB2.out hb)
              have HB_6 := Lib.hid (HXV.out.step hb).bel
              clear hw' hb r0 r1 r2 r3 r4 s0 t0 s1 t1 s2 t2 s3 t3 s4 t4 s5 t5 C1 C2 E1 E2 HB1 HB2 HXV
              have y0 := cells_get K1_6.out 0 (v := .int .i64 (nth a 0)) rfl
              have y1 := cells_get K1_6.out 1 (v := .int .i64 (nth a 1)) rfl
              have y2 := cells_get K1_6.out 2 (v := .int .i64 (nth a 2)) rfl
              have y3 := cells_get K1_6.out 3 (v := .int .i64 (nth a 3)) rfl
              have y4 := cells_get K1_6.out 4 (v := .int .i64 (nth a 4)) rfl
              have y5 := cells_get K1_6.out 5 (v := .int .i64 (nth a 5)) rfl
              have z0 := cells_get K2_6.out 0 (v := .int .i64 (nth b 0)) rfl
              have z1 := cells_get K2_6.out 1 (v := .int .i64 (nth b 1)) rfl
              have z2 := cells_get K2_6.out 2 (v := .int .i64 (nth b 2)) rfl
              have z3 := cells_get K2_6.out 3 (v := .int .i64 (nth b 3)) rfl
              have z4 := cells_get K2_6.out 4 (v := .int .i64 (nth b 4)) rfl
              have z5 := cells_get K2_6.out 5 (v := .int .i64 (nth b 5)) rfl
              obtain ⟨l1, hl1⟩ : ∃ l, lessC a b = l := ⟨_, rfl⟩
              obtain ⟨l2, hl2⟩ : ∃ l, lessC b a = l := ⟨_, rfl⟩
              have HL1 := Lib.hid hl1
              have HL2 := Lib.hid hl2
              clear hl1 hl2
              go_wp2_with fail
              refine (less_any _ a b l1 HL1.out).mono ?_
              rintro e w7 ⟨rfl, hb⟩
              have K1_7 := Lib.hid (heap_below K1_6.out hb)
              have K2_7 := Lib.hid (heap_below K2_6.out hb)
              have HB_7 := Lib.hid (HB_6.out.trans (hb.mono HB_6.out.size))
              clear hb K1_6 K2_6 HB_6 y0 y1 y2 y3 y4 y5 z0 z1 z2 z3 z4 z5
              have y0 := cells_get K1_7.out 0 (v := .int .i64 (nth a 0)) rfl
              have y1 := cells_get K1_7.out 1 (v := .int .i64 (nth a 1)) rfl
              have y2 := cells_get K1_7.out 2 (v := .int .i64 (nth a 2)) rfl
              have y3 := cells_get K1_7.out 3 (v := .int .i64 (nth a 3)) rfl
              have y4 := cells_get K1_7.out 4 (v := .int .i64 (nth a 4)) rfl
              have y5 := cells_get K1_7.out 5 (v := .int .i64 (nth a 5)) rfl
              have z0 := cells_get K2_7.out 0 (v := .int .i64 (nth b 0)) rfl
              have z1 := cells_get K2_7.out 1 (v := .int .i64 (nth b 1)) rfl
              have z2 := cells_get K2_7.out 2 (v := .int .i64 (nth b 2)) rfl
              have z3 := cells_get K2_7.out 3 (v := .int .i64 (nth b 3)) rfl
              have z4 := cells_get K2_7.out 4 (v := .int .i64 (nth b 4)) rfl
              have z5 := cells_get K2_7.out 5 (v := .int .i64 (nth b 5)) rfl
              cases l1 with
              | true =>
                go_wp2_with fail
                refine (less_any _ b a l2 HL2.out).mono ?_
                rintro e w8 ⟨rfl, hb⟩
                have K1_8 := Lib.hid (heap_below K1_7.out hb)
                have K2_8 := Lib.hid (heap_below K2_7.out hb)
                have HB_8 := Lib.hid (HB_7.out.trans (hb.mono HB_7.out.size))
                clear hb K1_7 K2_7 HB_7 y0 y1 y2 y3 y4 y5 z0 z1 z2 z3 z4 z5
                have y0 := cells_get K1_8.out 0 (v := .int .i64 (nth a 0)) rfl
                have y1 := cells_get K1_8.out 1 (v := .int .i64 (nth a 1)) rfl
                have y2 := cells_get K1_8.out 2 (v := .int .i64 (nth a 2)) rfl
                have y3 := cells_get K1_8.out 3 (v := .int .i64 (nth a 3)) rfl
                have y4 := cells_get K1_8.out 4 (v := .int .i64 (nth a 4)) rfl
                have y5 := cells_get K1_8.out 5 (v := .int .i64 (nth a 5)) rfl
                have z0 := cells_get K2_8.out 0 (v := .int .i64 (nth b 0)) rfl
                have z1 := cells_get K2_8.out 1 (v := .int .i64 (nth b 1)) rfl
                have z2 := cells_get K2_8.out 2 (v := .int .i64 (nth b 2)) rfl
                have z3 := cells_get K2_8.out 3 (v := .int .i64 (nth b 3)) rfl
                have z4 := cells_get K2_8.out 4 (v := .int .i64 (nth b 4)) rfl
                have z5 := cells_get K2_8.out 5 (v := .int .i64 (nth b 5)) rfl
                cases l2 with
                | true =>
                  have HC1 := Lib.hid (show cmpC a b = (1) by
                    show cmpAt a b 6 0 = _
                    rw [cmpAt_less, show lessAt b a 6 0 = true from HL2.out, show lessAt a b 6 0 = true from HL1.out]
                    try rfl)
                  have HC2 := Lib.hid (show cmpC b a = (-1) by
                    show cmpAt b a 6 0 = _
                    rw [cmpAt_neg, show cmpAt a b 6 0 = (1) from HC1.out]
                    try rfl)
                  have hwn : IntKind.i64.wrap (-(1)) = (-1) := by decide
                  clear y0 y1 y2 y3 y4 y5 z0 z1 z2 z3 z4 z5
                  go_wp2_with fail
                  refine (fixed24_any _).mono ?_
                  rintro e w9 ⟨rfl, hb⟩
                  have K1_9 := Lib.hid (heap_below K1_8.out hb)
                  have K2_9 := Lib.hid (heap_below K2_8.out hb)
                  have HB_9 := Lib.hid (HB_8.out.trans (hb.mono HB_8.out.size))
                  clear hb K1_8 K2_8 HB_8 
                  have y0 := cells_get K1_9.out 0 (v := .int .i64 (nth a 0)) rfl
                  have y1 := cells_get K1_9.out 1 (v := .int .i64 (nth a 1)) rfl
                  have y2 := cells_get K1_9.out 2 (v := .int .i64 (nth a 2)) rfl
                  have y3 := cells_get K1_9.out 3 (v := .int .i64 (nth a 3)) rfl
                  have y4 := cells_get K1_9.out 4 (v := .int .i64 (nth a 4)) rfl
                  have y5 := cells_get K1_9.out 5 (v := .int .i64 (nth a 5)) rfl
                  have z0 := cells_get K2_9.out 0 (v := .int .i64 (nth b 0)) rfl
                  have z1 := cells_get K2_9.out 1 (v := .int .i64 (nth b 1)) rfl
                  have z2 := cells_get K2_9.out 2 (v := .int .i64 (nth b 2)) rfl
                  have z3 := cells_get K2_9.out 3 (v := .int .i64 (nth b 3)) rfl
                  have z4 := cells_get K2_9.out 4 (v := .int .i64 (nth b 4)) rfl
                  have z5 := cells_get K2_9.out 5 (v := .int .i64 (nth b 5)) rfl
                  go_wp2_with fail
                  refine (compare_any _ a b _ HC1.out).mono ?_
                  rintro e w10 ⟨rfl, hb⟩
                  have K1_10 := Lib.hid (heap_below K1_9.out hb)
                  have K2_10 := Lib.hid (heap_below K2_9.out hb)
                  have HB_10 := Lib.hid (HB_9.out.trans (hb.mono HB_9.out.size))
                  clear hb K1_9 K2_9 HB_9 y0 y1 y2 y3 y4 y5 z0 z1 z2 z3 z4 z5
                  have y0 := cells_get K1_10.out 0 (v := .int .i64 (nth a 0)) rfl
                  have y1 := cells_get K1_10.out 1 (v := .int .i64 (nth a 1)) rfl
                  have y2 := cells_get K1_10.out 2 (v := .int .i64 (nth a 2)) rfl
                  have y3 := cells_get K1_10.out 3 (v := .int .i64 (nth a 3)) rfl
                  have y4 := cells_get K1_10.out 4 (v := .int .i64 (nth a 4)) rfl
                  have y5 := cells_get K1_10.out 5 (v := .int .i64 (nth a 5)) rfl
                  have z0 := cells_get K2_10.out 0 (v := .int .i64 (nth b 0)) rfl
                  have z1 := cells_get K2_10.out 1 (v := .int .i64 (nth b 1)) rfl
                  have z2 := cells_get K2_10.out 2 (v := .int .i64 (nth b 2)) rfl
                  have z3 := cells_get K2_10.out 3 (v := .int .i64 (nth b 3)) rfl
                  have z4 := cells_get K2_10.out 4 (v := .int .i64 (nth b 4)) rfl
                  have z5 := cells_get K2_10.out 5 (v := .int .i64 (nth b 5)) rfl
                  go_wp2_with fail
                  refine (compare_any _ b a _ HC2.out).mono ?_
                  rintro e w11 ⟨rfl, hb⟩
                  have K1_11 := Lib.hid (heap_below K1_10.out hb)
                  have K2_11 := Lib.hid (heap_below K2_10.out hb)
                  have HB_11 := Lib.hid (HB_10.out.trans (hb.mono HB_10.out.size))
                  clear hb K1_10 K2_10 HB_10 y0 y1 y2 y3 y4 y5 z0 z1 z2 z3 z4 z5
                  go_wp2
                  go_ret
                  exact ⟨rfl, HB_11.out⟩
                | false =>
                  have HC1 := Lib.hid (show cmpC a b = (-1) by
                    show cmpAt a b 6 0 = _
                    rw [cmpAt_less, show lessAt b a 6 0 = false from HL2.out, show lessAt a b 6 0 = true from HL1.out]
                    try rfl)
                  have HC2 := Lib.hid (show cmpC b a = (1) by
                    show cmpAt b a 6 0 = _
                    rw [cmpAt_neg, show cmpAt a b 6 0 = (-1) from HC1.out]
                    try rfl)
                  have hwn : IntKind.i64.wrap (-(-1)) = (1) := by decide
                  clear y0 y1 y2 y3 y4 y5 z0 z1 z2 z3 z4 z5
                  go_wp2_with fail
                  refine (fixed24_any _).mono ?_
                  rintro e w9 ⟨rfl, hb⟩
                  have K1_9 := Lib.hid (heap_below K1_8.out hb)
                  have K2_9 := Lib.hid (heap_below K2_8.out hb)
                  have HB_9 := Lib.hid (HB_8.out.trans (hb.mono HB_8.out.size))
                  clear hb K1_8 K2_8 HB_8 
                  have y0 := cells_get K1_9.out 0 (v := .int .i64 (nth a 0)) rfl
                  have y1 := cells_get K1_9.out 1 (v := .int .i64 (nth a 1)) rfl
                  have y2 := cells_get K1_9.out 2 (v := .int .i64 (nth a 2)) rfl
                  have y3 := cells_get K1_9.out 3 (v := .int .i64 (nth a 3)) rfl
                  have y4 := cells_get K1_9.out 4 (v := .int .i64 (nth a 4)) rfl
                  have y5 := cells_get K1_9.out 5 (v := .int .i64 (nth a 5)) rfl
                  have z0 := cells_get K2_9.out 0 (v := .int .i64 (nth b 0)) rfl
                  have z1 := cells_get K2_9.out 1 (v := .int .i64 (nth b 1)) rfl
                  have z2 := cells_get K2_9.out 2 (v := .int .i64 (nth b 2)) rfl
                  have z3 := cells_get K2_9.out 3 (v := .int .i64 (nth b 3)) rfl
                  have z4 := cells_get K2_9.out 4 (v := .int .i64 (nth b 4)) rfl
                  have z5 := cells_get K2_9.out 5 (v := .int .i64 (nth b 5)) rfl
                  go_wp2_with fail
                  refine (compare_any _ a b _ HC1.out).mono ?_
                  rintro e w10 ⟨rfl, hb⟩
                  have K1_10 := Lib.hid (heap_below K1_9.out hb)
                  have K2_10 := Lib.hid (heap_below K2_9.out hb)
                  have HB_10 := Lib.hid (HB_9.out.trans (hb.mono HB_9.out.size))
                  clear hb K1_9 K2_9 HB_9 y0 y1 y2 y3 y4 y5 z0 z1 z2 z3 z4 z5
                  have y0 := cells_get K1_10.out 0 (v := .int .i64 (nth a 0)) rfl
                  have y1 := cells_get K1_10.out 1 (v := .int .i64 (nth a 1)) rfl
                  have y2 := cells_get K1_10.out 2 (v := .int .i64 (nth a 2)) rfl
                  have y3 := cells_get K1_10.out 3 (v := .int .i64 (nth a 3)) rfl
                  have y4 := cells_get K1_10.out 4 (v := .int .i64 (nth a 4)) rfl
                  have y5 := cells_get K1_10.out 5 (v := .int .i64 (nth a 5)) rfl
                  have z0 := cells_get K2_10.out 0 (v := .int .i64 (nth b 0)) rfl
                  have z1 := cells_get K2_10.out 1 (v := .int .i64 (nth b 1)) rfl
                  have z2 := cells_get K2_10.out 2 (v := .int .i64 (nth b 2)) rfl
                  have z3 := cells_get K2_10.out 3 (v := .int .i64 (nth b 3)) rfl
                  have z4 := cells_get K2_10.out 4 (v := .int .i64 (nth b 4)) rfl
                  have z5 := cells_get K2_10.out 5 (v := .int .i64 (nth b 5)) rfl
                  go_wp2_with fail
                  refine (compare_any _ b a _ HC2.out).mono ?_
                  rintro e w11 ⟨rfl, hb⟩
                  have K1_11 := Lib.hid (heap_below K1_10.out hb)
                  have K2_11 := Lib.hid (heap_below K2_10.out hb)
                  have HB_11 := Lib.hid (HB_10.out.trans (hb.mono HB_10.out.size))
                  clear hb K1_10 K2_10 HB_10 y0 y1 y2 y3 y4 y5 z0 z1 z2 z3 z4 z5
                  go_wp2
                  go_ret
                  exact ⟨rfl, HB_11.out⟩
              | false =>
                go_wp2_with fail
                refine (less_any _ b a l2 HL2.out).mono ?_
                rintro e w8 ⟨rfl, hb⟩
                have K1_8 := Lib.hid (heap_below K1_7.out hb)
                have K2_8 := Lib.hid (heap_below K2_7.out hb)
                have HB_8 := Lib.hid (HB_7.out.trans (hb.mono HB_7.out.size))
                clear hb K1_7 K2_7 HB_7 y0 y1 y2 y3 y4 y5 z0 z1 z2 z3 z4 z5
                have y0 := cells_get K1_8.out 0 (v := .int .i64 (nth a 0)) rfl
                have y1 := cells_get K1_8.out 1 (v := .int .i64 (nth a 1)) rfl
                have y2 := cells_get K1_8.out 2 (v := .int .i64 (nth a 2)) rfl
                have y3 := cells_get K1_8.out 3 (v := .int .i64 (nth a 3)) rfl
                have y4 := cells_get K1_8.out 4 (v := .int .i64 (nth a 4)) rfl
                have y5 := cells_get K1_8.out 5 (v := .int .i64 (nth a 5)) rfl
                have z0 := cells_get K2_8.out 0 (v := .int .i64 (nth b 0)) rfl
                have z1 := cells_get K2_8.out 1 (v := .int .i64 (nth b 1)) rfl
                have z2 := cells_get K2_8.out 2 (v := .int .i64 (nth b 2)) rfl
                have z3 := cells_get K2_8.out 3 (v := .int .i64 (nth b 3)) rfl
                have z4 := cells_get K2_8.out 4 (v := .int .i64 (nth b 4)) rfl
                have z5 := cells_get K2_8.out 5 (v := .int .i64 (nth b 5)) rfl
                cases l2 with
                | true =>
                  have HC1 := Lib.hid (show cmpC a b = (1) by
                    show cmpAt a b 6 0 = _
                    rw [cmpAt_less, show lessAt b a 6 0 = true from HL2.out, show lessAt a b 6 0 = false from HL1.out]
                    try rfl)
                  have HC2 := Lib.hid (show cmpC b a = (-1) by
                    show cmpAt b a 6 0 = _
                    rw [cmpAt_neg, show cmpAt a b 6 0 = (1) from HC1.out]
                    try rfl)
                  have hwn : IntKind.i64.wrap (-(1)) = (-1) := by decide
                  clear y0 y1 y2 y3 y4 y5 z0 z1 z2 z3 z4 z5
                  go_wp2_with fail
                  refine (fixed24_any _).mono ?_
                  rintro e w9 ⟨rfl, hb⟩
                  have K1_9 := Lib.hid (heap_below K1_8.out hb)
                  have K2_9 := Lib.hid (heap_below K2_8.out hb)
                  have HB_9 := Lib.hid (HB_8.out.trans (hb.mono HB_8.out.size))
                  clear hb K1_8 K2_8 HB_8 
                  have y0 := cells_get K1_9.out 0 (v := .int .i64 (nth a 0)) rfl
                  have y1 := cells_get K1_9.out 1 (v := .int .i64 (nth a 1)) rfl
                  have y2 := cells_get K1_9.out 2 (v := .int .i64 (nth a 2)) rfl
                  have y3 := cells_get K1_9.out 3 (v := .int .i64 (nth a 3)) rfl
                  have y4 := cells_get K1_9.out 4 (v := .int .i64 (nth a 4)) rfl
                  have y5 := cells_get K1_9.out 5 (v := .int .i64 (nth a 5)) rfl
                  have z0 := cells_get K2_9.out 0 (v := .int .i64 (nth b 0)) rfl
                  have z1 := cells_get K2_9.out 1 (v := .int .i64 (nth b 1)) rfl
                  have z2 := cells_get K2_9.out 2 (v := .int .i64 (nth b 2)) rfl
                  have z3 := cells_get K2_9.out 3 (v := .int .i64 (nth b 3)) rfl
                  have z4 := cells_get K2_9.out 4 (v := .int .i64 (nth b 4)) rfl
                  have z5 := cells_get K2_9.out 5 (v := .int .i64 (nth b 5)) rfl
                  go_wp2_with fail
                  refine (compare_any _ a b _ HC1.out).mono ?_
                  rintro e w10 ⟨rfl, hb⟩
                  have K1_10 := Lib.hid (heap_below K1_9.out hb)
                  have K2_10 := Lib.hid (heap_below K2_9.out hb)
                  have HB_10 := Lib.hid (HB_9.out.trans (hb.mono HB_9.out.size))
                  clear hb K1_9 K2_9 HB_9 y0 y1 y2 y3 y4 y5 z0 z1 z2 z3 z4 z5
                  have y0 := cells_get K1_10.out 0 (v := .int .i64 (nth a 0)) rfl
                  have y1 := cells_get K1_10.out 1 (v := .int .i64 (nth a 1)) rfl
                  have y2 := cells_get K1_10.out 2 (v := .int .i64 (nth a 2)) rfl
                  have y3 := cells_get K1_10.out 3 (v := .int .i64 (nth a 3)) rfl
                  have y4 := cells_get K1_10.out 4 (v := .int .i64 (nth a 4)) rfl
                  have y5 := cells_get K1_10.out 5 (v := .int .i64 (nth a 5)) rfl
                  have z0 := cells_get K2_10.out 0 (v := .int .i64 (nth b 0)) rfl
                  have z1 := cells_get K2_10.out 1 (v := .int .i64 (nth b 1)) rfl
                  have z2 := cells_get K2_10.out 2 (v := .int .i64 (nth b 2)) rfl
                  have z3 := cells_get K2_10.out 3 (v := .int .i64 (nth b 3)) rfl
                  have z4 := cells_get K2_10.out 4 (v := .int .i64 (nth b 4)) rfl
                  have z5 := cells_get K2_10.out 5 (v := .int .i64 (nth b 5)) rfl
                  go_wp2_with fail
                  refine (compare_any _ b a _ HC2.out).mono ?_
                  rintro e w11 ⟨rfl, hb⟩
                  have K1_11 := Lib.hid (heap_below K1_10.out hb)
                  have K2_11 := Lib.hid (heap_below K2_10.out hb)
                  have HB_11 := Lib.hid (HB_10.out.trans (hb.mono HB_10.out.size))
                  clear hb K1_10 K2_10 HB_10 y0 y1 y2 y3 y4 y5 z0 z1 z2 z3 z4 z5
                  go_wp2
                  go_ret
                  exact ⟨rfl, HB_11.out⟩
                | false =>
                  have HC1 := Lib.hid (show cmpC a b = (0) by
                    show cmpAt a b 6 0 = _
                    rw [cmpAt_less, show lessAt b a 6 0 = false from HL2.out, show lessAt a b 6 0 = false from HL1.out]
                    try rfl)
                  have HC2 := Lib.hid (show cmpC b a = (0) by
                    show cmpAt b a 6 0 = _
                    rw [cmpAt_neg, show cmpAt a b 6 0 = (0) from HC1.out]
                    try rfl)
                  have hwn : IntKind.i64.wrap (-(0)) = (0) := by decide
                  clear y0 y1 y2 y3 y4 y5 z0 z1 z2 z3 z4 z5
                  go_wp2_with fail
                  refine (fixed24_any _).mono ?_
                  rintro e w9 ⟨rfl, hb⟩
                  have K1_9 := Lib.hid (heap_below K1_8.out hb)
                  have K2_9 := Lib.hid (heap_below K2_8.out hb)
                  have HB_9 := Lib.hid (HB_8.out.trans (hb.mono HB_8.out.size))
                  clear hb K1_8 K2_8 HB_8 
                  have y0 := cells_get K1_9.out 0 (v := .int .i64 (nth a 0)) rfl
                  have y1 := cells_get K1_9.out 1 (v := .int .i64 (nth a 1)) rfl
                  have y2 := cells_get K1_9.out 2 (v := .int .i64 (nth a 2)) rfl
                  have y3 := cells_get K1_9.out 3 (v := .int .i64 (nth a 3)) rfl
                  have y4 := cells_get K1_9.out 4 (v := .int .i64 (nth a 4)) rfl
                  have y5 := cells_get K1_9.out 5 (v := .int .i64 (nth a 5)) rfl
                  have z0 := cells_get K2_9.out 0 (v := .int .i64 (nth b 0)) rfl
                  have z1 := cells_get K2_9.out 1 (v := .int .i64 (nth b 1)) rfl
                  have z2 := cells_get K2_9.out 2 (v := .int .i64 (nth b 2)) rfl
                  have z3 := cells_get K2_9.out 3 (v := .int .i64 (nth b 3)) rfl
                  have z4 := cells_get K2_9.out 4 (v := .int .i64 (nth b 4)) rfl
                  have z5 := cells_get K2_9.out 5 (v := .int .i64 (nth b 5)) rfl
                  go_wp2_with fail
                  refine (compare_any _ a b _ HC1.out).mono ?_
                  rintro e w10 ⟨rfl, hb⟩
                  have K1_10 := Lib.hid (heap_below K1_9.out hb)
                  have K2_10 := Lib.hid (heap_below K2_9.out hb)
                  have HB_10 := Lib.hid (HB_9.out.trans (hb.mono HB_9.out.size))
                  clear hb K1_9 K2_9 HB_9 y0 y1 y2 y3 y4 y5 z0 z1 z2 z3 z4 z5
                  have y0 := cells_get K1_10.out 0 (v := .int .i64 (nth a 0)) rfl
                  have y1 := cells_get K1_10.out 1 (v := .int .i64 (nth a 1)) rfl
                  have y2 := cells_get K1_10.out 2 (v := .int .i64 (nth a 2)) rfl
                  have y3 := cells_get K1_10.out 3 (v := .int .i64 (nth a 3)) rfl
                  have y4 := cells_get K1_10.out 4 (v := .int .i64 (nth a 4)) rfl
                  have y5 := cells_get K1_10.out 5 (v := .int .i64 (nth a 5)) rfl
                  have z0 := cells_get K2_10.out 0 (v := .int .i64 (nth b 0)) rfl
                  have z1 := cells_get K2_10.out 1 (v := .int .i64 (nth b 1)) rfl
                  have z2 := cells_get K2_10.out 2 (v := .int .i64 (nth b 2)) rfl
                  have z3 := cells_get K2_10.out 3 (v := .int .i64 (nth b 3)) rfl
                  have z4 := cells_get K2_10.out 4 (v := .int .i64 (nth b 4)) rfl
                  have z5 := cells_get K2_10.out 5 (v := .int .i64 (nth b 5)) rfl
                  go_wp2_with fail
                  refine (compare_any _ b a _ HC2.out).mono ?_
                  rintro e w11 ⟨rfl, hb⟩
                  have K1_11 := Lib.hid (heap_below K1_10.out hb)
                  have K2_11 := Lib.hid (heap_below K2_10.out hb)
                  have HB_11 := Lib.hid (HB_10.out.trans (hb.mono HB_10.out.size))
                  clear hb K1_10 K2_10 HB_10 y0 y1 y2 y3 y4 y5 z0 z1 z2 z3 z4 z5
                  go_wp2
                  go_ret
                  exact ⟨rfl, HB_11.out⟩
theorem costOf_w (cs0 : List Value) (x : Rec) (cs1 : List Value) (q : List Root) (cs2 : List Value) (g : List Node) (cs3 : List Value) (g2 : List Node) (w : World) (h : recK.is w cs0 x) (hq : reqK.is w cs1 q) (hg : graphK.is w cs2 g) (hh : graphK.is w cs3 g2) :
    Calls Tryz.prog 3 #[.agg cs0.toArray, .agg cs1.toArray, .agg cs2.toArray, .agg cs3.toArray] w fun e w' => e = .returned (.bool true) ∧ Below w.heap.size w w' := by
  obtain ⟨v1, v2, rfl, h⟩ := h
  obtain ⟨vq, rfl, hq⟩ := hq
  obtain ⟨vg, rfl, hg⟩ := hg
  obtain ⟨vh, rfl, hh⟩ := hh
  exact costOf_any w v1 v2 vq vg vh x q g g2 h hq hg hh
end Go.Proofs.YtaahdhpljlkfjaaGreat.Rc

/- 'CostOf' holds at every input: the law's walk returns true and writes nothing that was there; so the row holds. No condition. -/
namespace Go.Proofs.YtaahdhpljlkfjaaGreat.costOf
open Go.ChangeShapes Go.WideShapes Go.ChangeAt Go.RowKit
open Go.ChangeMaps (open_string shut_string)
set_option linter.unusedVariables false

theorem own : ownKnob Tryz.prog.godebug = none := by kernel_rfl
theorem laidOut : laidOutB Tryz.prog = true := by kernel_rfl

set_option maxRecDepth 100000 in
theorem lifted (os : Os) (started : os.Started) (H : Type) (enc : TypeId × Value → H) :
    ReturnsInHanded {} Tryz.checked os 3 .any (Rows.costOfSpec.pre6 enc Tryz.prog Tryz.f3 Rows.costOfRow.domain false) (Rows.costOfSpec.post enc Tryz.prog Tryz.f3 false true false false) := by
  refine returnsInHanded_of_change (C := Tryz.checked) own started (by kernel_rfl) Tryz.func3
    (ChangeSpec.witness6 (enc := enc) (C := Tryz.checked) false ⟨#[], #[.agg #[.slice none 0 0, .slice none 0 0], .agg #[.slice none 0 0], .agg #[.slice none 0 0], .agg #[.slice none 0 0]], []⟩ 8 (by kernel_rfl) (by kernel_rfl) (by kernel_rfl) (by kernel_rfl)) ?_
  intro W base args ds gs before hval0 hW hcnd _
  have hval : ∀ (j : Nat) t v, Tryz.f3.params[j]? = some t → args[j]? = some v → Value.okWide Tryz.prog W .any base t v := hval0
  have hW' := hW
  obtain ⟨p, q, hA0, hV, rfl, hfz, hnd⟩ := hW
  have hA : DataW.TrodAll enc Tryz.prog W 0 (fun _ => true) true Tryz.f3.params.toList args.toList ds p := hA0
  rw [Tryz.params3] at hA hval
  obtain ⟨v0, vs0, d0, ds0, p0, q0, hargs, rfl, rfl, h0, r0⟩ := trodAll_cons hA
  obtain ⟨v1, vs1, d1, ds1, p1, q1, rfl, rfl, rfl, h1, r1⟩ := trodAll_cons r0
  obtain ⟨v2, vs2, d2, ds2, p2, q2, rfl, rfl, rfl, h2, r2⟩ := trodAll_cons r1
  obtain ⟨v3, vs3, d3, ds3, p3, q3, rfl, rfl, rfl, h3, r3⟩ := trodAll_cons r2
  obtain ⟨rfl, rfl, rfl⟩ := trodAll_nil r3
  obtain rfl : args = #[v0, v1, v2, v3] := by cases args; simp_all
  obtain ⟨rfl, rfl⟩ := trodVars_none hV
  have k0 := h0
  have lt0 : ∀ x ∈ p0, x.block < W.heap.size := by obtain ⟨m, hm⟩ := k0; exact DataW.trod_lt m _ _ _ hm
  have k1 := h1
  have lt1 : ∀ x ∈ p1, x.block < W.heap.size := by obtain ⟨m, hm⟩ := k1; exact DataW.trod_lt m _ _ _ hm
  have k2 := h2
  have lt2 : ∀ x ∈ p2, x.block < W.heap.size := by obtain ⟨m, hm⟩ := k2; exact DataW.trod_lt m _ _ _ hm
  have k3 := h3
  have lt3 : ∀ x ∈ p3, x.block < W.heap.size := by obtain ⟨m, hm⟩ := k3; exact DataW.trod_lt m _ _ _ hm
  obtain ⟨cs0, z0, rfl, w0⟩ := Rc.open_val Tryz.underlying25 (fun h => Rc.open_rec h) (hval 0 25 v0 rfl rfl) h0
  obtain ⟨cs1, z1, rfl, w1⟩ := Rc.open_val Tryz.underlying28 (fun h => Rc.open_req h) (hval 1 28 v1 rfl rfl) h1
  obtain ⟨cs2, z2, rfl, w2⟩ := Rc.open_val Tryz.underlying31 (fun h => Rc.open_graph h) (hval 2 31 v2 rfl rfl) h2
  obtain ⟨cs3, z3, rfl, w3⟩ := Rc.open_val Tryz.underlying31 (fun h => Rc.open_graph h) (hval 3 31 v3 rfl rfl) h3
  clear hA0 hval0
  refine (Rc.costOf_w cs0 z0 cs1 z1 cs2 z2 cs3 z3 W w0 w1 w2 w3).mono fun e W' ⟨he, bel⟩ => ?_
  subst he
  exact ⟨_, rfl, _, _, _, [], _, [], hW', trodAll_mk1 (shut_bool Tryz.underlying4 _), (trodAll_cons_mk (Below.trod laidOut (by kernel_rfl) (of_decide_eq_true (by kernel_rfl)) k0 bel lt0) (trodAll_cons_mk (Below.trod laidOut (by kernel_rfl) (of_decide_eq_true (by kernel_rfl)) k1 bel lt1) (trodAll_cons_mk (Below.trod laidOut (by kernel_rfl) (of_decide_eq_true (by kernel_rfl)) k2 bel lt2) (trodAll_cons_mk (Below.trod laidOut (by kernel_rfl) (of_decide_eq_true (by kernel_rfl)) k3 bel lt3) trodAll_mk0)))), rfl, bel.frame _, fun h => by cases h⟩

theorem proved : Rows.CostOfSaid :=
  OpenClaim.holds_of_wide 3 Tryz.f3 rfl rfl rfl rfl rfl rfl rfl ⟨rfl, rfl, rfl, rfl, rfl⟩ rfl rfl rfl rfl rfl (by kernel_rfl) Tryz.func3 (by kernel_rfl)
    (of_decide_eq_true (by kernel_rfl)) (by unfold Func.isWrapper; first | (rw [if_pos (by decide +kernel)]; kernel_rfl) | (rw [if_neg (by decide +kernel)]; exact ⟨rfl, rfl⟩))
    (fun os started H enc _ => lifted os started H enc)
end Go.Proofs.YtaahdhpljlkfjaaGreat.costOf
