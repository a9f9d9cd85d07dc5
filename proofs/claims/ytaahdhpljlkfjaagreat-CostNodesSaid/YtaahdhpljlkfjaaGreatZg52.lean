/- The document's word on what is preferred. -/
import Derived.Test.YtaahdhpljlkfjaaGreatZg51
import Derived.Test.YtaahdhpljlkfjaaGreatZg48
namespace Go.Proofs.YtaahdhpljlkfjaaGreat.Rc
open Go.RowKit Go.Sort

set_option maxRecDepth 100000 in
set_option maxHeartbeats 6400000 in
theorem refPrefer_any (w : World) (v1 v2 : Value) (x : Rec) (i : Nat) (h : IsRec w v1 v2 x) (hi : i < x.prefs.length) (hl : x.pkgs.length ≤ 1000) :
    Calls Tryz.prog 38 #[.agg #[v1, v2], .int .i64 (i : Int)] w fun e w' => e = .returned (.bool (preferB x i)) ∧ Below w.heap.size w w' := by
  obtain ⟨A1, L1, c1, A2, L2, c2, rfl, rfl, hL1, hL2, hc1, hm1, hc2, hm2⟩ := rec_box h
  have hiL : i < L2 := by omega
  have hp := h.prefs
  obtain ⟨b, off, u, e0, hbl, hs, hr, hw, p0, p1, p2⟩ := pref_at h.prefs hiL
  obtain ⟨B, M, d, rfl, hM, hd1, hd2⟩ := hr.open'
  unfold maxLen at hd2
  unfold preferB aheadB
  generalize hnf : nth x.prefs i = f at hs hr hw hM p0 p1 p2
  have hx := Bxs.two w #[.slice A1 L1 c1, .slice A2 L2 c2] 25 #[.string f.virt, .slice B M d, .int .i64 f.line] 53
  obtain ⟨q1, hq1⟩ : ∃ q, ((x.prefs.take i).any fun x => virtIs x f.virt) = q := ⟨_, rfl⟩
  obtain ⟨q2, hq2⟩ : ∃ q, virtB x f.virt = q := ⟨_, rfl⟩
  obtain ⟨q3, hq3⟩ : ∃ q, twiceB f.names = q := ⟨_, rfl⟩
  obtain ⟨q4, hq4⟩ : ∃ q, f.names.all (preferN x f.virt) = q := ⟨_, rfl⟩
  obtain ⟨rr, hrr⟩ : ∃ r, (!q1 && q2 && !q3 && q4) = r := ⟨_, rfl⟩
  rw [show ((x.prefs.take i).any fun o => eqS o.virt f.virt) = q1 from hq1, hq2, hq3, hq4, hrr]
  have HRR := Lib.hid hrr
  have HQ1 := Lib.hid hq1
  have HQ2 := Lib.hid hq2
  have HQ3 := Lib.hid hq3
  have HQ4 := Lib.hid hq4
  have HR := Lib.hid h
  have HF := Lib.hid hr
  have HX := Lib.hid hx
  have HM := Lib.hid hM
  have HL := Lib.hid hl
  have HIL := Lib.hid hi
  have HL1 := Lib.hid hL1
  have k0 : (0 : Int) ≤ (i : Int) := by omega
  have k1 : (i : Int) < (L2 : Int) := by omega
  subst e0
  clear h hp hr hx hL1 hL2 hq1 hq2 hq3 hq4 hnf hi hM hw hs hl hrr
  go_enter Tryz.func38, Tryz.ntmps38
  go_wp2
  clear p0 p1 p2
  go_loopw [6] (fun t wr => ∃ k : Nat, k ≤ i ∧ t = .int .i64 k ∧ Hid (((x.prefs.take i).take k).any (fun x => virtIs x f.virt) = false) ∧ Bxs w wr [(#[.slice A1 L1 c1, .slice (some ⟨b, off, none⟩) L2 c2], 25), (#[.string f.virt, .slice B M d, .int .i64 f.line], 53)]) (fun t _ => i - (RowKit.intOf t).toNat)
  case atStart => exact ⟨0, Nat.zero_le _, rfl, Lib.hid (by simp), HX.out⟩
  case round =>
    clear HX
    obtain ⟨k, hk, rfl, hall, hx⟩ := hrel
    have HX := Lib.hid hx
    by_cases hlt : k < i
    · obtain ⟨b2, off2, u2, e2, hb2, hs2, hr2, hw2, d0, d1, d2⟩ := pref_at (HR.out.prefs.below hx.bel (Nat.le_refl _)) (show k < L2 by omega)
      injection e2 with e2
      injection e2 with e2 e3
      subst e2 e3
      have x1 := hx.get0 1 (v := .slice (some ⟨b, off, none⟩) L2 c2) rfl rfl
      have y0 := hx.get 1 0 (v := .string f.virt) rfl rfl
      have hkl : k < (x.prefs.take i).length := by rw [List.length_take]; have := HIL.out; omega
      have HAS := Lib.hid (any_snoc hkl (fun x => virtIs x f.virt))
      have HNT := Lib.hid (nth_take (l := x.prefs) hlt)
      have HAA := Lib.hid (fun h => any_at (l := x.prefs.take i) (p := fun x => virtIs x f.virt) hkl h)
      have g0 : (0 : Int) ≤ (k : Int) := by omega
      have g1 : (k : Int) < (L2 : Int) := by omega
      clear hx hkl hs2 hr2 hw2 d1 d2
      cases he : virtIs (nth x.prefs k) f.virt with
      | true =>
        have f1 : ((nth x.prefs k).virt.toList == f.virt.toList) = true := he
        have HE := Lib.hid (show rr = false by
          have : q1 = true := by rw [← HQ1.out]; exact HAA.out (by rw [HNT.out]; exact he)
          rw [← HRR.out, this]; rfl)
        clear he
        go_wp2_with fail
        go_quiet (fail)
        go_wp2
        go_ret
        exact ⟨ret_bool HE.out.symm, below_draws HX.out.bel _⟩
      | false =>
        have f1 : ((nth x.prefs k).virt.toList == f.virt.toList) = false := he
        have hn' : Hid (((x.prefs.take i).take (k + 1)).any (fun x => virtIs x f.virt) = false) := Lib.hid (by rw [HAS.out, hall.out, HNT.out]; simpa using he)
        clear he
        go_wp2_with fail
        go_quiet (fail)
        go_wp2
        go_roundw
        case rel => exact ⟨k + 1, by omega, by go_num, hn', HX.out.drewN _⟩
        case measure => simp [RowKit.intOf]; omega
    · obtain rfl : i = k := by omega
      have HE1 := Lib.hid (show q1 = false by
        have h := hall.out
        rw [List.take_of_length_le (by rw [List.length_take]; omega)] at h
        rw [← HQ1.out]; exact h)
      have y1 := hx.get 1 1 (v := .slice B M d) rfl rfl
      clear hx hlt
      go_wp2
      clear y1
      go_loopw [31] (fun t wr => ∃ k : Nat, k ≤ M ∧ t = .int .i64 k ∧ Hid ((f.names.take k).all (preferN x f.virt) = true) ∧ Bxs w wr [(#[.slice A1 L1 c1, .slice (some ⟨b, off, none⟩) L2 c2], 25), (#[.string f.virt, .slice B M d, .int .i64 f.line], 53)]) (fun t _ => M - (RowKit.intOf t).toNat)
      case atStart => exact ⟨0, Nat.zero_le _, rfl, Lib.hid (by simp), HX.out⟩
      case round =>
        clear HX hall
        obtain ⟨k, hk, rfl, hall, hx⟩ := hrel
        have HX := Lib.hid hx
        by_cases hlt : k < M
        · obtain ⟨b2, off2, rfl, hb2, hs2, d0⟩ := str_at (HF.out.below hx.bel (Nat.le_refl _)) hlt
          have hkl : k < f.names.length := by rw [← HM.out]; exact hlt
          have HSN := Lib.hid (all_snoc hkl (preferN x f.virt))
          have HAT := Lib.hid (fun h => all_at (l := f.names) (p := preferN x f.virt) hkl h)
          generalize hnm : nth f.names k = s at hs2 d0 HSN HAT
          obtain ⟨n, hn⟩ : ∃ n, findR x s = n := ⟨_, rfl⟩
          have HN := Lib.hid hn
          have r0 := cell_regrown (hx.get0 0 (v := .slice A1 L1 c1) rfl rfl)
          have r1 := cell_regrown (hx.get0 1 (v := .slice (some ⟨b, off, none⟩) L2 c2) rfl rfl)
          have r2 := cell_regrown (hx.get 1 1 (v := .slice (some ⟨b2, off2, none⟩) M d) rfl rfl)
          have r3 := cell_regrown d0
          have CF := Lib.hid (show ∀ dd os, Calls Tryz.prog 26 #[.agg #[.slice A1 L1 c1, .slice (some ⟨b, off, none⟩) L2 c2], .string s] (grow (redrawn wr dd) os) fun e w'' => e = .returned (.int .i64 n) ∧ ∃ p : Regrown, w'' = grow (redrawn wr p.d) p.os from
            fun dd os => Calls.regrown_of (refFind_is _ _ _ x s ((HR.out.below HX.out.bel (Nat.le_refl _)).below (below_regrown wr dd os) (Nat.le_refl _)) n HN.out))
          have g0 : (0 : Int) ≤ (k : Int) := by omega
          have g1 : (k : Int) < (M : Int) := by omega
          clear hx hkl hnm hs2 d0
          go_wp2_with fail
          refine wp_region_quiet_below (by kernel_rfl) (by kernel_rfl) ?_
          repeat (go_big_quiet_step ((go_at_call 26; with_reducible exact CF.out _ _)))
          refine wpQuiet_nil ?_
          intro _ hw'
          obtain ⟨⟨dq, osq⟩, hw''⟩ := hw'
          subst hw''
          have HX3 := Lib.hid (HX.out.step (below_regrown wr dq osq))
          clear r0 r1 r2 r3 g0 g1
          generalize grow (redrawn wr dq) osq = w3 at *
          cases hkn : knownB x s with
          | false =>
            obtain rfl : n = -1 := by rw [← hn]; exact find_none hkn
            have HE := Lib.hid (show rr = false by
              have : q4 = false := by rw [← HQ4.out]; exact HAT.out (by unfold preferN; rw [hkn]; rfl)
              rw [← HRR.out, this, Bool.and_false])
            clear hkn hn
            go_wp2_with fail
            go_quiet (fail)
            go_wp2
            go_ret
            exact ⟨ret_bool HE.out.symm, below_draws HX3.out.bel _⟩
          | true =>
            obtain ⟨m, hfm, hml, hpk⟩ := find_pkg hkn
            obtain rfl : n = (m : Int) := by rw [← hn]; exact hfm
            have hmL : m < L1 := by rw [HL1.out]; exact hml
            obtain ⟨q, hq⟩ : ∃ q, hasS (nth x.pkgs m).prov f.virt = q := ⟨_, rfl⟩
            have HPN := Lib.hid (show preferN x f.virt s = q by unfold preferN; rw [hkn, hpk, hq]; rfl)
            have HQ := Lib.hid hq
            clear hkn hfm hml hpk hq hn
            obtain ⟨b3, off3, e1, e2, e3, e4, e5, e6, rfl, hb3, hp, p0, p1, p2, p3, p4, p5, p6, p7⟩ := pkg_at (HR.out.pkgs.below HX3.out.bel (Nat.le_refl _)) hmL
            obtain ⟨a3, n3, k3, rfl⟩ := hp.prov.sl
            have x0 := HX3.out.get0 0 (v := .slice (some ⟨b3, off3, none⟩) L1 c1) rfl rfl
            have y0 := HX3.out.get 1 0 (v := .string f.virt) rfl rfl
            have m0 : (0 : Int) ≤ (m : Int) := by omega
            have m1 : (m : Int) < (L1 : Int) := by omega
            have m2 : decide ((m : Int) < 0) = false := by simp
            have CQ := Lib.hid (fun n => refHas_is (w3.drewN n) (.slice a3 n3 k3) _ f.virt (hp.prov.below (below_draws (Below.refl w3.heap.size w3) n) (Nat.le_refl _)) q HQ.out)
            clear hp p0 p1 p2 p3 p5 p6 p7
            go_wp2_with fail
            go_quiet ((go_at_call 32; exact quiet_eq (CQ.out _)))
            cases q with
            | true =>
              have hn : Hid ((f.names.take (k + 1)).all (preferN x f.virt) = true) := Lib.hid (by rw [HSN.out, hall.out, HPN.out]; rfl)
              go_wp2
              go_roundw
              case rel => exact ⟨k + 1, by omega, by go_num, hn, HX3.out.drewN _⟩
              case measure => simp [RowKit.intOf]; omega
            | false =>
              have HE := Lib.hid (show rr = false by
                have : q4 = false := by rw [← HQ4.out]; exact HAT.out HPN.out
                rw [← HRR.out, this, Bool.and_false])
              go_wp2
              go_ret
              exact ⟨ret_bool HE.out.symm, below_draws HX3.out.bel _⟩
        · obtain rfl : M = k := by omega
          have HE4 := Lib.hid (show rr = (q2 && !q3) by
            have h := hall.out
            rw [HM.out, List.take_length] at h
            have h4 : q4 = true := by rw [← HQ4.out]; exact h
            rw [← HRR.out, HE1.out, h4]; simp)
          have x0 := hx.get0 0 (v := .slice A1 L1 c1) rfl rfl
          have x1 := hx.get0 1 (v := .slice (some ⟨b, off, none⟩) L2 c2) rfl rfl
          have y0 := hx.get 1 0 (v := .string f.virt) rfl rfl
          clear hx hlt
          go_wp2_with fail
          refine (refVirtual_is _ _ _ x f.virt (HR.out.below HX.out.bel (Nat.le_refl _)) HL.out q2 HQ2.out).mono ?_
          rintro e w2 ⟨rfl, hb⟩
          have HX2 := Lib.hid (HX.out.step hb)
          clear hb x0 x1 y0
          cases q2 with
          | false =>
            go_wp2
            go_ret
            exact ⟨ret_bool HE4.out.symm, HX2.out.bel⟩
          | true =>
          have y1 := HX2.out.get 1 1 (v := .slice B M d) rfl rfl
          go_wp2_with fail
          refine (refTwice_is _ _ _ (HF.out.below HX2.out.bel (Nat.le_refl _)) q3 HQ3.out).mono ?_
          rintro e w3 ⟨rfl, hb⟩
          have HX3 := Lib.hid (HX2.out.step hb)
          clear hb y1
          cases q3 <;> (go_wp2; go_ret; exact ⟨ret_bool HE4.out.symm, HX3.out.bel⟩)
theorem refPrefer_is (w : World) (v1 v2 : Value) (x : Rec) (i : Nat) (h : IsRec w v1 v2 x) (hi : i < x.prefs.length) (hl : x.pkgs.length ≤ 1000) (b : Bool) (hb : preferB x i = b) :
    Calls Tryz.prog 38 #[.agg #[v1, v2], .int .i64 (i : Int)] w fun e w' => e = .returned (.bool b) ∧ Below w.heap.size w w' := by subst hb; exact refPrefer_any w v1 v2 x i h hi hl
end Go.Proofs.YtaahdhpljlkfjaaGreat.Rc

/- The document's word on a package's rules. -/
namespace Go.Proofs.YtaahdhpljlkfjaaGreat.Rc
open Go.RowKit

set_option maxRecDepth 100000 in
set_option maxHeartbeats 12800000 in
theorem refRules_any (w : World) (v1 v2 u1 u2 u3 u4 u5 u6 : Value) (x : Rec) (p : Pkg) (h : IsRec w v1 v2 x) (hp : IsPkg w u1 u2 u3 u4 u5 u6 p) (hl : x.pkgs.length ≤ 1000) :
    Calls Tryz.prog 37 #[.agg #[v1, v2], .agg #[.string p.name, .int .i64 p.line, u1, u2, u3, u4, u5, u6]] w (GivesP (ruleProb x p) w) := by
  obtain ⟨A1, L1, c1, A2, L2, c2, rfl, rfl, hr⟩ := rec_box h
  obtain ⟨⟨a1, n1, k1, rfl⟩, ⟨a2, n2, k2, rfl⟩, ⟨a3, n3, k3, rfl⟩, ⟨a4, n4, k4, rfl⟩, ⟨a5, n5, k5, rfl⟩, ⟨a6, n6, k6, rfl⟩⟩ := hp.sls
  obtain ⟨hd1, hd2⟩ := hp.deps.cap
  obtain ⟨hcc1, hcc2⟩ := hp.cons.cap
  have HLD := Lib.hid hp.deps.len
  have HLC := Lib.hid hp.cons.len
  have HX := Lib.hid (Bxs.three w #[.slice A1 L1 c1, .slice A2 L2 c2] 25 #[.string p.name, .int .i64 p.line, .slice a1 n1 k1, .slice a2 n2 k2, .slice a3 n3 k3, .slice a4 n4 k4, .slice a5 n5 k5, .slice a6 n6 k6] 51 #[.int .u8 0, .int .i64 0] 66)
  have HR := Lib.hid h
  have HP := Lib.hid hp
  have HL := Lib.hid hl
  obtain ⟨rr, hrr⟩ : ∃ r, ruleProb x p = r := ⟨_, rfl⟩
  rw [hrr]
  have HRR := Lib.hid hrr
  clear h hp hr hrr hl
  go_enter Tryz.func37, Tryz.ntmps37
  go_wp2
  go_loopw [14] (fun i wr => ∃ k : Nat, k ≤ n4 ∧ i = .int .i64 k ∧ Hid (∀ j, j < k → (depProb x p (nth p.deps j)).1 = 0) ∧ Bxs w wr [(#[.slice A1 L1 c1, .slice A2 L2 c2], 25), (#[.string p.name, .int .i64 p.line, .slice a1 n1 k1, .slice a2 n2 k2, .slice a3 n3 k3, .slice a4 n4 k4, .slice a5 n5 k5, .slice a6 n6 k6], 51), (#[.int .u8 0, .int .i64 0], 66)]) (fun i _ => n4 - (RowKit.intOf i).toNat)
  case atStart => exact ⟨0, Nat.zero_le _, rfl, Lib.hid (fun j hj => by omega), HX.out⟩
  case round =>
    clear HX
    obtain ⟨k, hk, rfl, hall, hx⟩ := hrel
    have HX := Lib.hid hx
    by_cases hlt : k < n4
    · obtain ⟨b, off, s1, s2, s3, s4, rfl, hb, hsa, hsb, hwf, d0, d1, d2, d3, d4, d5, d6⟩ := two_at (HP.out.deps.below hx.bel (Nat.le_refl _)) hlt
      obtain ⟨B1, M1, e1, rfl⟩ := hsa.spans.sl
      obtain ⟨B2, M2, e2, rfl⟩ := hsa.sets.sl
      obtain ⟨B3, M3, e3, rfl⟩ := hsb.spans.sl
      obtain ⟨B4, M4, e4, rfl⟩ := hsb.sets.sl
      have hkl : k < p.deps.length := by rw [← HLD.out]; exact hlt
      generalize hdd : nth p.deps k = d at hsa hsb hwf d0 d1 d2 d3 d4 d5 d6
      have HDD := Lib.hid hdd
      have HKL := Lib.hid hkl
      have hbd := Boxed.new wr #[.string d.a.name, .slice B1 M1 e1, .slice B2 M2 e2, .string d.b.name, .slice B3 M3 e3, .slice B4 M4 e4, .int .i64 d.line] 90
      have hx1 := hx.step hbd.bel
      have hsa1 := hsa.below hbd.bel (Nat.le_refl _)
      have hsb1 := hsb.below hbd.bel (Nat.le_refl _)
      have r5 := hx.get 1 5 (v := .slice (some ⟨b, off, none⟩) n4 k4) rfl rfl
      have q0 := cell_alloc_l (.cells #[.string d.a.name, .slice B1 M1 e1, .slice B2 M2 e2, .string d.b.name, .slice B3 M3 e3, .slice B4 M4 e4, .int .i64 d.line] 90) (hx.get0 0 (v := .slice A1 L1 c1) rfl rfl)
      have q1 := cell_alloc_l (.cells #[.string d.a.name, .slice B1 M1 e1, .slice B2 M2 e2, .string d.b.name, .slice B3 M3 e3, .slice B4 M4 e4, .int .i64 d.line] 90) (hx.get0 1 (v := .slice A2 L2 c2) rfl rfl)
      generalize hw1 : wr.alloc (.cells #[.string d.a.name, .slice B1 M1 e1, .slice B2 M2 e2, .string d.b.name, .slice B3 M3 e3, .slice B4 M4 e4, .int .i64 d.line] 90) = w1 at hbd hx1 hsa1 hsb1
      have HW1 := Lib.hid hw1
      have HBD := Lib.hid hbd
      have HX1 := Lib.hid hx1
      have HSA := Lib.hid hsa1
      have HSB := Lib.hid hsb1
      obtain ⟨c, hc⟩ : ∃ c, wishCode x d.a = c := ⟨_, rfl⟩
      have HC := Lib.hid hc
      clear hx hdd hkl hbd hx1 hsa hsb hsa1 hsb1 hw1 hc hwf HX
      go_wp2_with fail
      rw [HW1.out]
      refine (refWish_is _ _ _ _ _ x d.a (HR.out.below HX1.out.bel (Nat.le_refl _)) HSA.out HL.out c HC.out).mono ?_
      rintro e w2 ⟨rfl, hb2⟩
      have HX2 := Lib.hid (HX1.out.step hb2)
      have HB2 := Lib.hid (HBD.out.step hb2)
      have HSB2 := Lib.hid (HSB.out.below hb2 (Nat.le_refl _))
      clear hb2 q0 q1 r5 d0 d1 d2 d3 d4 d5 d6
      have t6 := HB2.out.get 6 (v := .int .i64 d.line) rfl
      by_cases hc0 : c = 0
      · subst hc0
        have t5 := HB2.out.get 5 (v := .slice B4 M4 e4) rfl
        have y0 := HX2.out.get 1 0 (v := .string p.name) rfl rfl
        have y1 := HX2.out.get 1 1 (v := .int .i64 p.line) rfl rfl
        have y2 := HX2.out.get 1 2 (v := .slice a1 n1 k1) rfl rfl
        have y3 := HX2.out.get 1 3 (v := .slice a2 n2 k2) rfl rfl
        have y4 := HX2.out.get 1 4 (v := .slice a3 n3 k3) rfl rfl
        have y5 := HX2.out.get 1 5 (v := .slice (some ⟨b, off, none⟩) n4 k4) rfl rfl
        have y6 := HX2.out.get 1 6 (v := .slice a5 n5 k5) rfl rfl
        have y7 := HX2.out.get 1 7 (v := .slice a6 n6 k6) rfl rfl
        obtain ⟨s, hs⟩ : ∃ s, settsB p d.b.sets = s := ⟨_, rfl⟩
        have HS := Lib.hid hs
        clear hs
        go_wp2_with fail
        refine (refSettings_is _ _ _ _ _ _ _ _ p d.b.sets (HP.out.below HX2.out.bel (Nat.le_refl _)) HSB2.out.sets s HS.out).mono ?_
        rintro e w3 ⟨rfl, hb3⟩
        have HX3 := Lib.hid (HX2.out.step hb3)
        have HB3 := Lib.hid (HB2.out.step hb3)
        clear hb3 t5 t6 y0 y1 y2 y3 y4 y5 y6 y7
        cases s with
        | true =>
          have HPK := Lib.hid (show (depProb x p (nth p.deps k)).1 = 0 by rw [HDD.out]; unfold depProb settCode; rw [if_pos HC.out, HS.out]; rfl)
          have hn : Hid (∀ j, j < k + 1 → (depProb x p (nth p.deps j)).1 = 0) := Lib.hid (fun j hj => by
            by_cases e : j = k
            · rw [e]; exact HPK.out
            · exact hall.out j (by omega))
          go_wp2
          go_roundw
          case rel => exact ⟨k + 1, by omega, by go_num, hn, HX3.out⟩
          case measure => simp [RowKit.intOf]; omega
        | false =>
          have HE := Lib.hid (show rr = (8, d.line) by
            rw [← HRR.out, ← HDD.out]
            exact ruleProb_dep HKL.out hall.out (by rw [HDD.out]; unfold depProb settCode; rw [if_pos HC.out, HS.out]; rfl) (by decide))
          have t6 := HB3.out.get 6 (v := .int .i64 d.line) rfl
          have z0 := HX3.out.get 2 0 (v := .int .u8 0) rfl rfl
          have z1 := HX3.out.get 2 1 (v := .int .i64 0) rfl rfl
          have g0 := HX3.out.free 2 0 rfl
          have g1 := HX3.out.free 2 1 rfl
          go_wp2
          refine bodyPost_ret (v := .agg #[.int .u8 8, .int .i64 d.line]) (by simp [results, Tryz.results37, go_sem, World.cell?_setCell_same', z0, z1]) rfl ⟨agg_ret HE.out, ((HX3.out.bel.setCell (by show w.heap.size ≤ w.heap.size + 1 + 1; omega) _).setCell (by show w.heap.size ≤ w.heap.size + 1 + 1; omega) _)⟩
      · obtain ⟨f1, f2⟩ := int_ne hc0
        have HE := Lib.hid (show rr = (c, d.line) by
          rw [← HRR.out, ← HDD.out]
          exact ruleProb_dep HKL.out hall.out (by rw [HDD.out]; unfold depProb; rw [HC.out, if_neg hc0]) hc0)
        clear hc0
        have z0 := HX2.out.get 2 0 (v := .int .u8 0) rfl rfl
        have z1 := HX2.out.get 2 1 (v := .int .i64 0) rfl rfl
        have g0 := HX2.out.free 2 0 rfl
        have g1 := HX2.out.free 2 1 rfl
        go_wp2
        refine bodyPost_ret (v := .agg #[.int .u8 c, .int .i64 d.line]) (by simp [results, Tryz.results37, go_sem, World.cell?_setCell_same', z0, z1]) rfl ⟨agg_ret HE.out, ((HX2.out.bel.setCell (by show w.heap.size ≤ w.heap.size + 1 + 1; omega) _).setCell (by show w.heap.size ≤ w.heap.size + 1 + 1; omega) _)⟩
    · obtain rfl : n4 = k := by omega
      have HD := Lib.hid (show ∀ j, j < p.deps.length → (depProb x p (nth p.deps j)).1 = 0 from fun j hj => hall.out j (by rw [HLD.out]; exact hj))
      have y6 := HX.out.get 1 6 (v := .slice a5 n5 k5) rfl rfl
      clear hx
      go_wp2
      clear y6
      go_loopw [46] (fun i wr => ∃ k : Nat, k ≤ n5 ∧ i = .int .i64 k ∧ Hid (∀ j, j < k → (conProb x p (nth p.cons j)).1 = 0) ∧ Bxs w wr [(#[.slice A1 L1 c1, .slice A2 L2 c2], 25), (#[.string p.name, .int .i64 p.line, .slice a1 n1 k1, .slice a2 n2 k2, .slice a3 n3 k3, .slice a4 n4 k4, .slice a5 n5 k5, .slice a6 n6 k6], 51), (#[.int .u8 0, .int .i64 0], 66)]) (fun i _ => n5 - (RowKit.intOf i).toNat)
      case atStart => exact ⟨0, Nat.zero_le _, rfl, Lib.hid (fun j hj => by omega), HX.out⟩
      case round =>
        clear HX hall
        obtain ⟨k, hk, rfl, hall, hx⟩ := hrel
        have HX := Lib.hid hx
        by_cases hlt : k < n5
        · obtain ⟨b, off, s1, s2, s3, s4, rfl, hb, hsa, hsb, hwf, d0, d1, d2, d3, d4, d5, d6⟩ := two_at (HP.out.cons.below hx.bel (Nat.le_refl _)) hlt
          obtain ⟨B1, M1, e1, rfl⟩ := hsa.spans.sl
          obtain ⟨B2, M2, e2, rfl⟩ := hsa.sets.sl
          obtain ⟨B3, M3, e3, rfl⟩ := hsb.spans.sl
          obtain ⟨B4, M4, e4, rfl⟩ := hsb.sets.sl
          have hkl : k < p.cons.length := by rw [← HLC.out]; exact hlt
          generalize hdd : nth p.cons k = d at hsa hsb hwf d0 d1 d2 d3 d4 d5 d6
          have HDD := Lib.hid hdd
          have HKL := Lib.hid hkl
          have hbd := Boxed.new wr #[.string d.a.name, .slice B1 M1 e1, .slice B2 M2 e2, .string d.b.name, .slice B3 M3 e3, .slice B4 M4 e4, .int .i64 d.line] 92
          have hx1 := hx.step hbd.bel
          have hsa1 := hsa.below hbd.bel (Nat.le_refl _)
          have hsb1 := hsb.below hbd.bel (Nat.le_refl _)
          have r6 := hx.get 1 6 (v := .slice (some ⟨b, off, none⟩) n5 k5) rfl rfl
          have q0 := cell_alloc_l (.cells #[.string d.a.name, .slice B1 M1 e1, .slice B2 M2 e2, .string d.b.name, .slice B3 M3 e3, .slice B4 M4 e4, .int .i64 d.line] 92) (hx.get0 0 (v := .slice A1 L1 c1) rfl rfl)
          have q1 := cell_alloc_l (.cells #[.string d.a.name, .slice B1 M1 e1, .slice B2 M2 e2, .string d.b.name, .slice B3 M3 e3, .slice B4 M4 e4, .int .i64 d.line] 92) (hx.get0 1 (v := .slice A2 L2 c2) rfl rfl)
          have HX1 := Lib.hid hx1
          have HBD := Lib.hid hbd
          have HSA := Lib.hid hsa
          have HSB := Lib.hid hsb1
          obtain ⟨s, hs⟩ : ∃ s, settsB p d.a.sets = s := ⟨_, rfl⟩
          have HS := Lib.hid hs
          have HB0 := Lib.hid (show d.b.name.toList = [] → (conProb x p (nth p.cons k)).1 = (if settsB p d.a.sets then 0 else 8) from fun he => by
            have e : eqS d.b.name noneS = true := by
              show (d.b.name.toList == noneS.toList) = true
              rw [he, show noneS.toList = [] by rw [Lib.toList_data]; rfl]; rfl
            rw [HDD.out]; unfold conProb settCode
            rw [e]
            split <;> simp_all)
          clear hsa1 hsb1 hx1 hbd hsa hsb hs hx hdd hkl hwf HX
          cases hnm : eqS d.b.name noneS with
          | true =>
            have hE : d.b.name.toList = [] := by rw [eqS_none hnm, Lib.toList_data]
            have HEM := Lib.hid hE
            clear hnm
            have y0 := HX1.out.get 1 0 (v := .string p.name) rfl rfl
            have y1 := HX1.out.get 1 1 (v := .int .i64 p.line) rfl rfl
            have y2 := HX1.out.get 1 2 (v := .slice a1 n1 k1) rfl rfl
            have y3 := HX1.out.get 1 3 (v := .slice a2 n2 k2) rfl rfl
            have y4 := HX1.out.get 1 4 (v := .slice a3 n3 k3) rfl rfl
            have y5 := HX1.out.get 1 5 (v := .slice a4 n4 k4) rfl rfl
            have y6 := HX1.out.get 1 6 (v := .slice (some ⟨b, off, none⟩) n5 k5) rfl rfl
            have y7 := HX1.out.get 1 7 (v := .slice a6 n6 k6) rfl rfl
            have t2 := HBD.out.get 2 (v := .slice B2 M2 e2) rfl
            go_wp2_with fail
            refine (refSettings_is _ _ _ _ _ _ _ _ p d.a.sets (HP.out.below HX1.out.bel (Nat.le_refl _)) (HSA.out.sets.below (HBD.out.bel) (Nat.le_refl _)) s HS.out).mono ?_
            rintro e w9 ⟨rfl, hb9⟩
            have HX9 := Lib.hid (HX1.out.step hb9)
            have HB9 := Lib.hid (HBD.out.step hb9)
            have t6 := HB9.out.get 6 (v := .int .i64 d.line) rfl
            clear hb9 t2 y0 y1 y2 y3 y4 y5 y6 y7
            cases s with
            | true =>
              have HPK := Lib.hid (show (conProb x p (nth p.cons k)).1 = 0 by rw [HB0.out HEM.out, HS.out, if_pos rfl])
              have hn : Hid (∀ j, j < k + 1 → (conProb x p (nth p.cons j)).1 = 0) := Lib.hid (fun j hj => by
                by_cases e : j = k
                · rw [e]; exact HPK.out
                · exact hall.out j (by omega))
              go_wp2
              go_roundw
              case rel => exact ⟨k + 1, by omega, by go_num, hn, HX9.out⟩
              case measure => simp [RowKit.intOf]; omega
            | false =>
              have HE := Lib.hid (show rr = (8, d.line) by
                rw [← HRR.out, ← HDD.out]
                exact ruleProb_con HD.out HKL.out hall.out (by rw [HDD.out]; unfold conProb settCode; rw [HS.out]; rfl) (by decide))
              have z0 := HX9.out.get 2 0 (v := .int .u8 0) rfl rfl
              have z1 := HX9.out.get 2 1 (v := .int .i64 0) rfl rfl
              have g0 := HX9.out.free 2 0 rfl
              have g1 := HX9.out.free 2 1 rfl
              go_wp2
              refine bodyPost_ret (v := .agg #[.int .u8 8, .int .i64 d.line]) (by simp [results, Tryz.results37, go_sem, World.cell?_setCell_same', z0, z1]) rfl ⟨agg_ret HE.out, ((HX9.out.bel.setCell (by show w.heap.size ≤ w.heap.size + 1 + 1; omega) _).setCell (by show w.heap.size ≤ w.heap.size + 1 + 1; omega) _)⟩
          | false =>
            obtain ⟨f1, f2, f3⟩ := ne_none hnm
            have HNM := Lib.hid hnm
            obtain ⟨c, hc⟩ : ∃ c, wishCode x d.b = c := ⟨_, rfl⟩
            have HC := Lib.hid hc
            clear hnm hc
            go_wp2_with fail
            refine (refWish_is _ _ _ _ _ x d.b (HR.out.below HX1.out.bel (Nat.le_refl _)) HSB.out HL.out c HC.out).mono ?_
            rintro e w2 ⟨rfl, hb2⟩
            have HX2 := Lib.hid (HX1.out.step hb2)
            have HB2 := Lib.hid (HBD.out.step hb2)
            clear hb2 q0 q1 r6 d0 d1 d2 d3 d4 d5 d6 f1 f2 f3
            have t3 := HB2.out.get 3 (v := .string d.b.name) rfl
            have x0 := HX2.out.get0 0 (v := .slice A1 L1 c1) rfl rfl
            have x1 := HX2.out.get0 1 (v := .slice A2 L2 c2) rfl rfl
            cases hkn : knownB x d.b.name with
            | true =>
              obtain ⟨m, hfm, hml, hpk⟩ := find_pkg hkn
              have HN := Lib.hid hfm
              have HWC := Lib.hid (show withCode x d.b = c by rw [← HC.out, wishCode_known hkn]; unfold withCode; rw [hkn]; rfl)
              have m0 : ¬ (m : Int) < 0 := by omega
              clear hkn hfm hml hpk
              go_wp2_with fail
              refine (refFind_is _ _ _ x d.b.name (HR.out.below HX2.out.bel (Nat.le_refl _)) m HN.out).mono ?_
              rintro e w3 ⟨rfl, hb3⟩
              have HX3 := Lib.hid (HX2.out.step hb3)
              have HB3 := Lib.hid (HB2.out.step hb3)
              clear hb3 t3 x0 x1
              have y0 := HX3.out.get 1 0 (v := .string p.name) rfl rfl
              have y1 := HX3.out.get 1 1 (v := .int .i64 p.line) rfl rfl
              have y2 := HX3.out.get 1 2 (v := .slice a1 n1 k1) rfl rfl
              have y3 := HX3.out.get 1 3 (v := .slice a2 n2 k2) rfl rfl
              have y4 := HX3.out.get 1 4 (v := .slice a3 n3 k3) rfl rfl
              have y5 := HX3.out.get 1 5 (v := .slice a4 n4 k4) rfl rfl
              have y6 := HX3.out.get 1 6 (v := .slice (some ⟨b, off, none⟩) n5 k5) rfl rfl
              have y7 := HX3.out.get 1 7 (v := .slice a6 n6 k6) rfl rfl
              have t2 := HB3.out.get 2 (v := .slice B2 M2 e2) rfl
              go_wp2_with fail
              refine (refSettings_is _ _ _ _ _ _ _ _ p d.a.sets (HP.out.below HX3.out.bel (Nat.le_refl _)) (HSA.out.sets.below (HB3.out.bel) (Nat.le_refl _)) s HS.out).mono ?_
              rintro e w9 ⟨rfl, hb9⟩
              have HX9 := Lib.hid (HX3.out.step hb9)
              have HB9 := Lib.hid (HB3.out.step hb9)
              have t6 := HB9.out.get 6 (v := .int .i64 d.line) rfl
              clear hb9 t2 y0 y1 y2 y3 y4 y5 y6 y7
              cases s with
              | true =>
                have HPK := Lib.hid (show (conProb x p (nth p.cons k)).1 = c by rw [HDD.out]; unfold conProb settCode; rw [HS.out, HNM.out]; exact HWC.out)
                by_cases hq0 : c = 0
                · subst hq0
                  have hn : Hid (∀ j, j < k + 1 → (conProb x p (nth p.cons j)).1 = 0) := Lib.hid (fun j hj => by
                    by_cases e : j = k
                    · rw [e]; exact HPK.out
                    · exact hall.out j (by omega))
                  go_wp2
                  go_roundw
                  case rel => exact ⟨k + 1, by omega, by go_num, hn, HX9.out⟩
                  case measure => simp [RowKit.intOf]; omega
                · obtain ⟨f1, f2⟩ := int_ne hq0
                  have HE := Lib.hid (show rr = (c, d.line) by rw [← HRR.out, ← HDD.out]; exact ruleProb_con HD.out HKL.out hall.out HPK.out hq0)
                  clear hq0
                  have z0 := HX9.out.get 2 0 (v := .int .u8 0) rfl rfl
                  have z1 := HX9.out.get 2 1 (v := .int .i64 0) rfl rfl
                  have g0 := HX9.out.free 2 0 rfl
                  have g1 := HX9.out.free 2 1 rfl
                  go_wp2
                  refine bodyPost_ret (v := .agg #[.int .u8 c, .int .i64 d.line]) (by simp [results, Tryz.results37, go_sem, World.cell?_setCell_same', z0, z1]) rfl ⟨agg_ret HE.out, ((HX9.out.bel.setCell (by show w.heap.size ≤ w.heap.size + 1 + 1; omega) _).setCell (by show w.heap.size ≤ w.heap.size + 1 + 1; omega) _)⟩
              | false =>
                have HE := Lib.hid (show rr = (8, d.line) by
                  rw [← HRR.out, ← HDD.out]
                  exact ruleProb_con HD.out HKL.out hall.out (by rw [HDD.out]; unfold conProb settCode; rw [HS.out]; rfl) (by decide))
                have z0 := HX9.out.get 2 0 (v := .int .u8 0) rfl rfl
                have z1 := HX9.out.get 2 1 (v := .int .i64 0) rfl rfl
                have g0 := HX9.out.free 2 0 rfl
                have g1 := HX9.out.free 2 1 rfl
                go_wp2
                refine bodyPost_ret (v := .agg #[.int .u8 8, .int .i64 d.line]) (by simp [results, Tryz.results37, go_sem, World.cell?_setCell_same', z0, z1]) rfl ⟨agg_ret HE.out, ((HX9.out.bel.setCell (by show w.heap.size ≤ w.heap.size + 1 + 1; omega) _).setCell (by show w.heap.size ≤ w.heap.size + 1 + 1; omega) _)⟩
            | false =>
              have HN := Lib.hid (find_none hkn)
              have HWC := Lib.hid (show withCode x d.b = 7 by unfold withCode; rw [hkn]; rfl)
              clear hkn
              go_wp2_with fail
              refine (refFind_is _ _ _ x d.b.name (HR.out.below HX2.out.bel (Nat.le_refl _)) (-1) HN.out).mono ?_
              rintro e w3 ⟨rfl, hb3⟩
              have HX3 := Lib.hid (HX2.out.step hb3)
              have HB3 := Lib.hid (HB2.out.step hb3)
              clear hb3 t3 x0 x1
              have y0 := HX3.out.get 1 0 (v := .string p.name) rfl rfl
              have y1 := HX3.out.get 1 1 (v := .int .i64 p.line) rfl rfl
              have y2 := HX3.out.get 1 2 (v := .slice a1 n1 k1) rfl rfl
              have y3 := HX3.out.get 1 3 (v := .slice a2 n2 k2) rfl rfl
              have y4 := HX3.out.get 1 4 (v := .slice a3 n3 k3) rfl rfl
              have y5 := HX3.out.get 1 5 (v := .slice a4 n4 k4) rfl rfl
              have y6 := HX3.out.get 1 6 (v := .slice (some ⟨b, off, none⟩) n5 k5) rfl rfl
              have y7 := HX3.out.get 1 7 (v := .slice a6 n6 k6) rfl rfl
              have t2 := HB3.out.get 2 (v := .slice B2 M2 e2) rfl
              go_wp2_with fail
              refine (refSettings_is _ _ _ _ _ _ _ _ p d.a.sets (HP.out.below HX3.out.bel (Nat.le_refl _)) (HSA.out.sets.below (HB3.out.bel) (Nat.le_refl _)) s HS.out).mono ?_
              rintro e w9 ⟨rfl, hb9⟩
              have HX9 := Lib.hid (HX3.out.step hb9)
              have HB9 := Lib.hid (HB3.out.step hb9)
              have t6 := HB9.out.get 6 (v := .int .i64 d.line) rfl
              clear hb9 t2 y0 y1 y2 y3 y4 y5 y6 y7
              cases s with
              | true =>
                have HPK := Lib.hid (show (conProb x p (nth p.cons k)).1 = 7 by rw [HDD.out]; unfold conProb settCode; rw [HS.out, HNM.out]; exact HWC.out)
                have HE := Lib.hid (show rr = (7, d.line) by rw [← HRR.out, ← HDD.out]; exact ruleProb_con HD.out HKL.out hall.out HPK.out (by decide))
                have z0 := HX9.out.get 2 0 (v := .int .u8 0) rfl rfl
                have z1 := HX9.out.get 2 1 (v := .int .i64 0) rfl rfl
                have g0 := HX9.out.free 2 0 rfl
                have g1 := HX9.out.free 2 1 rfl
                go_wp2
                refine bodyPost_ret (v := .agg #[.int .u8 7, .int .i64 d.line]) (by simp [results, Tryz.results37, go_sem, World.cell?_setCell_same', z0, z1]) rfl ⟨agg_ret HE.out, ((HX9.out.bel.setCell (by show w.heap.size ≤ w.heap.size + 1 + 1; omega) _).setCell (by show w.heap.size ≤ w.heap.size + 1 + 1; omega) _)⟩
              | false =>
                have HE := Lib.hid (show rr = (8, d.line) by
                  rw [← HRR.out, ← HDD.out]
                  exact ruleProb_con HD.out HKL.out hall.out (by rw [HDD.out]; unfold conProb settCode; rw [HS.out]; rfl) (by decide))
                have z0 := HX9.out.get 2 0 (v := .int .u8 0) rfl rfl
                have z1 := HX9.out.get 2 1 (v := .int .i64 0) rfl rfl
                have g0 := HX9.out.free 2 0 rfl
                have g1 := HX9.out.free 2 1 rfl
                go_wp2
                refine bodyPost_ret (v := .agg #[.int .u8 8, .int .i64 d.line]) (by simp [results, Tryz.results37, go_sem, World.cell?_setCell_same', z0, z1]) rfl ⟨agg_ret HE.out, ((HX9.out.bel.setCell (by show w.heap.size ≤ w.heap.size + 1 + 1; omega) _).setCell (by show w.heap.size ≤ w.heap.size + 1 + 1; omega) _)⟩
        · obtain rfl : n5 = k := by omega
          have HE := Lib.hid (show rr = (0, 0) by rw [← HRR.out]; exact ruleProb_no HD.out (fun j hj => hall.out j (by rw [HLC.out]; exact hj)))
          have z0 := HX.out.get 2 0 (v := .int .u8 0) rfl rfl
          have z1 := HX.out.get 2 1 (v := .int .i64 0) rfl rfl
          have g0 := HX.out.free 2 0 rfl
          have g1 := HX.out.free 2 1 rfl
          clear hx
          go_wp2
          refine bodyPost_ret (v := .agg #[.int .u8 0, .int .i64 0]) (by simp [results, Tryz.results37, go_sem, World.cell?_setCell_same', z0, z1]) rfl ⟨agg_ret HE.out, ((HX.out.bel.setCell (by show w.heap.size ≤ w.heap.size + 1 + 1; omega) _).setCell (by show w.heap.size ≤ w.heap.size + 1 + 1; omega) _)⟩
end Go.Proofs.YtaahdhpljlkfjaaGreat.Rc
