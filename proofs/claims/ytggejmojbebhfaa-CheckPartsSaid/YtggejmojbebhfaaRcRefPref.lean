/- The document's word on what is preferred. -/
import Derived.Test.YtggejmojbebhfaaRcRefAlone
import Derived.Test.YtggejmojbebhfaaRcPref
namespace Go.Proofs.Ytggejmojbebhfaa.Rc
open Go.RowKit Go.Sort

set_option maxRecDepth 100000 in
set_option maxHeartbeats 6400000 in
theorem refPrefer_any (w : World) (v1 v2 : Value) (x : Rec) (i : Nat) (h : IsRec w v1 v2 x) (hi : i < x.prefs.length) (hl : x.pkgs.length ≤ 1000) :
    Calls Try.prog 41 #[.agg #[v1, v2], .int .i64 (i : Int)] w fun e w' => e = .returned (.bool (preferB x i)) ∧ Below w.heap.size w w' := by
  obtain ⟨A1, L1, c1, A2, L2, c2, rfl, rfl, hL1, hL2, hc1, hm1, hc2, hm2⟩ := rec_box h
  have hiL : i < L2 := by omega
  have hp := h.prefs
  obtain ⟨b, off, u, e0, hbl, hs, hr, hw, p0, p1, p2⟩ := pref_at h.prefs hiL
  obtain ⟨B, M, d, rfl, hM, hd1, hd2⟩ := hr.open'
  unfold maxLen at hd2
  unfold preferB aheadB
  generalize hnf : nth x.prefs i = f at hs hr hw hM p0 p1 p2
  have hx := Bxs.two w #[.slice A1 L1 c1, .slice A2 L2 c2] 25 #[.string f.virt, .slice B M d, .int .i64 f.line] 63
  obtain ⟨q1, hq1⟩ : ∃ q, ((x.prefs.take i).any fun x => virtIs x f.virt) = q := ⟨_, rfl⟩
  obtain ⟨q2, hq2⟩ : ∃ q, virtB x f.virt = q := ⟨_, rfl⟩
  obtain ⟨q3, hq3⟩ : ∃ q, twiceB f.names = q := ⟨_, rfl⟩
  obtain ⟨q4, hq4⟩ : ∃ q, f.names.all (preferN x f.virt) = q := ⟨_, rfl⟩
  obtain ⟨rr, hrr⟩ : ∃ r, (!q1 && q2 && !q3 && q4) = r := ⟨_, rfl⟩
  rw [show ((x.prefs.take i).any fun o => eqS o.virt f.virt) = q1 from hq1, hq2, hq3, hq4, hrr]
  have HRR := Lib.hid hrr
  have HQ1 := Lib.hid hq1
  have HQ2 := Lib.hid hq2
  have HQ3 := Lib.hid hq3
  have HQ4 := Lib.hid hq4
  have HR := Lib.hid h
  have HF := Lib.hid hr
  have HX := Lib.hid hx
  have HM := Lib.hid hM
  have HL := Lib.hid hl
  have HIL := Lib.hid hi
  have HL1 := Lib.hid hL1
  have k0 : (0 : Int) ≤ (i : Int) := by omega
  have k1 : (i : Int) < (L2 : Int) := by omega
  subst e0
  clear h hp hr hx hL1 hL2 hq1 hq2 hq3 hq4 hnf hi hM hw hs hl hrr
  go_enter Try.func41, Try.ntmps41
  go_wp2
  clear p0 p1 p2
  go_loopw [6] (fun t wr => ∃ k : Nat, k ≤ i ∧ t = .int .i64 k ∧ Hid (((x.prefs.take i).take k).any (fun x => virtIs x f.virt) = false) ∧ Bxs w wr [(#[.slice A1 L1 c1, .slice (some ⟨b, off, none⟩) L2 c2], 25), (#[.string f.virt, .slice B M d, .int .i64 f.line], 63)]) (fun t _ => i - (intOf t).toNat)
  case atStart => exact ⟨0, Nat.zero_le _, rfl, Lib.hid (by simp), HX.out⟩
  case round =>
    clear HX
    obtain ⟨k, hk, rfl, hall, hx⟩ := hrel
    have HX := Lib.hid hx
    by_cases hlt : k < i
    · obtain ⟨b2, off2, u2, e2, hb2, hs2, hr2, hw2, d0, d1, d2⟩ := pref_at (HR.out.prefs.below hx.bel (Nat.le_refl _)) (show k < L2 by omega)
      injection e2 with e2
      injection e2 with e2 e3
      subst e2 e3
      have x1 := hx.get0 1 (v := .slice (some ⟨b, off, none⟩) L2 c2) rfl rfl
      have y0 := hx.get 1 0 (v := .string f.virt) rfl rfl
      have hkl : k < (x.prefs.take i).length := by rw [List.length_take]; have := HIL.out; omega
      have HAS := Lib.hid (any_snoc hkl (fun x => virtIs x f.virt))
      have HNT := Lib.hid (nth_take (l := x.prefs) hlt)
      have HAA := Lib.hid (fun h => any_at (l := x.prefs.take i) (p := fun x => virtIs x f.virt) hkl h)
      have g0 : (0 : Int) ≤ (k : Int) := by omega
      have g1 : (k : Int) < (L2 : Int) := by omega
      clear hx hkl hs2 hr2 hw2 d1 d2
      cases he : virtIs (nth x.prefs k) f.virt with
      | true =>
        have f1 : ((nth x.prefs k).virt.toList == f.virt.toList) = true := he
        have HE := Lib.hid (show rr = false by
          have : q1 = true := by rw [← HQ1.out]; exact HAA.out (by rw [HNT.out]; exact he)
          rw [← HRR.out, this]; rfl)
        clear he
        go_wp2_with fail
        go_quiet (fail)
        go_wp2
        go_ret
        exact ⟨ret_bool HE.out.symm, below_draws HX.out.bel _⟩
      | false =>
        have f1 : ((nth x.prefs k).virt.toList == f.virt.toList) = false := he
        have hn' : Hid (((x.prefs.take i).take (k + 1)).any (fun x => virtIs x f.virt) = false) := Lib.hid (by rw [HAS.out, hall.out, HNT.out]; simpa using he)
        clear he
        go_wp2_with fail
        go_quiet (fail)
        go_wp2
        go_roundw
        case rel => exact ⟨k + 1, by omega, by go_num, hn', HX.out.drewN _⟩
        case measure => simp [intOf]; omega
    · obtain rfl : i = k := by omega
      have HE1 := Lib.hid (show q1 = false by
        have h := hall.out
        rw [List.take_of_length_le (by rw [List.length_take]; omega)] at h
        rw [← HQ1.out]; exact h)
      have y1 := hx.get 1 1 (v := .slice B M d) rfl rfl
      clear hx hlt
      go_wp2
      clear y1
      go_loopw [31] (fun t wr => ∃ k : Nat, k ≤ M ∧ t = .int .i64 k ∧ Hid ((f.names.take k).all (preferN x f.virt) = true) ∧ Bxs w wr [(#[.slice A1 L1 c1, .slice (some ⟨b, off, none⟩) L2 c2], 25), (#[.string f.virt, .slice B M d, .int .i64 f.line], 63)]) (fun t _ => M - (intOf t).toNat)
      case atStart => exact ⟨0, Nat.zero_le _, rfl, Lib.hid (by simp), HX.out⟩
      case round =>
        clear HX hall
        obtain ⟨k, hk, rfl, hall, hx⟩ := hrel
        have HX := Lib.hid hx
        by_cases hlt : k < M
        · obtain ⟨b2, off2, rfl, hb2, hs2, d0⟩ := str_at (HF.out.below hx.bel (Nat.le_refl _)) hlt
          have hkl : k < f.names.length := by rw [← HM.out]; exact hlt
          have HSN := Lib.hid (all_snoc hkl (preferN x f.virt))
          have HAT := Lib.hid (fun h => all_at (l := f.names) (p := preferN x f.virt) hkl h)
          generalize hnm : nth f.names k = s at hs2 d0 HSN HAT
          obtain ⟨n, hn⟩ : ∃ n, findR x s = n := ⟨_, rfl⟩
          have HN := Lib.hid hn
          have r0 := cell_regrown (hx.get0 0 (v := .slice A1 L1 c1) rfl rfl)
          have r1 := cell_regrown (hx.get0 1 (v := .slice (some ⟨b, off, none⟩) L2 c2) rfl rfl)
          have r2 := cell_regrown (hx.get 1 1 (v := .slice (some ⟨b2, off2, none⟩) M d) rfl rfl)
          have r3 := cell_regrown d0
          have CF := Lib.hid (show ∀ dd os, Calls Try.prog 16 #[.agg #[.slice A1 L1 c1, .slice (some ⟨b, off, none⟩) L2 c2], .string s] (grow (redrawn wr dd) os) fun e w'' => e = .returned (.int .i64 n) ∧ ∃ p : Regrown, w'' = grow (redrawn wr p.d) p.os from
            fun dd os => Calls.regrown_of (refFind_is _ _ _ x s ((HR.out.below HX.out.bel (Nat.le_refl _)).below (below_regrown wr dd os) (Nat.le_refl _)) n HN.out))
          have g0 : (0 : Int) ≤ (k : Int) := by omega
          have g1 : (k : Int) < (M : Int) := by omega
          clear hx hkl hnm hs2 d0
          go_wp2_with fail
          refine wp_region_quiet_below (by kernel_rfl) (by kernel_rfl) ?_
          repeat (go_big_quiet_step ((go_at_call 16; with_reducible exact CF.out _ _)))
          refine wpQuiet_nil ?_
          intro _ hw'
          obtain ⟨⟨dq, osq⟩, hw''⟩ := hw'
          subst hw''
          have HX3 := Lib.hid (HX.out.step (below_regrown wr dq osq))
          clear r0 r1 r2 r3 g0 g1
          generalize grow (redrawn wr dq) osq = w3 at *
          cases hkn : knownB x s with
          | false =>
            obtain rfl : n = -1 := by rw [← hn]; exact find_none hkn
            have HE := Lib.hid (show rr = false by
              have : q4 = false := by rw [← HQ4.out]; exact HAT.out (by unfold preferN; rw [hkn]; rfl)
              rw [← HRR.out, this, Bool.and_false])
            clear hkn hn
            go_wp2_with fail
            go_quiet (fail)
            go_wp2
            go_ret
            exact ⟨ret_bool HE.out.symm, below_draws HX3.out.bel _⟩
          | true =>
            obtain ⟨m, hfm, hml, hpk⟩ := find_pkg hkn
            obtain rfl : n = (m : Int) := by rw [← hn]; exact hfm
            have hmL : m < L1 := by rw [HL1.out]; exact hml
            obtain ⟨q, hq⟩ : ∃ q, hasS (nth x.pkgs m).prov f.virt = q := ⟨_, rfl⟩
            have HPN := Lib.hid (show preferN x f.virt s = q by unfold preferN; rw [hkn, hpk, hq]; rfl)
            have HQ := Lib.hid hq
            clear hkn hfm hml hpk hq hn
            obtain ⟨b3, off3, e1, e2, e3, e4, e5, e6, rfl, hb3, hp, p0, p1, p2, p3, p4, p5, p6, p7⟩ := pkg_at (HR.out.pkgs.below HX3.out.bel (Nat.le_refl _)) hmL
            obtain ⟨a3, n3, k3, rfl⟩ := hp.prov.sl
            have x0 := HX3.out.get0 0 (v := .slice (some ⟨b3, off3, none⟩) L1 c1) rfl rfl
            have y0 := HX3.out.get 1 0 (v := .string f.virt) rfl rfl
            have m0 : (0 : Int) ≤ (m : Int) := by omega
            have m1 : (m : Int) < (L1 : Int) := by omega
            have m2 : decide ((m : Int) < 0) = false := by simp
            have CQ := Lib.hid (fun n => refHas_is (w3.drewN n) (.slice a3 n3 k3) _ f.virt (hp.prov.below (below_draws (Below.refl w3.heap.size w3) n) (Nat.le_refl _)) q HQ.out)
            clear hp p0 p1 p2 p3 p5 p6 p7
            go_wp2_with fail
            go_quiet ((go_at_call 43; exact quiet_eq (CQ.out _)))
            cases q with
            | true =>
              have hn : Hid ((f.names.take (k + 1)).all (preferN x f.virt) = true) := Lib.hid (by rw [HSN.out, hall.out, HPN.out]; rfl)
              go_wp2
              go_roundw
              case rel => exact ⟨k + 1, by omega, by go_num, hn, HX3.out.drewN _⟩
              case measure => simp [intOf]; omega
            | false =>
              have HE := Lib.hid (show rr = false by
                have : q4 = false := by rw [← HQ4.out]; exact HAT.out HPN.out
                rw [← HRR.out, this, Bool.and_false])
              go_wp2
              go_ret
              exact ⟨ret_bool HE.out.symm, below_draws HX3.out.bel _⟩
        · obtain rfl : M = k := by omega
          have HE4 := Lib.hid (show rr = (q2 && !q3) by
            have h := hall.out
            rw [HM.out, List.take_length] at h
            have h4 : q4 = true := by rw [← HQ4.out]; exact h
            rw [← HRR.out, HE1.out, h4]; simp)
          have x0 := hx.get0 0 (v := .slice A1 L1 c1) rfl rfl
          have x1 := hx.get0 1 (v := .slice (some ⟨b, off, none⟩) L2 c2) rfl rfl
          have y0 := hx.get 1 0 (v := .string f.virt) rfl rfl
          clear hx hlt
          go_wp2_with fail
          refine (refVirtual_is _ _ _ x f.virt (HR.out.below HX.out.bel (Nat.le_refl _)) HL.out q2 HQ2.out).mono ?_
          rintro e w2 ⟨rfl, hb⟩
          have HX2 := Lib.hid (HX.out.step hb)
          clear hb x0 x1 y0
          cases q2 with
          | false =>
            go_wp2
            go_ret
            exact ⟨ret_bool HE4.out.symm, HX2.out.bel⟩
          | true =>
          have y1 := HX2.out.get 1 1 (v := .slice B M d) rfl rfl
          go_wp2_with fail
          refine (refTwice_is _ _ _ (HF.out.below HX2.out.bel (Nat.le_refl _)) q3 HQ3.out).mono ?_
          rintro e w3 ⟨rfl, hb⟩
          have HX3 := Lib.hid (HX2.out.step hb)
          clear hb y1
          cases q3 <;> (go_wp2; go_ret; exact ⟨ret_bool HE4.out.symm, HX3.out.bel⟩)
theorem refPrefer_is (w : World) (v1 v2 : Value) (x : Rec) (i : Nat) (h : IsRec w v1 v2 x) (hi : i < x.prefs.length) (hl : x.pkgs.length ≤ 1000) (b : Bool) (hb : preferB x i = b) :
    Calls Try.prog 41 #[.agg #[v1, v2], .int .i64 (i : Int)] w fun e w' => e = .returned (.bool b) ∧ Below w.heap.size w w' := by subst hb; exact refPrefer_any w v1 v2 x i h hi hl
end Go.Proofs.Ytggejmojbebhfaa.Rc
