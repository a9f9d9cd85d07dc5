/- Does a graph need a virtual name? The document. -/
import Derived.Test.YtaahdhpljlkfjaaGreatZg32
namespace Go.Proofs.YtaahdhpljlkfjaaGreat.Rc
open Go.RowKit Go.Sort

theorem wants_out {x : Rec} {s : ByteArray} {n : Node} (h : findR x n.name < 0) : wantsB x s n = false := by unfold wantsB isIn; rw [decide_eq_false (by omega)]; rfl
theorem wants_in {x : Rec} {s : ByteArray} {n : Node} {m : Nat} (h : findR x n.name = m) : wantsB x s n = (nth x.pkgs m).deps.any (wantB n s) := by
  unfold wantsB isIn pkN; rw [h, decide_eq_true (by omega), Int.toNat_natCast]; rfl
theorem find_lt {x : Rec} {s : ByteArray} {m : Nat} (h : findR x s = m) : m < x.pkgs.length := by
  obtain ⟨k, hk, hl, _⟩ := idx_at (p := fun p => nameIs p s) (l := x.pkgs) (show 0 ≤ idx (fun p => nameIs p s) x.pkgs by rw [show idx (fun p => nameIs p s) x.pkgs = m from h]; omega)
  have : (m : Int) = k := by rw [← h]; exact hk
  omega
set_option maxRecDepth 100000 in
set_option maxHeartbeats 3200000 in
theorem refNeeds_is (w : World) (v1 v2 vq vg : Value) (x : Rec) (q : List Root) (g : List Node) (s : ByteArray) (h : IsRec w v1 v2 x) (hq : RowD rootK w vq q) (hg : RowD nodeK w vg g) (b : Bool) (hb : neededB x q g s = b) :
    Calls Tryz.prog 31 #[.agg #[v1, v2], .agg #[vq], .agg #[vg], .string s] w fun e w' => e = .returned (.bool b) ∧ Below w.heap.size w w' := by
  obtain ⟨A1, L1, c1, A2, L2, c2, rfl, rfl, hL1, hL2, hc1, hm1, hc2, hm2⟩ := rec_box h
  obtain ⟨A3, L3, c3, rfl⟩ := hq.sl
  obtain ⟨A4, L4, c4, rfl⟩ := hg.sl
  have HX0 := Lib.hid (Bxs.three w #[.slice A1 L1 c1, .slice A2 L2 c2] 25 #[.slice A3 L3 c3] 28 #[.slice A4 L4 c4] 31)
  have HR := Lib.hid h
  have HQ := Lib.hid hq
  have HG := Lib.hid hg
  have HL1 := Lib.hid hL1
  have HL3 := Lib.hid hq.len
  have HL4 := Lib.hid hg.len
  have hcq := hq.cap
  have hcg := hg.cap
  have HB := Lib.hid hb
  clear h hL1 hL2 hq hg hb
  go_enter Tryz.func31, Tryz.ntmps31
  go_wp2
  go_loopw [17] (fun j wr => ∃ k : Nat, k ≤ L3 ∧ j = .int .i64 k ∧ Hid ((q.take k).any (rootS s) = false) ∧ Hid (Bxs w wr [(#[.slice A1 L1 c1, .slice A2 L2 c2], 25), (#[.slice A3 L3 c3], 28), (#[.slice A4 L4 c4], 31)])) (fun j _ => L3 - (RowKit.intOf j).toNat)
  case atStart => exact ⟨0, Nat.zero_le _, rfl, Lib.hid (by simp), HX0⟩
  case round =>
    clear HX0
    obtain ⟨k, hk, rfl, HA, HX⟩ := hrel
    by_cases hlt : k < L3
    · obtain ⟨bb, off, u1, u2, rfl, hbb, -, -, p0, -, -, -⟩ := root_at (HQ.out.below HX.out.bel (Nat.le_refl _)) hlt
      have hkl : k < q.length := by rw [← HL3.out]; exact hlt
      have HS := Lib.hid (any_snoc hkl (rootS s))
      have HT := Lib.hid (fun h => any_at (p := rootS s) hkl h)
      obtain ⟨r, hr⟩ : ∃ r, nth q k = r := ⟨_, rfl⟩
      rw [hr] at p0 HS HT
      have x2 := HX.out.get 1 0 (v := .slice (some ⟨bb, off, none⟩) L3 c3) rfl rfl
      have g0 : (0 : Int) ≤ (k : Int) := by omega
      have g1 : (k : Int) < (L3 : Int) := by omega
      clear hr hkl
      by_cases e : r.spec.name = s
      · have e1 : (r.spec.name.toList == s.toList) = true := by rw [e]; simp
        have HV := Lib.hid (show b = true by rw [← HB.out]; unfold neededB; rw [HT.out (show Va.eqS r.spec.name s = true from e1)]; rfl)
        clear e
        go_wp2
        go_ret
        exact ⟨ret_bool HV.out.symm, HX.out.bel⟩
      · have e1 : (r.spec.name.toList == s.toList) = false := by
          have : Va.eqS r.spec.name s ≠ true := fun h => e (Va.eqS_iff.1 h)
          simpa [Va.eqS] using this
        have e2 : ¬ r.spec.name.toList = s.toList := by simpa using e1
        have HN := Lib.hid (show (q.take (k + 1)).any (rootS s) = false by rw [HS.out, HA.out, show rootS s r = false from e1]; rfl)
        clear e
        go_wp2
        go_roundw
        case rel => exact ⟨k + 1, by omega, by go_num, HN, HX⟩
        case measure => simp [RowKit.intOf]; omega
    · have HQN := Lib.hid (show q.any (rootS s) = false by have := HA.out; rw [show k = q.length by rw [← HL3.out]; omega, List.take_length] at this; exact this)
      clear HA
      have x3 := HX.out.get 2 0 (v := .slice A4 L4 c4) rfl rfl
      go_wp2
      clear x3
      go_loopw [33] (fun j wr => ∃ k : Nat, k ≤ L4 ∧ j = .int .i64 k ∧ Hid ((g.take k).any (wantsB x s) = false) ∧ Hid (Bxs w wr [(#[.slice A1 L1 c1, .slice A2 L2 c2], 25), (#[.slice A3 L3 c3], 28), (#[.slice A4 L4 c4], 31)])) (fun j _ => L4 - (RowKit.intOf j).toNat)
      case atStart => exact ⟨0, Nat.zero_le _, rfl, Lib.hid (by simp), HX⟩
      case round =>
        clear HX
        obtain ⟨i, hi, rfl, HA, HX⟩ := hrel
        by_cases hlt : i < L4
        · obtain ⟨bb, off, u1, u2, rfl, hbb, hn, p0, p1, p2, p3⟩ := node_at (HG.out.below HX.out.bel (Nat.le_refl _)) hlt
          have hil : i < g.length := by rw [← HL4.out]; exact hlt
          have HS := Lib.hid (any_snoc hil (wantsB x s))
          have HT := Lib.hid (fun h => any_at (p := wantsB x s) hil h)
          obtain ⟨n, hnn⟩ : ∃ n, nth g i = n := ⟨_, rfl⟩
          rw [hnn] at hn p0 p1 HS HT
          obtain ⟨A5, L5, c5, rfl⟩ := hn.sets.sl
          obtain ⟨A6, L6, c6, rfl⟩ := hn.needs.sl
          have HN := Lib.hid hn
          obtain ⟨z, hz⟩ : ∃ z, findR x n.name = z := ⟨_, rfl⟩
          have HZ := Lib.hid hz
          obtain ⟨wo, hwo⟩ : ∃ wo : World, wo = wr := ⟨_, rfl⟩
          subst hwo
          have x0 := HX.out.get 0 0 (v := .slice A1 L1 c1) rfl rfl
          have x1 := HX.out.get 0 1 (v := .slice A2 L2 c2) rfl rfl
          have x2 := HX.out.get 2 0 (v := .slice (some ⟨bb, off, none⟩) L4 c4) rfl rfl
          rw [Nat.add_zero] at x0 x1
          have q0 := cell_regrown x0
          have q1 := cell_regrown x1
          have q2 := cell_regrown x2
          have q3 := cell_regrown p0
          have g0 : (0 : Int) ≤ (i : Int) := by omega
          have g1 : (i : Int) < (L4 : Int) := by omega
          have CS := Lib.hid (show ∀ d os, Calls Tryz.prog 26 #[.agg #[.slice A1 L1 c1, .slice A2 L2 c2], .string n.name] (grow (redrawn wo d) os) fun e w'' => e = .returned (.int .i64 z) ∧ ∃ p : Regrown, w'' = grow (redrawn wo p.d) p.os from
            fun d os => Calls.regrown_of (refFind_is _ _ _ x n.name ((HR.out.below HX.out.bel (Nat.le_refl _)).below (below_regrown wo d os) (Nat.le_refl _)) z HZ.out))
          have HPC := Lib.hid (And.intro (And.intro p0 p1) (And.intro p2 p3))
          clear hnn hil hn hz x0 x1 x2 p0 p1 p2 p3
          go_wp2_with fail
          refine wp_region_quiet_below (by kernel_rfl) (by kernel_rfl) ?_
          repeat (go_big_quiet_step ((go_at_call 26; with_reducible exact CS.out _ _)))
          refine wpQuiet_nil ?_
          intro w2 hw'
          have hb2 : Below wo.heap.size wo w2 := by obtain ⟨⟨dq, osq⟩, hw''⟩ := hw'; rw [hw'']; exact below_regrown wo dq osq
          have HX2 := Lib.hid (HX.out.step hb2)
          have HN2 := Lib.hid (HN.out.below hb2 (Nat.le_refl _))
          have p0 := (hb2.cell (p := ⟨bb, off + i * 4, none⟩) hbb).trans HPC.out.1.1
          have p1 := (hb2.cell (p := ⟨bb, off + i * 4 + 1, none⟩) hbb).trans HPC.out.1.2
          have p2 := (hb2.cell (p := ⟨bb, off + i * 4 + 2, none⟩) hbb).trans HPC.out.2.1
          have p3 := (hb2.cell (p := ⟨bb, off + i * 4 + 3, none⟩) hbb).trans HPC.out.2.2
          have hbb2 : bb < w2.heap.size := Nat.lt_of_lt_of_le hbb hb2.size
          have HPC2 := Lib.hid (And.intro (And.intro p0 p1) (And.intro p2 p3))
          clear hw' hb2 q0 q1 q2 q3 CS p0 p1 p2 p3 HX HN HPC hbb
          by_cases hz0 : z < 0
          · have HV := Lib.hid (show (g.take (i + 1)).any (wantsB x s) = false by rw [HS.out, HA.out, wants_out (by rw [HZ.out]; exact hz0)]; rfl)
            go_wp2
            go_roundw
            case rel => exact ⟨i + 1, by omega, by go_num, HV, HX2⟩
            case measure => simp [RowKit.intOf]; omega
          · obtain ⟨m, rfl⟩ : ∃ m : Nat, z = m := ⟨z.toNat, by omega⟩
            have hml := find_lt HZ.out
            have hm1 : m < L1 := by rw [HL1.out]; exact hml
            obtain ⟨b1, o1, t1, t2, t3, t4, t5, t6, rfl, hb1, hpk, -, -, -, -, -, d5, -, -⟩ := pkg_at (HR.out.below HX2.out.bel (Nat.le_refl _)).pkgs hm1
            obtain ⟨A7, L7, c7, rfl⟩ := hpk.deps.sl
            have HD := Lib.hid hpk.deps
            have HDL := Lib.hid hpk.deps.len
            have hcd := hpk.deps.cap
            have HW := Lib.hid (wants_in (s := s) HZ.out)
            obtain ⟨ds, hds⟩ : ∃ ds, (nth x.pkgs m).deps = ds := ⟨_, rfl⟩
            rw [hds] at HD HDL HW
            have x0 := HX2.out.get 0 0 (v := .slice (some ⟨b1, o1, none⟩) L1 c1) rfl rfl
            rw [Nat.add_zero] at x0
            have m0 : (0 : Int) ≤ (m : Int) := by omega
            have m1 : (m : Int) < (L1 : Int) := by omega
            clear hpk hds hml
            obtain ⟨wp, hwp⟩ : ∃ wp : World, wp = w2 := ⟨_, rfl⟩
            have HBP := Lib.hid (show Below wp.heap.size wp w2 by rw [hwp]; exact Below.refl _ _)
            rw [← hwp] at HD HPC2 HN2 hbb2
            clear hwp
            go_wp2
            clear d5 x0
            go_loopw [54] (fun j wr => ∃ k : Nat, k ≤ L7 ∧ j = .int .i64 k ∧ Hid ((ds.take k).any (wantB n s) = false) ∧ Hid (Bxs w wr [(#[.slice (some ⟨b1, o1, none⟩) L1 c1, .slice A2 L2 c2], 25), (#[.slice A3 L3 c3], 28), (#[.slice (some ⟨bb, off, none⟩) L4 c4], 31)]) ∧ Hid (Below wp.heap.size wp wr)) (fun j _ => L7 - (RowKit.intOf j).toNat)
            case atStart => exact ⟨0, Nat.zero_le _, rfl, Lib.hid (by simp), HX2, HBP⟩
            case round =>
              clear HX2 HBP
              obtain ⟨k, hk, rfl, HA2, HX3, HB3⟩ := hrel
              by_cases hlt3 : k < L7
              · obtain ⟨b2, o2, s1, s2, s3, s4, rfl, hb2, -, hsb, -, e0, -, -, e3, e4, e5, -⟩ := two_at (HD.out.below HB3.out (Nat.le_refl _)) hlt3
                have hkl : k < ds.length := by rw [← HDL.out]; exact hlt3
                have HS2 := Lib.hid (any_snoc hkl (wantB n s))
                have HT2 := Lib.hid (fun h => any_at (p := wantB n s) hkl h)
                obtain ⟨t, ht⟩ : ∃ t, nth ds k = t := ⟨_, rfl⟩
                rw [ht] at hsb e0 e3 HS2 HT2
                obtain ⟨B1, M1, d1, rfl⟩ := hsb.spans.sl
                obtain ⟨B2, M2, d2, rfl⟩ := hsb.sets.sl
                have HSB := Lib.hid hsb
                obtain ⟨y, hy⟩ : ∃ y, holdsB n t.b = y := ⟨_, rfl⟩
                have HY := Lib.hid hy
                obtain ⟨wo2, hwo⟩ : ∃ wo : World, wo = wr := ⟨_, rfl⟩
                subst hwo
                have x2 := HX3.out.get 2 0 (v := .slice (some ⟨bb, off, none⟩) L4 c4) rfl rfl
                have p0 := (HB3.out.cell (p := ⟨bb, off + i * 4, none⟩) hbb2).trans HPC2.out.1.1
                have p1 := (HB3.out.cell (p := ⟨bb, off + i * 4 + 1, none⟩) hbb2).trans HPC2.out.1.2
                have p2 := (HB3.out.cell (p := ⟨bb, off + i * 4 + 2, none⟩) hbb2).trans HPC2.out.2.1
                have p3 := (HB3.out.cell (p := ⟨bb, off + i * 4 + 3, none⟩) hbb2).trans HPC2.out.2.2
                have r0 := cell_regrown x2
                have r1 := cell_regrown p0
                have r2 := cell_regrown p1
                have r3 := cell_regrown p2
                have r4 := cell_regrown p3
                have r5 := cell_regrown e0
                have r6 := cell_regrown e3
                have r7 := cell_regrown e4
                have r8 := cell_regrown e5
                have k0 : (0 : Int) ≤ (k : Int) := by omega
                have k1 : (k : Int) < (L7 : Int) := by omega
                have CS := Lib.hid (show ∀ d os, Calls Tryz.prog 58 #[.agg #[.string n.name, .string n.ver, .slice A5 L5 c5, .slice A6 L6 c6], .agg #[.string t.b.name, .slice B1 M1 d1, .slice B2 M2 d2]] (grow (redrawn wo2 d) os) fun e w'' => e = .returned (.bool y) ∧ ∃ p : Regrown, w'' = grow (redrawn wo2 p.d) p.os from
                  fun d os => Calls.regrown_of (refHolds_is _ _ _ _ _ n t.b ((HN2.out.below HB3.out (Nat.le_refl _)).below (below_regrown wo2 d os) (Nat.le_refl _)) (HSB.out.below (below_regrown wo2 d os) (Nat.le_refl _)) y HY.out))
                clear ht hkl hsb hy x2 p0 p1 p2 p3 e0 e3 e4 e5
                by_cases e : t.a.name = s
                · have e1 : (t.a.name.toList == s.toList) = true := by rw [e]; simp
                  have HW2 := Lib.hid (show wantB n s t = y by unfold wantB; rw [HY.out, show eqS t.a.name s = true from e1]; rfl)
                  clear e
                  go_wp2_with fail
                  refine wp_region_quiet_below (by kernel_rfl) (by kernel_rfl) ?_
                  repeat (go_big_quiet_step ((go_at_call 58; with_reducible exact CS.out _ _)))
                  refine wpQuiet_nil ?_
                  intro w3 hw'
                  have hb3 : Below wo2.heap.size wo2 w3 := by obtain ⟨⟨dq, osq⟩, hw''⟩ := hw'; rw [hw'']; exact below_regrown wo2 dq osq
                  have HX4 := Lib.hid (HX3.out.step hb3)
                  have HB4 := Lib.hid (HB3.out.trans (hb3.mono HB3.out.size))
                  clear hw' hb3 r0 r1 r2 r3 r4 r5 r6 r7 r8 CS
                  cases y with
                  | true =>
                    have HV := Lib.hid (show b = true by rw [← HB.out]; unfold neededB; rw [HT.out (by rw [HW.out]; exact HT2.out HW2.out), Bool.or_true])
                    go_wp2
                    go_ret
                    exact ⟨ret_bool HV.out.symm, HX4.out.bel⟩
                  | false =>
                    have HV := Lib.hid (show (ds.take (k + 1)).any (wantB n s) = false by rw [HS2.out, HA2.out, HW2.out]; rfl)
                    go_wp2
                    go_roundw
                    case rel => exact ⟨k + 1, by omega, by go_num, HV, HX4, HB4⟩
                    case measure => simp [RowKit.intOf]; omega
                · have e1 : (t.a.name.toList == s.toList) = false := by
                    have : Va.eqS t.a.name s ≠ true := fun h => e (Va.eqS_iff.1 h)
                    simpa [Va.eqS] using this
                  have e2 : ¬ t.a.name.toList = s.toList := by simpa using e1
                  have HV := Lib.hid (show (ds.take (k + 1)).any (wantB n s) = false by rw [HS2.out, HA2.out, show wantB n s t = false by unfold wantB; rw [show eqS t.a.name s = false from e1]; rfl]; rfl)
                  clear e
                  go_wp2_with fail
                  refine wp_region_quiet_below (by kernel_rfl) (by kernel_rfl) ?_
                  repeat (go_big_quiet_step ((go_at_call 58; with_reducible exact CS.out _ _)))
                  refine wpQuiet_nil ?_
                  intro w3 hw'
                  have hb3 : Below wo2.heap.size wo2 w3 := by obtain ⟨⟨dq, osq⟩, hw''⟩ := hw'; rw [hw'']; exact below_regrown wo2 dq osq
                  have HX4 := Lib.hid (HX3.out.step hb3)
                  have HB4 := Lib.hid (HB3.out.trans (hb3.mono HB3.out.size))
                  clear hw' hb3 r0 r1 r2 r3 r4 r5 r6 r7 r8 CS
                  go_wp2
                  go_roundw
                  case rel => exact ⟨k + 1, by omega, by go_num, HV, HX4, HB4⟩
                  case measure => simp [RowKit.intOf]; omega
              · have HV := Lib.hid (show (g.take (i + 1)).any (wantsB x s) = false by
                  have h0 := HA2.out
                  rw [show k = ds.length by rw [← HDL.out]; omega, List.take_length] at h0
                  rw [HS.out, HA.out, HW.out, h0]; rfl)
                go_wp2
                go_roundw
                case rel => exact ⟨i + 1, by omega, by go_num, HV, HX3⟩
                case measure => simp [RowKit.intOf]; omega
        · have HV := Lib.hid (show b = false by
            have h0 := HA.out
            rw [show i = g.length by rw [← HL4.out]; omega, List.take_length] at h0
            rw [← HB.out]; unfold neededB; rw [HQN.out, h0]; rfl)
          go_wp2
          go_ret
          exact ⟨ret_bool HV.out.symm, HX.out.bel⟩
end Go.Proofs.YtaahdhpljlkfjaaGreat.Rc
