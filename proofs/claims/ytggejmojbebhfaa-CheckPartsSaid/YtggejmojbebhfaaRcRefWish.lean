/- The document's word on wishes. -/
import Derived.Test.YtggejmojbebhfaaRcRefSet
import Derived.Test.YtggejmojbebhfaaRcProv
namespace Go.Proofs.Ytggejmojbebhfaa.Rc
open Go.RowKit Go.Sort

theorem wishCode_known {x : Rec} {s : Spec} (h : knownB x s.name = true) : wishCode x s = settCode (pkgOf x s.name) s.sets := by
  unfold wishCode withCode virtB
  rw [h]; rfl
theorem wishCode_un {x : Rec} {s : Spec} (h : knownB x s.name = false) : wishCode x s = if virtB x s.name then (if badVirt s then 9 else 0) else 7 := by
  unfold wishCode withCode
  rw [h]; rfl

set_option maxRecDepth 100000 in
set_option maxHeartbeats 3200000 in
theorem refWish_any (w : World) (v1 v2 u1 u2 : Value) (x : Rec) (s : Spec) (h : IsRec w v1 v2 x) (hs : IsSpec w u1 u2 s) (hl : x.pkgs.length ≤ 1000) :
    Calls Try.prog 73 #[.agg #[v1, v2], .agg #[.string s.name, u1, u2]] w fun e w' => e = .returned (.int .u8 (wishCode x s)) ∧ Below w.heap.size w w' := by
  obtain ⟨A1, L1, c1, A2, L2, c2, rfl, rfl, hL1, hL2, hc1, hm1, hc2, hm2⟩ := rec_box h
  obtain ⟨B1, M1, d1, rfl, hM1, hq1, hq2⟩ := hs.spans.open'
  obtain ⟨B2, M2, d2, rfl, hM2, hq3, hq4⟩ := hs.sets.open'
  unfold maxLen at hq2 hq4
  have HX := Lib.hid (Bxs.two w #[.slice A1 L1 c1, .slice A2 L2 c2] 25 #[.string s.name, .slice B1 M1 d1, .slice B2 M2 d2] 73)
  have HR := Lib.hid h
  have HS := Lib.hid hs
  have HL := Lib.hid hl
  have HM := Lib.hid (show M1 = s.spans.length ∧ M2 = s.sets.length from ⟨hM1, hM2⟩)
  have HL1 := Lib.hid hL1
  clear h hs hl hL1 hL2 hM1 hM2
  cases hk : knownB x s.name with
  | true =>
    obtain ⟨k, hfk, hkl, hpk⟩ := find_pkg hk
    have HN := Lib.hid hfk
    have hkL : k < L1 := by rw [HL1.out]; exact hkl
    obtain ⟨q, hq⟩ : ∃ q, settsB (nth x.pkgs k) s.sets = q := ⟨_, rfl⟩
    obtain ⟨rr, hrr⟩ : ∃ r, wishCode x s = r := ⟨_, rfl⟩
    have HRR := Lib.hid (show rr = if q then 0 else 8 by rw [← hrr, wishCode_known hk, hpk]; unfold settCode; rw [hq])
    rw [hrr]
    have HQ := Lib.hid hq
    clear hk hfk hkl hpk hq hrr
    go_enter Try.func73, Try.ntmps73
    go_wp2_with fail
    refine (refFind_is _ _ _ x s.name (HR.out.below HX.out.bel (Nat.le_refl _)) k HN.out).mono ?_
    rintro e w2 ⟨rfl, hb⟩
    have hx2 := HX.out.step hb
    obtain ⟨b, off, e1, e2, e3, e4, e5, e6, rfl, hbl, hp, p0, p1, p2, p3, p4, p5, p6, p7⟩ := pkg_at (HR.out.pkgs.below hx2.bel (Nat.le_refl _)) hkL
    have hs2 := HS.out.sets.below hx2.bel (Nat.le_refl _)
    have r0 := cell_regrown (hx2.get0 0 (v := .slice (some ⟨b, off, none⟩) L1 c1) rfl rfl)
    have s2 := cell_regrown (hx2.get 1 2 (v := .slice B2 M2 d2) rfl rfl)
    have q0 := cell_regrown p0
    have q1 := cell_regrown p1
    have q2 := cell_regrown p2
    have q3 := cell_regrown p3
    have q4 := cell_regrown p4
    have q5 := cell_regrown p5
    have q6 := cell_regrown p6
    have q7 := cell_regrown p7
    have k0 : (0 : Int) ≤ (k : Int) := by omega
    have k1 : (k : Int) < (L1 : Int) := by omega
    have CS := Lib.hid (show ∀ d os, Calls Try.prog 74 #[.agg #[.string (nth x.pkgs k).name, .int .i64 (nth x.pkgs k).line, e1, e2, e3, e4, e5, e6], .slice B2 M2 d2] (grow (redrawn w2 d) os) fun e w'' => e = .returned (.bool q) ∧ ∃ p : Regrown, w'' = grow (redrawn w2 p.d) p.os from
      fun d os => Calls.regrown_of (refSettings_is _ _ _ _ _ _ _ _ _ _ (hp.below (below_regrown w2 d os) (Nat.le_refl _)) (hs2.below (below_regrown w2 d os) (Nat.le_refl _)) _ HQ.out))
    have HB2 := Lib.hid hx2.bel
    clear hb hx2 hp hs2 p0 p1 p2 p3 p4 p5 p6 p7
    go_wp2_with fail
    refine wp_region_quiet_below (by kernel_rfl) (by kernel_rfl) ?_
    repeat (go_big_quiet_step ((go_at_call 74; with_reducible exact CS.out _ _)))
    refine wpQuiet_nil ?_
    intro _ hw'
    obtain ⟨⟨dq, osq⟩, hw''⟩ := hw'
    subst hw''
    have HG := Lib.hid (HB2.out.trans ((below_regrown w2 dq osq).mono HB2.out.size))
    clear r0 s2 q0 q1 q2 q3 q4 q5 q6 q7
    cases q with
    | true =>
      go_wp2
      go_ret
      exact ⟨ret_int HRR.out.symm, HG.out⟩
    | false =>
      go_wp2
      go_ret
      exact ⟨ret_int HRR.out.symm, HG.out⟩
  | false =>
    have HN := Lib.hid (find_none hk)
    obtain ⟨rr, hrr⟩ : ∃ r, wishCode x s = r := ⟨_, rfl⟩
    rw [hrr]
    have HRR := Lib.hid (show rr = if virtB x s.name then (if badVirt s then 9 else 0) else 7 by rw [← hrr, wishCode_un hk])
    obtain ⟨q, hq⟩ : ∃ q, virtB x s.name = q := ⟨_, rfl⟩
    rw [hq] at HRR
    have HQ := Lib.hid hq
    clear hk hrr hq
    go_enter Try.func73, Try.ntmps73
    go_wp2_with fail
    refine (refFind_is _ _ _ x s.name (HR.out.below HX.out.bel (Nat.le_refl _)) (-1) HN.out).mono ?_
    rintro e w2 ⟨rfl, hb⟩
    have HX2 := Lib.hid (HX.out.step hb)
    have x0 := HX2.out.get0 0 (v := .slice A1 L1 c1) rfl rfl
    have x1 := HX2.out.get0 1 (v := .slice A2 L2 c2) rfl rfl
    have y0 := HX2.out.get 1 0 (v := .string s.name) rfl rfl
    clear hb
    go_wp2_with fail
    refine (refVirtual_is _ _ _ x s.name (HR.out.below HX2.out.bel (Nat.le_refl _)) HL.out q HQ.out).mono ?_
    rintro e w3 ⟨rfl, hb⟩
    have HX3 := Lib.hid (HX2.out.step hb)
    clear hb x0 x1 y0
    cases q with
    | false =>
      go_wp2
      go_ret
      exact ⟨ret_int HRR.out.symm, HX3.out.bel⟩
    | true =>
    have HR2 := Lib.hid (show rr = if badVirt s then 9 else 0 from HRR.out)
    have y1 := HX3.out.get 1 1 (v := .slice B1 M1 d1) rfl rfl
    have y2 := HX3.out.get 1 2 (v := .slice B2 M2 d2) rfl rfl
    by_cases h2 : 0 < M2
    · have HE := Lib.hid (show rr = 9 by
        have : badVirt s = true := by unfold badVirt; rw [← HM.out.2, decide_eq_true h2, Bool.or_true]
        rw [HR2.out, this]; rfl)
      have k0 : (0 : Int) < (M2 : Int) := by omega
      clear h2
      go_wp2
      go_ret
      exact ⟨ret_int HE.out.symm, HX3.out.bel⟩
    · obtain rfl : M2 = 0 := by omega
      clear h2
      by_cases h1 : M1 = 1
      · subst h1
        have HBV := Lib.hid (show badVirt s = !(eqS (nth s.spans 0).1 noneS && eqS (nth s.spans 0).2 noneS) by
          unfold badVirt
          rw [← HM.out.1, ← HM.out.2]; simp)
        have HR3 := Lib.hid (show rr = if !(eqS (nth s.spans 0).1 noneS && eqS (nth s.spans 0).2 noneS) then 9 else 0 by rw [HR2.out, HBV.out])
        obtain ⟨b, off, rfl, hbl, hs1, hs2, p0, p1⟩ := set_at (HS.out.spans.below HX3.out.bel (Nat.le_refl _)) (j := 0) (by omega)
        rw [Nat.zero_mul, Nat.add_zero] at p0 p1
        have HXB := Lib.hid HX3.out.bel
        clear hs1 hs2
        generalize hsp : nth s.spans 0 = sp at p0 p1 HR3
        obtain ⟨s0, s1⟩ := sp
        cases ha : eqS s0 noneS with
        | false =>
          obtain ⟨f1, f2, f3⟩ := ne_none ha
          have HE := Lib.hid (show rr = 9 by rw [HR3.out, ha]; rfl)
          clear ha hsp HR3
          go_wp2
          go_ret
          exact ⟨ret_int HE.out.symm, HXB.out⟩
        | true =>
          obtain rfl := eqS_none ha
          cases hb : eqS s1 noneS with
          | false =>
            obtain ⟨f1, f2, f3⟩ := ne_none hb
            have HE := Lib.hid (show rr = 9 by rw [HR3.out, hb, Bool.and_false]; rfl)
            clear hb ha hsp HR3
            go_wp2
            go_ret
            exact ⟨ret_int HE.out.symm, HXB.out⟩
          | true =>
            have HE := Lib.hid (show rr = 0 by rw [HR3.out, ha, hb]; rfl)
            obtain rfl := eqS_none hb
            clear hb ha hsp HR3
            go_wp2
            go_ret
            exact ⟨ret_int HE.out.symm, HXB.out⟩
      · have HE := Lib.hid (show rr = 9 by
          have : badVirt s = true := by unfold badVirt; rw [← HM.out.1]; simp [h1]
          rw [HR2.out, this]; rfl)
        have k0 : ¬ (M1 : Int) = 1 := by omega
        clear h1
        go_wp2
        go_ret
        exact ⟨ret_int HE.out.symm, HX3.out.bel⟩
theorem refWish_is (w : World) (v1 v2 u1 u2 : Value) (x : Rec) (s : Spec) (h : IsRec w v1 v2 x) (hs : IsSpec w u1 u2 s) (hl : x.pkgs.length ≤ 1000) (c : Int) (hc : wishCode x s = c) :
    Calls Try.prog 73 #[.agg #[v1, v2], .agg #[.string s.name, u1, u2]] w fun e w' => e = .returned (.int .u8 c) ∧ Below w.heap.size w w' := by subst hc; exact refWish_any w v1 v2 u1 u2 x s h hs hl
end Go.Proofs.Ytggejmojbebhfaa.Rc
