/- The document's word on settings of a package. -/
import Derived.Test.YtaahdhpljlkfjaaGreatZg11
import Derived.Lib.QuietBelow
namespace Go.Proofs.YtaahdhpljlkfjaaGreat.Rc
open Go.RowKit

set_option maxRecDepth 100000 in
set_option maxHeartbeats 3200000 in
theorem refSettings_any (w : World) (v1 v2 v3 v4 v5 v6 u : Value) (p : Pkg) (l : List Set1) (hp : IsPkg w v1 v2 v3 v4 v5 v6 p) (hl : RowD setK w u l) :
    Calls Tryz.prog 63 #[.agg #[.string p.name, .int .i64 p.line, v1, v2, v3, v4, v5, v6], u] w fun e w' => e = .returned (.bool (settsB p l)) ∧ Below w.heap.size w w' := by
  obtain ⟨⟨a1, n1, k1, rfl⟩, ⟨a2, n2, k2, rfl⟩, ⟨a3, n3, k3, rfl⟩, ⟨a4, n4, k4, rfl⟩, ⟨a5, n5, k5, rfl⟩, ⟨a6, n6, k6, rfl⟩⟩ := hp.sls
  obtain ⟨B, M, d, rfl, hM, hd1, hd2⟩ := hl.open'
  unfold maxLen at hd2
  obtain ⟨hk1, hk2⟩ := hp.vars.cap
  have HX := Lib.hid (Bxs.one w #[.string p.name, .int .i64 p.line, .slice a1 n1 k1, .slice a2 n2 k2, .slice a3 n3 k3, .slice a4 n4 k4, .slice a5 n5 k5, .slice a6 n6 k6] 51)
  have HL := Lib.hid hl
  have HM := Lib.hid hM
  have HV := Lib.hid hp.vars
  have HN2 := Lib.hid hp.vars.len
  obtain ⟨rr, hrr⟩ : ∃ r, settsB p l = r := ⟨_, rfl⟩
  rw [hrr]
  have HRR := Lib.hid hrr
  clear hp hl hM hrr
  go_enter Tryz.func63, Tryz.ntmps63
  go_wp2
  go_loopw [10] (fun i wr => ∃ k : Nat, k ≤ M ∧ i = .int .i64 k ∧ Hid ((l.take k).all (settB p.vars) = true) ∧ Bxs w wr [(#[.string p.name, .int .i64 p.line, .slice a1 n1 k1, .slice a2 n2 k2, .slice a3 n3 k3, .slice a4 n4 k4, .slice a5 n5 k5, .slice a6 n6 k6], 51)]) (fun i _ => M - (RowKit.intOf i).toNat)
  case atStart => exact ⟨0, Nat.zero_le _, rfl, Lib.hid (by simp), HX.out⟩
  case round =>
    clear HX
    obtain ⟨k, hk, rfl, hall, hx⟩ := hrel
    have HX := Lib.hid hx
    by_cases hlt : k < M
    · have hkl : k < l.length := by rw [← HM.out]; exact hlt
      have HSN := Lib.hid (all_snoc hkl (settB p.vars))
      have HAT := Lib.hid (fun h => all_at (l := l) (p := settB p.vars) hkl h)
      have x3 := hx.get0 3 (v := .slice a2 n2 k2) rfl rfl
      clear hx hkl
      go_wp2
      clear x3
      go_loopw [6, 16] (fun t i wr => ∃ (m : Nat) (y : Bool), m ≤ n2 ∧ i = .int .i64 m ∧ t = .bool y ∧ Hid (y = (p.vars.take m).any fun v => settP v (nth l k).1 (nth l k).2) ∧ Bxs w wr [(#[.string p.name, .int .i64 p.line, .slice a1 n1 k1, .slice a2 n2 k2, .slice a3 n3 k3, .slice a4 n4 k4, .slice a5 n5 k5, .slice a6 n6 k6], 51)]) (fun _ i _ => n2 - (RowKit.intOf i).toNat)
      case atStart => exact ⟨0, false, Nat.zero_le _, rfl, rfl, Lib.hid (by simp), HX.out⟩
      case round =>
        clear HX
        obtain ⟨m, y, hm, rfl, rfl, hy, hx⟩ := hrel
        have HX2 := Lib.hid hx
        by_cases hlm : m < n2
        · have hml : m < p.vars.length := by rw [← HN2.out]; exact hlm
          have HAS := Lib.hid (any_snoc hml (fun v => settP v (nth l k).1 (nth l k).2))
          cases y with
          | true =>
            have hn' : Hid (true = (p.vars.take (m + 1)).any fun v => settP v (nth l k).1 (nth l k).2) := Lib.hid (by rw [HAS.out, ← hy.out]; rfl)
            clear hx hml
            go_wp2_with fail
            go_quiet (fail)
            go_wp2
            go_roundw
            case rel => exact ⟨m + 1, true, by omega, by go_num, rfl, hn', HX2.out.drewN _⟩
            case measure => simp [RowKit.intOf]; omega
          | false =>
            obtain ⟨b, off, u1, rfl, hb, hs, hr, d0, d1⟩ := var_at (HV.out.below hx.bel (Nat.le_refl _)) hlm
            obtain ⟨b2, off2, rfl, hb2, hs1, hs2, c0, c1⟩ := set_at (HL.out.below hx.bel (Nat.le_refl _)) hlt
            obtain ⟨Bv, Mv, dv, rfl⟩ := hr.sl
            have x3 := hx.get0 3 (v := .slice (some ⟨b, off, none⟩) n2 k2) rfl rfl
            have g0 : (0 : Int) ≤ (m : Int) := by omega
            have g1 : (m : Int) < (n2 : Int) := by omega
            have g2 : (0 : Int) ≤ (k : Int) := by omega
            have g3 : (k : Int) < (M : Int) := by omega
            clear hx hml hs hs1 hs2
            cases he : eqS (nth p.vars m).1 (nth l k).1 with
            | false =>
              have hn' : Hid (false = (p.vars.take (m + 1)).any fun v => settP v (nth l k).1 (nth l k).2) := Lib.hid (by rw [HAS.out, ← hy.out]; unfold settP; rw [he]; rfl)
              have f1 : ((nth p.vars m).1.toList == (nth l k).1.toList) = false := he
              clear he hr
              go_wp2_with fail
              go_quiet (fail)
              go_wp2
              go_roundw
              case rel => exact ⟨m + 1, false, by omega, by go_num, rfl, hn', HX2.out.drewN _⟩
              case measure => simp [RowKit.intOf]; omega
            | true =>
              have f1 : ((nth p.vars m).1.toList == (nth l k).1.toList) = true := he
              obtain ⟨q, hq⟩ : ∃ q, hasS (nth p.vars m).2 (nth l k).2 = q := ⟨_, rfl⟩
              have hn' : Hid (q = (p.vars.take (m + 1)).any fun v => settP v (nth l k).1 (nth l k).2) := Lib.hid (by rw [HAS.out, ← hy.out]; unfold settP; rw [he, hq]; rfl)
              have CQ := Lib.hid (fun n => refHas_is (wr.drewN n) (.slice Bv Mv dv) _ (nth l k).2 (hr.below (below_draws (Below.refl wr.heap.size wr) n) (Nat.le_refl _)) q hq)
              clear he hr hq
              go_wp2_with fail
              go_quiet ((go_at_call 32; exact quiet_eq (CQ.out _)))
              go_wp2
              go_roundw
              case rel => exact ⟨m + 1, q, by omega, by go_num, rfl, hn', HX2.out.drewN _⟩
              case measure => simp [RowKit.intOf]; omega
        · obtain rfl : n2 = m := by omega
          have HQ := Lib.hid (show settB p.vars (nth l k) = y by
            have h := hy.out
            rw [HN2.out, List.take_length] at h
            exact h.symm)
          clear hx
          cases y with
          | true =>
            have hn' : Hid ((l.take (k + 1)).all (settB p.vars) = true) := Lib.hid (by rw [HSN.out, hall.out, HQ.out]; rfl)
            go_wp2
            go_roundw
            case rel => exact ⟨k + 1, by omega, by go_num, hn', HX2.out⟩
            case measure => simp [RowKit.intOf]; omega
          | false =>
            have HE := Lib.hid (show rr = false by rw [← HRR.out]; exact HAT.out HQ.out)
            go_wp2
            go_ret
            exact ⟨ret_bool HE.out.symm, HX2.out.bel⟩
    · obtain rfl : M = k := by omega
      have HE := Lib.hid (show rr = true by
        have h := hall.out
        rw [HM.out, List.take_length] at h
        rw [← HRR.out]; exact h)
      clear hx
      go_wp2
      go_ret
      exact ⟨ret_bool HE.out.symm, HX.out.bel⟩
theorem refSettings_is (w : World) (v1 v2 v3 v4 v5 v6 u : Value) (p : Pkg) (l : List Set1) (hp : IsPkg w v1 v2 v3 v4 v5 v6 p) (hl : RowD setK w u l) (b : Bool) (hb : settsB p l = b) :
    Calls Tryz.prog 63 #[.agg #[.string p.name, .int .i64 p.line, v1, v2, v3, v4, v5, v6], u] w fun e w' => e = .returned (.bool b) ∧ Below w.heap.size w w' := by subst hb; exact refSettings_any w v1 v2 v3 v4 v5 v6 u p l hp hl

set_option maxRecDepth 100000 in
set_option maxHeartbeats 1600000 in
theorem refTwice_any (w : World) (v : Value) (l : List ByteArray) (h : RowD strK w v l) :
    Calls Tryz.prog 61 #[v] w fun e w' => e = .returned (.bool (twiceB l)) ∧ Below w.heap.size w w' := by
  obtain ⟨A, L, c, rfl, hL, h1, h2⟩ := h.open'
  unfold maxLen at h2
  have H := Lib.hid h
  have HL := Lib.hid hL
  clear h hL
  go_enter Tryz.func61, Tryz.ntmps61
  go_wp2
  go_loopw [7] (fun i wr => ∃ k q : Nat, k ≤ L ∧ i = .int .i64 k ∧ Hid ((List.range k).any (fun i => hasS (l.take i) (nth l i)) = false) ∧ wr = w.drewN q) (fun i _ => L - (RowKit.intOf i).toNat)
  case atStart => exact ⟨0, 0, Nat.zero_le _, rfl, Lib.hid (by simp), rfl⟩
  case round =>
    obtain ⟨k, q, hk, rfl, hall, rfl⟩ := hrel
    by_cases hlt : k < L
    · have HS := Lib.hid (range_any_snoc k (fun i => hasS (l.take i) (nth l i)))
      have hkl : k < l.length := by rw [← HL.out]; exact hlt
      have HKL := Lib.hid hkl
      clear hkl
      go_wp2
      go_loopw [4] (fun i wr => ∃ m q : Nat, m ≤ k ∧ i = .int .i64 m ∧ Hid (((l.take k).take m).any (eqS (nth l k)) = false) ∧ wr = w.drewN q) (fun i _ => k - (RowKit.intOf i).toNat)
      case atStart => exact ⟨0, _, Nat.zero_le _, rfl, Lib.hid (by simp), rfl⟩
      case round =>
        obtain ⟨m, q2, hm, rfl, hal2, rfl⟩ := hrel
        by_cases hlm : m < k
        · obtain ⟨b, off, e0, hb, hs, c0⟩ := str_at H.out hlt
          obtain ⟨b', off', e1, hb', hs', c1⟩ := str_at H.out (show m < L by omega)
          have e2 := e0.symm.trans e1
          injection e2 with e2
          injection e2 with e2 e3
          subst e2 e3 e0
          have hmk : m < (l.take k).length := by rw [List.length_take]; have := HKL.out; omega
          have HAS := Lib.hid (any_snoc hmk (eqS (nth l k)))
          have HNT := Lib.hid (nth_take (l := l) hlm)
          have HTW := Lib.hid (fun (h : eqS (nth l k) (nth (l.take k) m) = true) => show twiceB l = true from List.any_eq_true.2 ⟨k, List.mem_range.2 HKL.out, any_at hmk h⟩)
          have g0 : (0 : Int) ≤ (m : Int) := by omega
          have g1 : (m : Int) < (L : Int) := by omega
          have g2 : (0 : Int) ≤ (k : Int) := by omega
          have g3 : (k : Int) < (L : Int) := by omega
          clear hs hs' hmk e1
          cases he : eqS (nth l k) (nth l m) with
          | true =>
            have f1 : ((nth l k).toList == (nth l m).toList) = true := he
            have HE := Lib.hid (show twiceB l = true from HTW.out (by rw [HNT.out]; exact he))
            clear he
            go_wp2_with fail
            go_quiet (fail)
            go_wp2
            go_ret
            exact ⟨ret_bool HE.out.symm, below_draws (below_draws (Below.refl _ _) _) _⟩
          | false =>
            have f1 : ((nth l k).toList == (nth l m).toList) = false := he
            have hn' : Hid (((l.take k).take (m + 1)).any (eqS (nth l k)) = false) := Lib.hid (by rw [HAS.out, hal2.out, HNT.out, he]; rfl)
            clear he
            go_wp2_with fail
            go_quiet (fail)
            go_wp2
            go_roundw
            case rel => exact ⟨m + 1, _, by omega, by go_num, hn', rfl⟩
            case measure => simp [RowKit.intOf]; omega
        · obtain rfl : k = m := by omega
          have hn' : Hid ((List.range (k + 1)).any (fun i => hasS (l.take i) (nth l i)) = false) := Lib.hid (by
            have h := hal2.out
            rw [List.take_of_length_le (by rw [List.length_take]; omega)] at h
            rw [HS.out, hall.out]; exact h)
          go_wp2
          go_roundw
          case rel => exact ⟨k + 1, q2, by omega, by go_num, hn', rfl⟩
          case measure => simp [RowKit.intOf]; omega
    · obtain rfl : L = k := by omega
      have Hv := Lib.hid (show twiceB l = false by
        have := hall.out
        rwa [HL.out] at this)
      go_wp2
      go_ret
      exact ⟨ret_bool Hv.out.symm, below_draws (Below.refl _ _) _⟩
theorem refTwice_is (w : World) (v : Value) (l : List ByteArray) (h : RowD strK w v l) (b : Bool) (hb : twiceB l = b) :
    Calls Tryz.prog 61 #[v] w fun e w' => e = .returned (.bool b) ∧ Below w.heap.size w w' := by subst hb; exact refTwice_any w v l h
end Go.Proofs.YtaahdhpljlkfjaaGreat.Rc

/- The document's word on wishes. -/
namespace Go.Proofs.YtaahdhpljlkfjaaGreat.Rc
open Go.RowKit Go.Sort

theorem wishCode_known {x : Rec} {s : Spec} (h : knownB x s.name = true) : wishCode x s = settCode (pkgOf x s.name) s.sets := by
  unfold wishCode withCode virtB
  rw [h]; rfl
theorem wishCode_un {x : Rec} {s : Spec} (h : knownB x s.name = false) : wishCode x s = if virtB x s.name then (if badVirt s then 9 else 0) else 7 := by
  unfold wishCode withCode
  rw [h]; rfl

set_option maxRecDepth 100000 in
set_option maxHeartbeats 3200000 in
theorem refWish_any (w : World) (v1 v2 u1 u2 : Value) (x : Rec) (s : Spec) (h : IsRec w v1 v2 x) (hs : IsSpec w u1 u2 s) (hl : x.pkgs.length ≤ 1000) :
    Calls Tryz.prog 39 #[.agg #[v1, v2], .agg #[.string s.name, u1, u2]] w fun e w' => e = .returned (.int .u8 (wishCode x s)) ∧ Below w.heap.size w w' := by
  obtain ⟨A1, L1, c1, A2, L2, c2, rfl, rfl, hL1, hL2, hc1, hm1, hc2, hm2⟩ := rec_box h
  obtain ⟨B1, M1, d1, rfl, hM1, hq1, hq2⟩ := hs.spans.open'
  obtain ⟨B2, M2, d2, rfl, hM2, hq3, hq4⟩ := hs.sets.open'
  unfold maxLen at hq2 hq4
  have HX := Lib.hid (Bxs.two w #[.slice A1 L1 c1, .slice A2 L2 c2] 25 #[.string s.name, .slice B1 M1 d1, .slice B2 M2 d2] 59)
  have HR := Lib.hid h
  have HS := Lib.hid hs
  have HL := Lib.hid hl
  have HM := Lib.hid (show M1 = s.spans.length ∧ M2 = s.sets.length from ⟨hM1, hM2⟩)
  have HL1 := Lib.hid hL1
  clear h hs hl hL1 hL2 hM1 hM2
  cases hk : knownB x s.name with
  | true =>
    obtain ⟨k, hfk, hkl, hpk⟩ := find_pkg hk
    have HN := Lib.hid hfk
    have hkL : k < L1 := by rw [HL1.out]; exact hkl
    obtain ⟨q, hq⟩ : ∃ q, settsB (nth x.pkgs k) s.sets = q := ⟨_, rfl⟩
    obtain ⟨rr, hrr⟩ : ∃ r, wishCode x s = r := ⟨_, rfl⟩
    have HRR := Lib.hid (show rr = if q then 0 else 8 by rw [← hrr, wishCode_known hk, hpk]; unfold settCode; rw [hq])
    rw [hrr]
    have HQ := Lib.hid hq
    clear hk hfk hkl hpk hq hrr
    go_enter Tryz.func39, Tryz.ntmps39
    go_wp2_with fail
    refine (refFind_is _ _ _ x s.name (HR.out.below HX.out.bel (Nat.le_refl _)) k HN.out).mono ?_
    rintro e w2 ⟨rfl, hb⟩
    have hx2 := HX.out.step hb
    obtain ⟨b, off, e1, e2, e3, e4, e5, e6, rfl, hbl, hp, p0, p1, p2, p3, p4, p5, p6, p7⟩ := pkg_at (HR.out.pkgs.below hx2.bel (Nat.le_refl _)) hkL
    have hs2 := HS.out.sets.below hx2.bel (Nat.le_refl _)
    have r0 := cell_regrown (hx2.get0 0 (v := .slice (some ⟨b, off, none⟩) L1 c1) rfl rfl)
    have s2 := cell_regrown (hx2.get 1 2 (v := .slice B2 M2 d2) rfl rfl)
    have q0 := cell_regrown p0
    have q1 := cell_regrown p1
    have q2 := cell_regrown p2
    have q3 := cell_regrown p3
    have q4 := cell_regrown p4
    have q5 := cell_regrown p5
    have q6 := cell_regrown p6
    have q7 := cell_regrown p7
    have k0 : (0 : Int) ≤ (k : Int) := by omega
    have k1 : (k : Int) < (L1 : Int) := by omega
    have CS := Lib.hid (show ∀ d os, Calls Tryz.prog 63 #[.agg #[.string (nth x.pkgs k).name, .int .i64 (nth x.pkgs k).line, e1, e2, e3, e4, e5, e6], .slice B2 M2 d2] (grow (redrawn w2 d) os) fun e w'' => e = .returned (.bool q) ∧ ∃ p : Regrown, w'' = grow (redrawn w2 p.d) p.os from
      fun d os => Calls.regrown_of (refSettings_is _ _ _ _ _ _ _ _ _ _ (hp.below (below_regrown w2 d os) (Nat.le_refl _)) (hs2.below (below_regrown w2 d os) (Nat.le_refl _)) _ HQ.out))
    have HB2 := Lib.hid hx2.bel
    clear hb hx2 hp hs2 p0 p1 p2 p3 p4 p5 p6 p7
    go_wp2_with fail
    refine wp_region_quiet_below (by kernel_rfl) (by kernel_rfl) ?_
    repeat (go_big_quiet_step ((go_at_call 63; with_reducible exact CS.out _ _)))
    refine wpQuiet_nil ?_
    intro _ hw'
    obtain ⟨⟨dq, osq⟩, hw''⟩ := hw'
    subst hw''
    have HG := Lib.hid (HB2.out.trans ((below_regrown w2 dq osq).mono HB2.out.size))
    clear r0 s2 q0 q1 q2 q3 q4 q5 q6 q7
    cases q with
    | true =>
      go_wp2
      go_ret
      exact ⟨ret_int HRR.out.symm, HG.out⟩
    | false =>
      go_wp2
      go_ret
      exact ⟨ret_int HRR.out.symm, HG.out⟩
  | false =>
    have HN := Lib.hid (find_none hk)
    obtain ⟨rr, hrr⟩ : ∃ r, wishCode x s = r := ⟨_, rfl⟩
    rw [hrr]
    have HRR := Lib.hid (show rr = if virtB x s.name then (if badVirt s then 9 else 0) else 7 by rw [← hrr, wishCode_un hk])
    obtain ⟨q, hq⟩ : ∃ q, virtB x s.name = q := ⟨_, rfl⟩
    rw [hq] at HRR
    have HQ := Lib.hid hq
    clear hk hrr hq
    go_enter Tryz.func39, Tryz.ntmps39
    go_wp2_with fail
    refine (refFind_is _ _ _ x s.name (HR.out.below HX.out.bel (Nat.le_refl _)) (-1) HN.out).mono ?_
    rintro e w2 ⟨rfl, hb⟩
    have HX2 := Lib.hid (HX.out.step hb)
    have x0 := HX2.out.get0 0 (v := .slice A1 L1 c1) rfl rfl
    have x1 := HX2.out.get0 1 (v := .slice A2 L2 c2) rfl rfl
    have y0 := HX2.out.get 1 0 (v := .string s.name) rfl rfl
    clear hb
    go_wp2_with fail
    refine (refVirtual_is _ _ _ x s.name (HR.out.below HX2.out.bel (Nat.le_refl _)) HL.out q HQ.out).mono ?_
    rintro e w3 ⟨rfl, hb⟩
    have HX3 := Lib.hid (HX2.out.step hb)
    clear hb x0 x1 y0
    cases q with
    | false =>
      go_wp2
      go_ret
      exact ⟨ret_int HRR.out.symm, HX3.out.bel⟩
    | true =>
    have HR2 := Lib.hid (show rr = if badVirt s then 9 else 0 from HRR.out)
    have y1 := HX3.out.get 1 1 (v := .slice B1 M1 d1) rfl rfl
    have y2 := HX3.out.get 1 2 (v := .slice B2 M2 d2) rfl rfl
    by_cases h2 : 0 < M2
    · have HE := Lib.hid (show rr = 9 by
        have : badVirt s = true := by unfold badVirt; rw [← HM.out.2, decide_eq_true h2, Bool.or_true]
        rw [HR2.out, this]; rfl)
      have k0 : (0 : Int) < (M2 : Int) := by omega
      clear h2
      go_wp2
      go_ret
      exact ⟨ret_int HE.out.symm, HX3.out.bel⟩
    · obtain rfl : M2 = 0 := by omega
      clear h2
      by_cases h1 : M1 = 1
      · subst h1
        have HBV := Lib.hid (show badVirt s = !(eqS (nth s.spans 0).1 noneS && eqS (nth s.spans 0).2 noneS) by
          unfold badVirt
          rw [← HM.out.1, ← HM.out.2]; simp)
        have HR3 := Lib.hid (show rr = if !(eqS (nth s.spans 0).1 noneS && eqS (nth s.spans 0).2 noneS) then 9 else 0 by rw [HR2.out, HBV.out])
        obtain ⟨b, off, rfl, hbl, hs1, hs2, p0, p1⟩ := set_at (HS.out.spans.below HX3.out.bel (Nat.le_refl _)) (j := 0) (by omega)
        rw [Nat.zero_mul, Nat.add_zero] at p0 p1
        have HXB := Lib.hid HX3.out.bel
        clear hs1 hs2
        generalize hsp : nth s.spans 0 = sp at p0 p1 HR3
        obtain ⟨s0, s1⟩ := sp
        cases ha : eqS s0 noneS with
        | false =>
          obtain ⟨f1, f2, f3⟩ := ne_none ha
          have HE := Lib.hid (show rr = 9 by rw [HR3.out, ha]; rfl)
          clear ha hsp HR3
          go_wp2
          go_ret
          exact ⟨ret_int HE.out.symm, HXB.out⟩
        | true =>
          obtain rfl := eqS_none ha
          cases hb : eqS s1 noneS with
          | false =>
            obtain ⟨f1, f2, f3⟩ := ne_none hb
            have HE := Lib.hid (show rr = 9 by rw [HR3.out, hb, Bool.and_false]; rfl)
            clear hb ha hsp HR3
            go_wp2
            go_ret
            exact ⟨ret_int HE.out.symm, HXB.out⟩
          | true =>
            have HE := Lib.hid (show rr = 0 by rw [HR3.out, ha, hb]; rfl)
            obtain rfl := eqS_none hb
            clear hb ha hsp HR3
            go_wp2
            go_ret
            exact ⟨ret_int HE.out.symm, HXB.out⟩
      · have HE := Lib.hid (show rr = 9 by
          have : badVirt s = true := by unfold badVirt; rw [← HM.out.1]; simp [h1]
          rw [HR2.out, this]; rfl)
        have k0 : ¬ (M1 : Int) = 1 := by omega
        clear h1
        go_wp2
        go_ret
        exact ⟨ret_int HE.out.symm, HX3.out.bel⟩
theorem refWish_is (w : World) (v1 v2 u1 u2 : Value) (x : Rec) (s : Spec) (h : IsRec w v1 v2 x) (hs : IsSpec w u1 u2 s) (hl : x.pkgs.length ≤ 1000) (c : Int) (hc : wishCode x s = c) :
    Calls Tryz.prog 39 #[.agg #[v1, v2], .agg #[.string s.name, u1, u2]] w fun e w' => e = .returned (.int .u8 c) ∧ Below w.heap.size w w' := by subst hc; exact refWish_any w v1 v2 u1 u2 x s h hs hl
end Go.Proofs.YtaahdhpljlkfjaaGreat.Rc
