/- What is wrong with a wish. -/
import Derived.Test.YtggejmojbebhfaaRcCode
namespace Go.Proofs.Ytggejmojbebhfaa.Rc
open Go.RowKit Go.Sort

theorem settingsCode_is (w : World) (v1 v2 v3 v4 v5 v6 u1 u2 : Value) (p : Pkg) (s : Spec) (hp : IsPkg w v1 v2 v3 v4 v5 v6 p) (hs : IsSpec w u1 u2 s) (c : Int) (hc : settCode p s.sets = c) :
    Calls Try.prog 67 #[.agg #[.string p.name, .int .i64 p.line, v1, v2, v3, v4, v5, v6], .agg #[.string s.name, u1, u2]] w fun e w' => e = .returned (.int .u8 c) ∧ Below w.heap.size w w' := by
  subst hc; exact settingsCode_any w v1 v2 v3 v4 v5 v6 u1 u2 p s hp hs

/-- Two blocks of the call's own. -/
theorem two_boxes (w : World) (cs ds : Array Value) (S T : TypeId) : Boxed w ((w.alloc (.cells cs S)).alloc (.cells ds T)) w.heap.size cs S ∧ Boxed w ((w.alloc (.cells cs S)).alloc (.cells ds T)) (w.heap.size + 1) ds T := by
  refine ⟨(Boxed.new w cs S).alloc _, ?_⟩
  have h := Boxed.new (w.alloc (.cells cs S)) ds T
  rw [World.size_alloc] at h
  exact ⟨((Boxed.new w cs S).alloc _).bel, h.blk⟩

set_option maxRecDepth 100000 in
set_option maxHeartbeats 1600000 in
theorem withCode_any (w : World) (v1 v2 u1 u2 : Value) (x : Rec) (s : Spec) (h : IsRec w v1 v2 x) (hs : IsSpec w u1 u2 s) :
    Calls Try.prog 68 #[.agg #[v1, v2], .agg #[.string s.name, u1, u2]] w fun e w' => e = .returned (.int .u8 (withCode x s)) ∧ Below w.heap.size w w' := by
  obtain ⟨A1, L1, c1, A2, L2, c2, rfl, rfl, hL1, hL2, hc1, hm1, hc2, hm2⟩ := rec_box h
  obtain ⟨B1, M1, d1, rfl⟩ := hs.spans.sl
  obtain ⟨B2, M2, d2, rfl⟩ := hs.sets.sl
  obtain ⟨hx, hy⟩ := two_boxes w #[.slice A1 L1 c1, .slice A2 L2 c2] #[.string s.name, .slice B1 M1 d1, .slice B2 M2 d2] 25 73
  have HX := Lib.hid hx
  have HY := Lib.hid hy
  have HR := Lib.hid h
  have HS := Lib.hid hs
  have HR1 := Lib.hid (h.below hx.bel (Nat.le_refl _))
  have HL1 := Lib.hid hL1
  unfold withCode
  cases hk : knownB x s.name with
  | false =>
    have HN := Lib.hid (find_none hk)
    clear h hs hx hy hk hL1 hL2
    go_enter Try.func68, Try.ntmps68
    go_wp2_with fail
    refine (find_is _ _ _ x s.name HR1.out (-1) HN.out).mono ?_
    rintro e w2 ⟨rfl, hb⟩
    have HX2 := Lib.hid (HX.out.step hb)
    clear hb
    go_wp2
    go_ret
    exact ⟨rfl, HX2.out.bel⟩
  | true =>
    obtain ⟨k, hfk, hkl, hpk⟩ := find_pkg hk
    have HN := Lib.hid hfk
    have hkL : k < L1 := by rw [hL1]; exact hkl
    obtain ⟨q, hq⟩ : ∃ q, settCode (nth x.pkgs k) s.sets = q := ⟨_, rfl⟩
    rw [if_pos rfl, hpk, hq]
    have HQ := Lib.hid hq
    clear h hs hx hy hk hL1 hL2 hfk hkl hpk hq
    go_enter Try.func68, Try.ntmps68
    go_wp2_with fail
    refine (find_is _ _ _ x s.name HR1.out k HN.out).mono ?_
    rintro e w2 ⟨rfl, hb⟩
    have hx2 := HX.out.step hb
    have hy2 := HY.out.step hb
    obtain ⟨b, off, e1, e2, e3, e4, e5, e6, rfl, hbl, hp, p0, p1, p2, p3, p4, p5, p6, p7⟩ := pkg_at (HR.out.pkgs.below hx2.bel (Nat.le_refl _)) hkL
    have hs2 := HS.out.below hx2.bel (Nat.le_refl _)
    have r0 := cell_regrown (hx2.get 0 (v := .slice (some ⟨b, off, none⟩) L1 c1) rfl)
    have s0 := cell_regrown (hy2.get 0 (v := .string s.name) rfl)
    have s1 := cell_regrown (hy2.get 1 (v := .slice B1 M1 d1) rfl)
    have s2 := cell_regrown (hy2.get 2 (v := .slice B2 M2 d2) rfl)
    have q0 := cell_regrown p0
    have q1 := cell_regrown p1
    have q2 := cell_regrown p2
    have q3 := cell_regrown p3
    have q4 := cell_regrown p4
    have q5 := cell_regrown p5
    have q6 := cell_regrown p6
    have q7 := cell_regrown p7
    have k0 : (0 : Int) ≤ (k : Int) := by omega
    have k1 : (k : Int) < (L1 : Int) := by omega
    have CS := Lib.hid (show ∀ d os, Calls Try.prog 67 #[.agg #[.string (nth x.pkgs k).name, .int .i64 (nth x.pkgs k).line, e1, e2, e3, e4, e5, e6], .agg #[.string s.name, .slice B1 M1 d1, .slice B2 M2 d2]] (grow (redrawn w2 d) os) fun e w'' => e = .returned (.int .u8 q) ∧ ∃ p : Regrown, w'' = grow (redrawn w2 p.d) p.os from
      fun d os => Calls.regrown_of (settingsCode_is _ _ _ _ _ _ _ _ _ _ _ (hp.below (below_regrown w2 d os) (Nat.le_refl _)) (hs2.below (below_regrown w2 d os) (Nat.le_refl _)) _ HQ.out))
    have HB2 := Lib.hid hx2.bel
    clear hb hx2 hy2 hp hs2 p0 p1 p2 p3 p4 p5 p6 p7
    go_wp2_with fail
    refine wp_region_quiet_below (by kernel_rfl) (by kernel_rfl) ?_
    repeat (go_big_quiet_step ((go_at_call 67; with_reducible exact CS.out _ _)))
    refine wpQuiet_nil ?_
    intro _ hw'
    obtain ⟨⟨dq, osq⟩, hw''⟩ := hw'
    subst hw''
    have HG := Lib.hid (HB2.out.trans ((below_regrown w2 dq osq).mono HB2.out.size))
    go_wp2
    go_ret
    exact ⟨rfl, HG.out⟩
end Go.Proofs.Ytggejmojbebhfaa.Rc
