/- SpansMeet's walk. -/
import Derived.Test.YtdijkekglaimfaaGreatSsFormLawG
import Derived.Test.YtdijkekglaimfaaGreatSsGrpM
namespace Go.Proofs.YtdijkekglaimfaaGreat.Sq
open Go.RowKit Rc Ver Ss

theorem meet_comm (a b : List Spn) (h : (form a).2 = true ∧ (form b).2 = true) : meetF b a = meetF a b := by
  unfold meetF
  rw [h.1, h.2, Bool.true_and, if_pos rfl, if_pos rfl, meetL_comm (form_true h.1).2.1.row.oks (form_true h.2).2.1.row.oks]
theorem meet_has {a b : List Spn} (h : (form a).2 = true ∧ (form b).2 = true) (hu : (form (meetL (form a).1 (form b).1)).2 = true) (v : Bs) : hasL (meetF a b) v = (hasL a v && hasL b v) := by
  unfold meetF
  rw [h.1, h.2, Bool.true_and, if_pos rfl, hasL_form hu, hasL_meetL (form_true h.1).2.1.row.oks (form_true h.2).2.1.row.oks, hasL_form h.1, hasL_form h.2]
set_option maxRecDepth 100000 in
set_option maxHeartbeats 4000000 in
theorem spansMeet_w (A : Option Addr) (L c : Nat) (a : List Spn) (A2 : Option Addr) (L2 c2 : Nat) (b : List Spn) (s : ByteArray) (hs : s.size ≤ maxLen) (w : World) (h1 : IsSpans w A L c a) (h2 : IsSpans w A2 L2 c2 b) :
    Calls Tryz.prog 5 #[.slice A L c, .slice A2 L2 c2, .string s] w fun e w' => e = .returned (.bool true) ∧ RowKit.Below w.heap.size w w' := by
  have h1' : RowD setK w (.slice A L c) a := h1
  have h2' : RowD setK w (.slice A2 L2 c2) b := h2
  unfold maxLen at hs
  have K0 := Lib.hid (((Keep.nil w).push h1').push h2')
  clear h1 h2 h1' h2'
  go_enter Tryz.func5, Tryz.ntmps5
  go_wp2_with fail
  refine (great3_any w _ a (K0.out.get (.slice A L c) a (by simp))).mono ?_
  rintro e w1 ⟨p, rfl, hp, rfl⟩
  cases p with
  | true =>
    clear hp
    go_wp2_with fail
    refine (fixed3_any _).mono ?_
    rintro e w2 ⟨rfl, hb2⟩
    have HB := Lib.hid hb2
    clear hb2
    go_wp2
    go_ret
    exact ⟨rfl, HB.out⟩
  | false =>
  have hla : a.length ≤ 30 := (hp rfl).1
  clear hp
  go_wp2_with fail
  refine (great3_any w _ b (K0.out.get (.slice A2 L2 c2) b (by simp))).mono ?_
  rintro e w1 ⟨p, rfl, hp, rfl⟩
  cases p with
  | true =>
    clear hp
    go_wp2_with fail
    refine (fixed3_any _).mono ?_
    rintro e w2 ⟨rfl, hb2⟩
    have HB := Lib.hid hb2
    clear hb2
    go_wp2
    go_ret
    exact ⟨rfl, HB.out⟩
  | false =>
  have hlb : b.length ≤ 30 := (hp rfl).1
  clear hp
  by_cases hx3 : 3000 < s.size
  · have g3 : (3000 : Int) < (s.size : Int) := by omega
    go_wp2_with fail
    refine (fixed3_any _).mono ?_
    rintro e w2 ⟨rfl, hb2⟩
    have HB := Lib.hid hb2
    clear hb2
    go_wp2
    go_ret
    exact ⟨rfl, HB.out⟩
  have g3 : ¬ (3000 : Int) < (s.size : Int) := by omega
  obtain ⟨x, p, hxp⟩ : ∃ x p, form a = (x, p) := ⟨_, _, rfl⟩
  obtain ⟨y, q, hyq⟩ : ∃ y q, form b = (y, q) := ⟨_, _, rfl⟩
  have hlx := form_le a
  have hly := form_le b
  rw [hxp] at hlx
  rw [hyq] at hly
  have hlx : x.length ≤ 16 := hlx
  have hly : y.length ≤ 16 := hly
  have HX := Lib.hid hxp
  have HY := Lib.hid hyq
  obtain ⟨z, hz⟩ : ∃ z, meetF a b = z := ⟨_, rfl⟩
  have HZ := Lib.hid hz
  have HZ2 := Lib.hid (show z = if (p && q) = true then (form (meetL x y)).1 else [] by rw [← hz]; unfold meetF; rw [hxp, hyq])
  clear hxp hyq hz
  go_wp2_with fail
  refine (refForm_is _ _ a (K0.out.get (.slice A L c) a (by simp)) (by omega) (x, p) HX.out).mono ?_
  rintro e w1 ⟨v1, rfl, hv1, hb1⟩
  obtain ⟨B1, M1, d1, rfl⟩ := hv1.sl
  have K1 := Lib.hid ((K0.out.step hb1).push hv1)
  clear hv1 hb1
  go_wp2_with fail
  refine (refForm_is _ _ b (K1.out.get (.slice A2 L2 c2) b (by simp)) (by omega) (y, q) HY.out).mono ?_
  rintro e w2 ⟨v2, rfl, hv2, hb2⟩
  obtain ⟨B2, M2, d2, rfl⟩ := hv2.sl
  have K2 := Lib.hid ((K1.out.step hb2).push hv2)
  clear hv2 hb2
  go_wp2_with fail
  refine (meetF_is _ _ _ a b (K2.out.get (.slice A L c) a (by simp)) (K2.out.get (.slice A2 L2 c2) b (by simp)) (by omega) (by omega) z HZ.out).mono ?_
  rintro e w3 ⟨v3, rfl, hv3, hb3⟩
  obtain ⟨B3, M3, d3, rfl⟩ := hv3.sl
  have HM3 := Lib.hid hv3.len
  have K3 := Lib.hid ((K2.out.step hb3).push hv3)
  clear hv3 hb3
  by_cases hpq : (p && q) = true
  · obtain ⟨hp, hq⟩ := (Bool.and_eq_true _ _).mp hpq
    subst hp
    subst hq
    have HZ3 := Lib.hid (show z = (form (meetL x y)).1 by rw [HZ2.out, if_pos hpq])
    obtain ⟨t, r, htr⟩ : ∃ t r, form (meetL x y) = (t, r) := ⟨_, _, rfl⟩
    have HT := Lib.hid htr
    have hzt : z = t := by rw [HZ3.out, htr]
    subst hzt
    have HAB := Lib.hid (show (form a).2 = true ∧ (form b).2 = true from ⟨by rw [HX.out], by rw [HY.out]⟩)
    clear htr hpq
    have HXY := Lib.hid (show x.length * y.length ≤ 1000 by have := Nat.mul_le_mul hlx hly; omega)
    go_wp2_with fail
    refine (refMeetL_is _ _ _ x y (K3.out.get (.slice B1 M1 d1) x (by simp)) (K3.out.get (.slice B2 M2 d2) y (by simp)) HXY.out (z, r) HT.out).mono ?_
    rintro e w8 ⟨v8, rfl, hv8, hb8⟩
    obtain ⟨B8, M8, d8, rfl⟩ := hv8.sl
    have K5 := Lib.hid ((K3.out.step hb8).push hv8)
    clear hv8 hb8
    cases r with
    | false =>
      have hz0 : z = [] := by
        have := form_false (l := meetL x y) (by rw [HT.out])
        rw [HT.out] at this
        exact congrArg Prod.fst this
      have hM : M3 = 0 := by rw [HM3.out, hz0]; rfl
      subst hM
      clear hz0
      go_wp2_with fail
      refine (fixed3_any _).mono ?_
      rintro e w9 ⟨rfl, hb9⟩
      have K6 := Lib.hid (K5.out.step hb9)
      clear hb9
      go_wp2
      go_ret
      exact ⟨rfl, K6.out.bel⟩
    | true =>
      obtain ⟨qa, hqa⟩ : ∃ q, hasL a s.data.toList = q := ⟨_, rfl⟩
      obtain ⟨qb, hqb⟩ : ∃ q, hasL b s.data.toList = q := ⟨_, rfl⟩
      have HQA := Lib.hid hqa
      have HQB := Lib.hid hqb
      have HQZ := Lib.hid (show hasL z s.data.toList = (qa && qb) by
        rw [← hqa, ← hqb, ← meet_has HAB.out (by rw [HX.out, HY.out]; show (form (meetL x y)).2 = true; rw [HT.out]), HZ.out])
      have HZC := Lib.hid (show meetF b a = z by rw [meet_comm a b HAB.out, HZ.out])
      clear hqa hqb
      go_wp2_with fail
      refine (fixed3_any _).mono ?_
      rintro e w9 ⟨rfl, hb9⟩
      have K6 := Lib.hid (K5.out.step hb9)
      clear hb9
      go_wp2_with fail
      refine (refSame_is _ _ _ z z (K6.out.get (.slice B3 M3 d3) z (by simp)) (K6.out.get (.slice B8 M8 d8) z (by simp)) true (by simp)).mono ?_
      rintro e w10 ⟨rfl, hb10⟩
      have K7 := Lib.hid (K6.out.step hb10)
      clear hb10
      go_wp2_with fail
      refine (hasL_is _ _ z s (K7.out.get (.slice B3 M3 d3) z (by simp)) (qa && qb) HQZ.out).mono ?_
      rintro e w11 ⟨rfl, hb11⟩
      have K8 := Lib.hid (K7.out.step hb11)
      clear hb11
      go_wp2_with fail
      refine (refHasL_is _ _ a s (K8.out.get (.slice A L c) a (by simp)) qa HQA.out).mono ?_
      rintro e w12 ⟨rfl, hb12⟩
      have K9 := Lib.hid (K8.out.step hb12)
      clear hb12
      cases qa with
      | false =>
        go_wp2_with fail
        refine (meetF_is _ _ _ b a (K9.out.get (.slice A2 L2 c2) b (by simp)) (K9.out.get (.slice A L c) a (by simp)) (by omega) (by omega) z HZC.out).mono ?_
        rintro e w13 ⟨v13, rfl, hv13, hb13⟩
        obtain ⟨B13, M13, d13, rfl⟩ := hv13.sl
        have K10 := Lib.hid ((K9.out.step hb13).push hv13)
        clear hv13 hb13
        go_wp2_with fail
        refine (refSame_is _ _ _ z z (K10.out.get (.slice B13 M13 d13) z (by simp)) (K10.out.get (.slice B3 M3 d3) z (by simp)) true (by simp)).mono ?_
        rintro e w14 ⟨rfl, hb14⟩
        have K11 := Lib.hid (K10.out.step hb14)
        clear hb14
        go_wp2
        go_ret
        exact ⟨rfl, K11.out.bel⟩
      | true =>
        have g7 : (qb == qb) = true := by simp
        go_wp2_with fail
        refine (refHasL_is _ _ b s (K9.out.get (.slice A2 L2 c2) b (by simp)) qb HQB.out).mono ?_
        rintro e w12b ⟨rfl, hb12⟩
        have K9b := Lib.hid (K9.out.step hb12)
        clear hb12
        go_wp2_with fail
        refine (meetF_is _ _ _ b a (K9b.out.get (.slice A2 L2 c2) b (by simp)) (K9b.out.get (.slice A L c) a (by simp)) (by omega) (by omega) z HZC.out).mono ?_
        rintro e w13 ⟨v13, rfl, hv13, hb13⟩
        obtain ⟨B13, M13, d13, rfl⟩ := hv13.sl
        have K10 := Lib.hid ((K9b.out.step hb13).push hv13)
        clear hv13 hb13
        go_wp2_with fail
        refine (refSame_is _ _ _ z z (K10.out.get (.slice B13 M13 d13) z (by simp)) (K10.out.get (.slice B3 M3 d3) z (by simp)) true (by simp)).mono ?_
        rintro e w14 ⟨rfl, hb14⟩
        have K11 := Lib.hid (K10.out.step hb14)
        clear hb14
        go_wp2
        go_ret
        exact ⟨rfl, K11.out.bel⟩
  · have hM : M3 = 0 := by rw [HM3.out, HZ2.out, if_neg hpq]; rfl
    subst hM
    cases p with
    | false =>
      go_wp2_with fail
      refine (fixed3_any _).mono ?_
      rintro e w9 ⟨rfl, hb9⟩
      have K6 := Lib.hid (K3.out.step hb9)
      clear hb9
      go_wp2
      go_ret
      exact ⟨rfl, K6.out.bel⟩
    | true =>
      have hq : q = false := by simpa using hpq
      subst hq
      go_wp2_with fail
      refine (fixed3_any _).mono ?_
      rintro e w9 ⟨rfl, hb9⟩
      have K6 := Lib.hid (K3.out.step hb9)
      clear hb9
      go_wp2
      go_ret
      exact ⟨rfl, K6.out.bel⟩
end Go.Proofs.YtdijkekglaimfaaGreat.Sq
