/- What is wrong with a wish that may be of a virtual name. -/
import Derived.Test.YtggejmojbebhfaaRcWith
namespace Go.Proofs.Ytggejmojbebhfaa.Rc
open Go.RowKit Go.Sort

theorem withCode_is (w : World) (v1 v2 u1 u2 : Value) (x : Rec) (s : Spec) (h : IsRec w v1 v2 x) (hs : IsSpec w u1 u2 s) (c : Int) (hc : withCode x s = c) :
    Calls Try.prog 68 #[.agg #[v1, v2], .agg #[.string s.name, u1, u2]] w fun e w' => e = .returned (.int .u8 c) ∧ Below w.heap.size w w' := by
  subst hc; exact withCode_any w v1 v2 u1 u2 x s h hs
theorem eqS_none {a : ByteArray} (h : eqS a noneS = true) : a = ⟨#[]⟩ := Va.eqS_iff.1 h
theorem ne_none {a : ByteArray} (h : eqS a noneS = false) : ¬ a.toList = [] ∧ a.toList.isEmpty = false ∧ (a.toList == []) = false := by
  have h2 : (a.toList == []) = false := by
    have e : noneS.toList = [] := by rw [Lib.toList_data]; rfl
    have h' : (a.toList == noneS.toList) = false := h
    rwa [e] at h'
  have h1 : ¬ a.toList = [] := by intro e; rw [e] at h2; cases h2
  exact ⟨h1, by cases hl : a.toList with | nil => exact absurd hl h1 | cons => rfl, h2⟩

set_option maxRecDepth 100000 in
set_option maxHeartbeats 1600000 in
theorem wishCode_any (w : World) (v1 v2 u1 u2 : Value) (x : Rec) (s : Spec) (h : IsRec w v1 v2 x) (hs : IsSpec w u1 u2 s) :
    Calls Try.prog 48 #[.agg #[v1, v2], .agg #[.string s.name, u1, u2]] w fun e w' => e = .returned (.int .u8 (wishCode x s)) ∧ Below w.heap.size w w' := by
  obtain ⟨A1, L1, c1, A2, L2, c2, rfl, rfl, hr⟩ := rec_box h
  obtain ⟨B1, M1, d1, rfl, hM1, hq1, hq2⟩ := hs.spans.open'
  obtain ⟨B2, M2, d2, rfl, hM2, hq3, hq4⟩ := hs.sets.open'
  unfold maxLen at hq2 hq4
  obtain ⟨hx, hy⟩ := two_boxes w #[.slice A1 L1 c1, .slice A2 L2 c2] #[.string s.name, .slice B1 M1 d1, .slice B2 M2 d2] 25 73
  have HX := Lib.hid hx
  have HY := Lib.hid hy
  have HR := Lib.hid h
  have HS := Lib.hid hs
  have HM := Lib.hid (show M1 = s.spans.length ∧ M2 = s.sets.length from ⟨hM1, hM2⟩)
  have HR1 := Lib.hid (h.below hx.bel (Nat.le_refl _))
  clear h hs hx hy hr hM1 hM2
  unfold wishCode
  cases hv : virtB x s.name with
  | false =>
    have HV := Lib.hid hv
    obtain ⟨q, hq⟩ : ∃ q, withCode x s = q := ⟨_, rfl⟩
    rw [if_neg (by decide), hq]
    have HQ := Lib.hid hq
    clear hv hq
    go_enter Try.func48, Try.ntmps48
    go_wp2_with fail
    refine (virtual_is _ _ _ x s.name HR1.out false HV.out).mono ?_
    rintro e w2 ⟨rfl, hb⟩
    have HX2 := Lib.hid (HX.out.step hb)
    have HY2 := Lib.hid (HY.out.step hb)
    have x0 := HX2.out.get 0 (v := .slice A1 L1 c1) rfl
    have x1 := HX2.out.get 1 (v := .slice A2 L2 c2) rfl
    have y0 := HY2.out.get 0 (v := .string s.name) rfl
    have y1 := HY2.out.get 1 (v := .slice B1 M1 d1) rfl
    have y2 := HY2.out.get 2 (v := .slice B2 M2 d2) rfl
    clear hb
    go_wp2_with fail
    refine (withCode_is _ _ _ _ _ x s (HR.out.below HX2.out.bel (Nat.le_refl _)) (HS.out.below HX2.out.bel (Nat.le_refl _)) q HQ.out).mono ?_
    rintro e w3 ⟨rfl, hb⟩
    have HX3 := Lib.hid (HX2.out.step hb)
    clear hb
    go_wp2
    go_ret
    exact ⟨rfl, HX3.out.bel⟩
  | true =>
    have HV := Lib.hid hv
    rw [if_pos rfl]
    obtain ⟨q, hq⟩ : ∃ q : Int, (if badVirt s then 9 else 0) = q := ⟨_, rfl⟩
    rw [hq]
    have HQ := Lib.hid hq
    clear hv hq
    by_cases h1 : M1 = 1
    · subst h1
      have hb : badVirt s = (!(eqS (nth s.spans 0).1 noneS && eqS (nth s.spans 0).2 noneS) || decide (0 < M2)) := by
        unfold badVirt
        rw [← HM.out.1, HM.out.2]; simp
      have HBV := Lib.hid hb
      clear hb
      have HQ2 := Lib.hid (show q = if (!(eqS (nth s.spans 0).1 noneS && eqS (nth s.spans 0).2 noneS) || decide (0 < M2)) then 9 else 0 by rw [← HQ.out, HBV.out])
      go_enter Try.func48, Try.ntmps48
      go_wp2_with fail
      refine (virtual_is _ _ _ x s.name HR1.out true HV.out).mono ?_
      rintro e w2 ⟨rfl, hb⟩
      have HX2 := Lib.hid (HX.out.step hb)
      have HY2 := Lib.hid (HY.out.step hb)
      have y1 := HY2.out.get 1 (v := .slice B1 1 d1) rfl
      have y2 := HY2.out.get 2 (v := .slice B2 M2 d2) rfl
      obtain ⟨b, off, rfl, hbl, hs1, hs2, p0, p1⟩ := set_at (HS.out.spans.below HX2.out.bel (Nat.le_refl _)) (j := 0) (by omega)
      have HXB := Lib.hid HX2.out.bel
      clear hb hs1 hs2
      rw [Nat.zero_mul, Nat.add_zero] at p0 p1
      generalize hsp : nth s.spans 0 = sp at p0 p1 HQ2
      obtain ⟨s0, s1⟩ := sp
      cases ha : eqS s0 noneS with
      | false =>
        obtain ⟨f1, f2, f3⟩ := ne_none ha
        obtain rfl : q = 9 := by rw [HQ2.out, ha]; rfl
        clear ha hsp HQ2
        go_wp2
        go_ret
        exact ⟨rfl, HXB.out⟩
      | true =>
        obtain rfl := eqS_none ha
        clear ha
        cases hb : eqS s1 noneS with
        | false =>
          obtain ⟨f1, f2, f3⟩ := ne_none hb
          obtain rfl : q = 9 := by rw [HQ2.out, hb, Bool.and_false]; rfl
          clear hb hsp HQ2
          go_wp2
          go_ret
          exact ⟨rfl, HXB.out⟩
        | true =>
          obtain rfl := eqS_none hb
          clear hb hsp
          by_cases h2 : 0 < M2
          · have k0 : (0 : Int) < (M2 : Int) := by omega
            obtain rfl : q = 9 := by rw [HQ2.out, decide_eq_true h2, Bool.or_true]; rfl
            go_wp2
            go_ret
            exact ⟨rfl, HXB.out⟩
          · obtain rfl : M2 = 0 := by omega
            obtain rfl : q = 0 := by
              rw [HQ2.out]
              show (if (!(eqS noneS noneS && eqS noneS noneS) || decide (0 < 0)) = true then (9 : Int) else 0) = 0
              rw [show eqS noneS noneS = true from Va.eqS_iff.2 rfl]; rfl
            go_wp2
            go_ret
            exact ⟨rfl, HXB.out⟩
    · have hb : badVirt s = true := by
        unfold badVirt
        rw [← HM.out.1]; simp [h1]
      have HBV := Lib.hid hb
      have k0 : ¬ (M1 : Int) = 1 := by omega
      clear hb h1
      obtain rfl : q = 9 := by rw [← HQ.out, HBV.out]; rfl
      go_enter Try.func48, Try.ntmps48
      go_wp2_with fail
      refine (virtual_is _ _ _ x s.name HR1.out true HV.out).mono ?_
      rintro e w2 ⟨rfl, hb⟩
      have HX2 := Lib.hid (HX.out.step hb)
      have HY2 := Lib.hid (HY.out.step hb)
      have y1 := HY2.out.get 1 (v := .slice B1 M1 d1) rfl
      clear hb
      go_wp2
      go_ret
      exact ⟨rfl, HX2.out.bel⟩
theorem wishCode_is (w : World) (v1 v2 u1 u2 : Value) (x : Rec) (s : Spec) (h : IsRec w v1 v2 x) (hs : IsSpec w u1 u2 s) (c : Int) (hc : wishCode x s = c) :
    Calls Try.prog 48 #[.agg #[v1, v2], .agg #[.string s.name, u1, u2]] w fun e w' => e = .returned (.int .u8 c) ∧ Below w.heap.size w w' := by
  subst hc; exact wishCode_any w v1 v2 u1 u2 x s h hs
end Go.Proofs.Ytggejmojbebhfaa.Rc
