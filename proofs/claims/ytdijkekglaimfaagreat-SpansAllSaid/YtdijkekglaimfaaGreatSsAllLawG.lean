/- SpansAll's walk. -/
import Derived.Test.YtdijkekglaimfaaGreatSsFormLawG
namespace Go.Proofs.YtdijkekglaimfaaGreat.Sq
open Go.RowKit Rc Ver Ss

theorem str_at {w : World} {A : Option Addr} {L c : Nat} {l : List ByteArray} (h : RowD strK w (.slice A L c) l) {j : Nat} (hj : j < L) :
    ∃ b off, A = some ⟨b, off, none⟩ ∧ b < w.heap.size ∧ (Rc.nth l j).size ≤ maxLen ∧ w.cell? ⟨b, off + j, none⟩ = some (.string (Rc.nth l j)) := by
  obtain ⟨b, off, cs, ha, hb, ⟨rfl, h1⟩, hc⟩ := h.at hj
  have c0 := hc 0 (by decide)
  rw [show strK.n = 1 from rfl, Nat.mul_one, Nat.add_zero] at c0
  exact ⟨b, off, ha, hb, h1, c0⟩
def GreatV (l : List ByteArray) (w : World) (e : Ending) (w' : World) : Prop := ∃ b, e = .returned (.bool b) ∧ (b = false → l.length ≤ 9000) ∧ w = w'
set_option maxRecDepth 100000 in
set_option maxHeartbeats 1600000 in
theorem great1_is (w : World) (v : Value) (l : List ByteArray) (h : RowD strK w v l) :
    Calls Tryz.prog 21 #[v] w (GreatV l w) := by
  obtain ⟨A, L, c, rfl⟩ := h.sl
  have H := Lib.hid h
  have HL := Lib.hid h.len
  have hc := h.cap
  clear h
  go_enter Tryz.func21, Tryz.ntmps21
  go_wp2_with fail
  go_loop [3, 7] (fun n i => ∃ (k m : Nat), k ≤ L ∧ n = .int .i64 m ∧ i = .int .i64 k ∧ m ≤ 9000 ∧ k ≤ m) (fun _ i => L - (intOf i).toNat)
  case atStart => exact ⟨0, 0, Nat.zero_le _, rfl, rfl, by omega, by omega⟩
  case round =>
    obtain ⟨k, m, hk, rfl, rfl, hm, hkm⟩ := hrel
    by_cases hlt : k < L
    · obtain ⟨bx, ox, rfl, _, hsz, hcx⟩ := str_at H.out hlt
      obtain ⟨x, hx⟩ : ∃ x, Rc.nth l k = x := ⟨_, rfl⟩
      rw [hx] at hsz hcx
      clear hx
      unfold maxLen at hsz
      by_cases hl : x.size ≤ 9000
      · have hmin : min (x.size : Int) 9000 = x.size := by omega
        by_cases hg : m + (1 + x.size) ≤ 9000
        · have e1 : ¬ (9000 : Int) < (m : Int) + (1 + (x.size : Int)) := by omega
          go_wp2
          go_round
          case rel => exact ⟨k + 1, m + (1 + x.size), by omega, by go_num, by go_num, by omega, by omega⟩
          case measure => simp [intOf]; omega
        · have e1 : (9000 : Int) < (m : Int) + (1 + (x.size : Int)) := by omega
          go_wp2
          go_ret
          exact ⟨true, rfl, fun h => (by cases h), rfl⟩
      · have hmin : min (x.size : Int) 9000 = 9000 := by omega
        have e1 : (9000 : Int) < (m : Int) + (1 + 9000) := by omega
        go_wp2
        go_ret
        exact ⟨true, rfl, fun h => (by cases h), rfl⟩
    · have HV := Lib.hid (show l.length ≤ 9000 by rw [← HL.out]; omega)
      go_wp2
      go_ret
      exact ⟨false, rfl, fun _ => HV.out, rfl⟩
theorem take_eq {l1 l2 : List ByteArray} {k : Nat} (h1 : k < l1.length) (h2 : k < l2.length) (h : l1.take k = l2.take k) (e : Rc.nth l1 k = Rc.nth l2 k) : l1.take (k + 1) = l2.take (k + 1) := by
  rw [Rc.take_snoc h1, Rc.take_snoc h2, h, e]
set_option maxRecDepth 100000 in
set_option maxHeartbeats 1600000 in
theorem same1_is (w : World) (v1 v2 : Value) (l1 l2 : List ByteArray) (h1 : RowD strK w v1 l1) (h2 : RowD strK w v2 l2) (b : Bool) (hb : decide (l1 = l2) = b) :
    Calls Tryz.prog 22 #[v1, v2] w fun e w' => e = .returned (.bool b) ∧ RowKit.Below w.heap.size w w' := by
  obtain ⟨A1, L1, c1, rfl⟩ := h1.sl
  obtain ⟨A2, L2, c2, rfl⟩ := h2.sl
  have H1 := Lib.hid h1
  have H2 := Lib.hid h2
  have HL1 := Lib.hid h1.len
  have HL2 := Lib.hid h2.len
  have hc1 := h1.cap
  have hc2 := h2.cap
  have HB := Lib.hid hb
  have HB0 := Lib.hid (RowKit.Below.refl w.heap.size w)
  clear h1 h2 hb
  by_cases hl : L1 = L2
  · subst hl
    go_enter Tryz.func22, Tryz.ntmps22
    go_wp2
    go_loopw [13] (fun i wr => ∃ k : Nat, k ≤ L1 ∧ i = .int .i64 k ∧ Hid (l1.take k = l2.take k) ∧ Hid (RowKit.Below w.heap.size w wr)) (fun i _ => L1 - (RowKit.intOf i).toNat)
    case atStart => exact ⟨0, Nat.zero_le _, rfl, Lib.hid rfl, HB0⟩
    case round =>
      obtain ⟨k, hk, rfl, HN, HW⟩ := hrel
      by_cases hlt : k < L1
      · obtain ⟨b1, off1, rfl, _, _, c0⟩ := str_at (H1.out.below HW.out (Nat.le_refl _)) hlt
        obtain ⟨b2, off2, rfl, _, _, d0⟩ := str_at (H2.out.below HW.out (Nat.le_refl _)) hlt
        have k1 : k < l1.length := by rw [← HL1.out]; exact hlt
        have k2 : k < l2.length := by rw [← HL2.out]; exact hlt
        have HS := Lib.hid (fun (e : Rc.nth l1 k = Rc.nth l2 k) => take_eq k1 k2 HN.out e)
        have HNE := Lib.hid (show l1 = l2 → Rc.nth l1 k = Rc.nth l2 k from fun e => by rw [e])
        obtain ⟨s, hs⟩ : ∃ s, Rc.nth l1 k = s := ⟨_, rfl⟩
        obtain ⟨t, ht⟩ : ∃ t, Rc.nth l2 k = t := ⟨_, rfl⟩
        rw [hs] at c0 HS HNE
        rw [ht] at d0 HS HNE
        clear hs ht k1 k2
        have g0 : (0 : Int) ≤ (k : Int) := by omega
        have g1 : (k : Int) < (L1 : Int) := by omega
        by_cases e1 : s = t
        · subst e1
          have HV := Lib.hid (HS.out rfl)
          have f1 : (s.toList != s.toList) = false := by simp
          go_wp2_with fail
          go_region
          all_goals
            go_wp2
            go_roundw
            case rel => exact ⟨k + 1, by omega, by go_num, HV, Lib.hid HW.out.drew⟩
            case measure => simp [RowKit.intOf]; omega
        · have f2 : (s.toList == t.toList) = false := by rw [beq_eq_false_iff_ne]; intro e; exact e1 (toList_eq.1 e)
          have f3 : ¬ s.toList = t.toList := fun e => e1 (toList_eq.1 e)
          have HV := Lib.hid (show b = false by rw [← HB.out]; exact decide_eq_false fun e => e1 (HNE.out e))
          go_wp2_with fail
          go_region
          all_goals
            go_wp2
            go_ret
            exact ⟨by rw [HV.out]; rfl, HW.out.drew⟩
      · have hkL : k = L1 := by omega
        have HV := Lib.hid (show b = true by
          rw [← HB.out]
          refine decide_eq_true ?_
          have := HN.out
          rwa [hkL, HL1.out, List.take_length, ← HL1.out, HL2.out, List.take_length] at this)
        go_wp2
        go_ret
        exact ⟨by rw [HV.out]; rfl, HW.out⟩
  · have HV := Lib.hid (show b = false by
      rw [← HB.out]
      exact decide_eq_false fun e => hl (by rw [HL1.out, HL2.out, e]))
    have g1 : ((L1 : Int) == (L2 : Int)) = false := by simp; omega
    have g2 : ¬ (L1 : Int) = (L2 : Int) := by omega
    have g3 : ((L1 : Int) != (L2 : Int)) = true := by simp; omega
    go_enter Tryz.func22, Tryz.ntmps22
    go_wp2
    go_ret
    exact ⟨by rw [HV.out]; rfl, HB0.out⟩

theorem strs_row {w : World} {base : Nat} {v : Value} {l vs : List ByteArray} (h : OwnS w base v l) {A : Option Addr} {L c : Nat} (hv : RowD strK w (.slice A L c) vs) (hs : ∀ x ∈ l, x ∈ vs) : RowD strK w v l :=
  OwnV.row (K := strK) rfl h fun x hx => ⟨rfl, by
    obtain ⟨j, hj, e⟩ := List.mem_iff_getElem.1 (hs x hx)
    have := (str_at hv (j := j) (by rw [hv.len]; exact hj)).choose_spec.choose_spec.2.2.1
    rw [Rc.nth_lt hj, e] at this
    exact this⟩
set_option maxRecDepth 100000 in
set_option maxHeartbeats 4000000 in
theorem spansAll_w (A : Option Addr) (L c : Nat) (a : List Spn) (A2 : Option Addr) (L2 c2 : Nat) (b : List Spn) (A3 : Option Addr) (L3 c3 : Nat) (vs : List ByteArray) (w : World) (h1 : IsSpans w A L c a) (h2 : IsSpans w A2 L2 c2 b) (h3 : IsTexts w A3 L3 c3 vs) :
    Calls Tryz.prog 6 #[.slice A L c, .slice A2 L2 c2, .slice A3 L3 c3] w fun e w' => e = .returned (.bool true) ∧ RowKit.Below w.heap.size w w' := by
  have HA : Hid (RowD setK w (.slice A L c) a) := Lib.hid h1
  have HBB : Hid (RowD setK w (.slice A2 L2 c2) b) := Lib.hid h2
  have HVV : Hid (RowD strK w (.slice A3 L3 c3) vs) := Lib.hid h3
  have hc3 := HVV.out.cap
  have HL3 := Lib.hid HVV.out.len
  clear h1 h2 h3
  go_enter Tryz.func6, Tryz.ntmps6
  go_wp2_with fail
  refine (great3_any w _ a HA.out).mono ?_
  rintro e w1 ⟨p, rfl, hp, rfl⟩
  cases p with
  | true =>
    clear hp
    go_wp2_with fail
    refine (fixed3_any _).mono ?_
    rintro e w2 ⟨rfl, hb2⟩
    have HB := Lib.hid hb2
    clear hb2
    go_wp2
    go_ret
    exact ⟨rfl, HB.out⟩
  | false =>
  have hla : a.length ≤ 30 := (hp rfl).1
  clear hp
  go_wp2_with fail
  refine (great3_any w _ b HBB.out).mono ?_
  rintro e w1 ⟨p, rfl, hp, rfl⟩
  cases p with
  | true =>
    clear hp
    go_wp2_with fail
    refine (fixed3_any _).mono ?_
    rintro e w2 ⟨rfl, hb2⟩
    have HB := Lib.hid hb2
    clear hb2
    go_wp2
    go_ret
    exact ⟨rfl, HB.out⟩
  | false =>
  have hlb : b.length ≤ 30 := (hp rfl).1
  clear hp
  go_wp2_with fail
  refine (great1_is w _ vs HVV.out).mono ?_
  rintro e w1 ⟨p, rfl, hp, rfl⟩
  cases p with
  | true =>
    clear hp
    go_wp2_with fail
    refine (fixed3_any _).mono ?_
    rintro e w2 ⟨rfl, hb2⟩
    have HB := Lib.hid hb2
    clear hb2
    go_wp2
    go_ret
    exact ⟨rfl, HB.out⟩
  | false =>
  have hlv := hp rfl
  have HLV := Lib.hid hlv
  have hL9 : L3 ≤ 9000 := by rw [HL3.out]; exact hlv
  clear hp hlv
  have HB0 := Lib.hid (RowKit.Below.refl w.heap.size w)
  go_wp2
  go_loopw [7, 27] (fun u i wr => ∃ k : Nat, k ≤ L3 ∧ i = .int .i64 k ∧ Hid (OwnS wr w.heap.size u ((vs.take k).filter (fun x => hasL a x.data.toList))) ∧ Hid (RowKit.Below w.heap.size w wr)) (fun _ i _ => L3 - (RowKit.intOf i).toNat)
  case atStart => exact ⟨0, Nat.zero_le _, rfl, Lib.hid (OwnV.nil _ _), HB0⟩
  case round =>
    obtain ⟨k, hk, rfl, hn, HW⟩ := hrel
    obtain ⟨ol, hol⟩ : ∃ ol, (vs.take k).filter (fun x => hasL a x.data.toList) = ol := ⟨_, rfl⟩
    rw [hol] at hn
    have HN := hn
    have HOL := Lib.hid hol
    clear hn hol
    obtain ⟨A5, L5, c5, rfl⟩ := HN.out.sl
    by_cases hlt : k < L3
    · have hkl : k < vs.length := by rw [← HL3.out]; exact hlt
      obtain ⟨bb, off, rfl, hb', hsz, cc0⟩ := str_at (HVV.out.below HW.out (Nat.le_refl _)) hlt
      have HF := Lib.hid (filter_snoc hkl (fun x => hasL a x.data.toList))
      obtain ⟨x, hx⟩ : ∃ x, Rc.nth vs k = x := ⟨_, rfl⟩
      rw [hx] at cc0 HF
      have HLEN := Lib.hid (show (ol.map encS).length ≤ 200000 by
        rw [List.length_map, ← HOL.out]
        have := List.length_filter_le (fun x : ByteArray => hasL a x.data.toList) (vs.take k)
        rw [List.length_take] at this
        omega)
      clear hx hkl hsz
      obtain ⟨q, hq⟩ : ∃ q, hasL a x.data.toList = q := ⟨_, rfl⟩
      have HQ := Lib.hid hq
      clear hq
      go_wp2_with fail
      refine (refHasL_is _ _ a x (HA.out.below HW.out (Nat.le_refl _)) q HQ.out).mono ?_
      rintro e w1 ⟨rfl, hb1⟩
      have HN1 := Lib.hid (HN.out.below hb1)
      have HW1 := Lib.hid (HW.out.trans (hb1.mono HW.out.size))
      clear hb1
      cases q with
      | false =>
        have HV := Lib.hid (show OwnS w1 w.heap.size (.slice A5 L5 c5) ((vs.take (k + 1)).filter (fun x => hasL a x.data.toList)) by
          rw [HF.out, HOL.out, if_neg (by rw [HQ.out]; decide), List.append_nil]; exact HN1.out)
        go_wp2
        go_roundw
        case rel => exact ⟨k + 1, by omega, by go_num, HV, HW1⟩
        case measure => simp [RowKit.intOf]; omega
      | true =>
        go_wp2_with (at_builtin; refine wpList_app_one oneStr rfl (.tmp 34) (.tmp 36) rfl rfl (base := w.heap.size) (X := w1.heap.size) (v := .slice A5 L5 c5) (u := .string x) (xs := ol.map encS) rfl rfl ((HN1.out.alloc _).raw) (heap_alloc_new w1 _) rfl HLEN.out (HW1.out.alloc HW1.out.size _).size ?_; intro A6 L6 c6 w5 hown5 hg5; have HN5 := Lib.hid (OwnV.snoc (enc := encS) (l := ol) (x := x) hown5); have HW5 := Lib.hid ((HW1.out.alloc HW1.out.size (.cells #[.string x] 9)).grown hg5 (HW1.out.alloc HW1.out.size (.cells #[.string x] 9)).size (fun g hgg => (HN1.out.lt g hgg).1)); clear hown5 hg5)
        go_roundw
        case rel => exact ⟨k + 1, by omega, by go_num, Lib.hid (by rw [HF.out, HOL.out, if_pos HQ.out]; exact HN5.out), HW5⟩
        case measure => simp [RowKit.intOf]; omega
    · obtain rfl : k = L3 := by omega
      have hol := HOL.out
      rw [HL3.out, List.take_length] at hol
      have HOL2 := Lib.hid hol
      have HWR := Lib.hid (strs_row HN.out (HVV.out.below HW.out (Nat.le_refl _)) (fun x hx => by rw [← hol] at hx; exact (List.mem_filter.1 hx).1))
      obtain ⟨x, p, hxp⟩ : ∃ x p, form a = (x, p) := ⟨_, _, rfl⟩
      obtain ⟨y, q, hyq⟩ : ∃ y q, form b = (y, q) := ⟨_, _, rfl⟩
      have HX := Lib.hid hxp
      have HY := Lib.hid hyq
      clear hol hxp hyq
      go_wp2_with fail
      refine (refForm_is _ _ a (HA.out.below HW.out (Nat.le_refl _)) (by omega) (x, p) HX.out).mono ?_
      rintro e w1 ⟨v1, rfl, hv1, hb1⟩
      obtain ⟨B1, M1, d1, rfl⟩ := hv1.sl
      have HW1 := Lib.hid (HW.out.trans (hb1.mono HW.out.size))
      have HWR1 := Lib.hid (HWR.out.below hb1 (Nat.le_refl _))
      have HV1 := Lib.hid hv1
      clear hv1 hb1
      go_wp2_with fail
      refine (refForm_is _ _ b (HBB.out.below HW1.out (Nat.le_refl _)) (by omega) (y, q) HY.out).mono ?_
      rintro e w2 ⟨v2, rfl, hv2, hb2⟩
      obtain ⟨B2, M2, d2, rfl⟩ := hv2.sl
      have HW2 := Lib.hid (HW1.out.trans (hb2.mono HW1.out.size))
      have HWR2 := Lib.hid (HWR1.out.below hb2 (Nat.le_refl _))
      have HV1b := Lib.hid (HV1.out.below hb2 (Nat.le_refl _))
      have HV2 := Lib.hid hv2
      clear hv2 hb2
      go_wp2_with fail
      refine (fixed3_any _).mono ?_
      rintro e w3 ⟨rfl, hb3⟩
      have HW3 := Lib.hid (HW2.out.trans (hb3.mono HW2.out.size))
      have HWR3 := Lib.hid (HWR2.out.below hb3 (Nat.le_refl _))
      have HV1c := Lib.hid (HV1b.out.below hb3 (Nat.le_refl _))
      have HV2c := Lib.hid (HV2.out.below hb3 (Nat.le_refl _))
      clear hb3
      go_wp2_with fail
      refine (all_any _ _ _ a vs (HA.out.below HW3.out (Nat.le_refl _)) (HVV.out.below HW3.out (Nat.le_refl _)) (by have := HLV.out; omega) ol HOL2.out).mono ?_
      rintro e w4 ⟨v4, rfl, hv4, hb4⟩
      obtain ⟨B4, M4, d4, rfl⟩ := hv4.sl
      have HW4 := Lib.hid (HW3.out.trans (hb4.mono HW3.out.size))
      have HWR4 := Lib.hid (HWR3.out.below hb4 (Nat.le_refl _))
      have HV1d := Lib.hid (HV1c.out.below hb4 (Nat.le_refl _))
      have HV2d := Lib.hid (HV2c.out.below hb4 (Nat.le_refl _))
      have HV4 := Lib.hid (strs_row hv4 (HVV.out.below HW4.out (Nat.le_refl _)) (fun x hx => by rw [← HOL2.out] at hx; exact (List.mem_filter.1 hx).1))
      clear hv4 hb4
      go_wp2_with fail
      refine (same1_is _ _ _ ol ol HV4.out HWR4.out true (by simp)).mono ?_
      rintro e w5 ⟨rfl, hb5⟩
      have HW5 := Lib.hid (HW4.out.trans (hb5.mono HW4.out.size))
      have HV1e := Lib.hid (HV1d.out.below hb5 (Nat.le_refl _))
      have HV2e := Lib.hid (HV2d.out.below hb5 (Nat.le_refl _))
      clear hb5
      obtain ⟨z, hz⟩ : ∃ z, decide (form a = form b) = z := ⟨_, rfl⟩
      have HZ := Lib.hid hz
      have HZ2 := Lib.hid (show z = (p == q && decide (x = y)) by
        rw [← hz, HX.out, HY.out, Bool.eq_iff_iff]
        simp only [decide_eq_true_eq, Bool.and_eq_true, beq_iff_eq, Prod.mk.injEq]
        exact And.comm)
      clear hz
      go_wp2_with fail
      refine (same_is _ _ _ a b (HA.out.below HW5.out (Nat.le_refl _)) (HBB.out.below HW5.out (Nat.le_refl _)) (by omega) (by omega) z HZ.out).mono ?_
      rintro e w6 ⟨rfl, hb6⟩
      have HW6 := Lib.hid (HW5.out.trans (hb6.mono HW5.out.size))
      have HV1f := Lib.hid (HV1e.out.below hb6 (Nat.le_refl _))
      have HV2f := Lib.hid (HV2e.out.below hb6 (Nat.le_refl _))
      clear hb6
      by_cases hpq : p = q
      · subst hpq
        have HZ3 := Lib.hid (show decide (x = y) = z by rw [HZ2.out]; simp)
        have g7 : (z == z) = true := by simp
        go_wp2_with fail
        refine (refSame_is _ _ _ x y HV1f.out HV2f.out z HZ3.out).mono ?_
        rintro e w7 ⟨rfl, hb7⟩
        have HW7 := Lib.hid (HW6.out.trans (hb7.mono HW6.out.size))
        clear hb7
        go_wp2
        go_ret
        exact ⟨rfl, HW7.out⟩
      · have g6 : (p == q) = false := by simpa using hpq
        have hz : z = false := by rw [HZ2.out, g6]; rfl
        subst hz
        go_wp2
        go_ret
        exact ⟨rfl, HW6.out⟩
end Go.Proofs.YtdijkekglaimfaaGreat.Sq
