/- VariantBoth's walk. -/
import Derived.Test.YtbdceeecngibmaaVaBoth
import Derived.Test.YtbdceeecngibmaaVaAllLaw
import Derived.Test.YtbdceeecngibmaaVaRefMeets
import Derived.Test.YtbdceeecngibmaaVaSame
namespace Go.Proofs.Ytbdceeecngibmaa.Va
open Go.RowKit

theorem meetsI (w : World) (v u : Value) (s wish : List Set1) (h : Sets w v s) (hw : Sets w u wish) (b : Bool) (hb : meetsB s wish = b) :
    Calls Try.prog 25 #[v, u] w fun e w' => e = .returned (.bool b) ∧ Below w.heap.size w w' := by subst hb; exact meets_any w v u s wish h hw
theorem refMeetsI (w : World) (v u : Value) (s wish : List Set1) (h : Sets w v s) (hw : Sets w u wish) (b : Bool) (hb : meetsB s wish = b) :
    Calls Try.prog 26 #[v, u] w fun e w' => e = .returned (.bool b) ∧ Below w.heap.size w w' := by subst hb; exact refMeets_any w v u s wish h hw
theorem refSameI (w : World) (v u : Value) (a b : List Set1) (h : Sets w v a) (hw : Sets w u b) (he : a = b) :
    Calls Try.prog 28 #[v, u] w fun e w' => e = .returned (.bool true) ∧ Below w.heap.size w w' := by
  refine (refSame_any w v u a b h hw).mono fun e w' ⟨h1, h2⟩ => ⟨?_, h2⟩
  rw [h1]
  have : sameT a b = true := by
    subst he
    unfold sameT
    rw [Bool.and_eq_true, List.all_eq_true]
    exact ⟨by simp, fun i _ => eqT_iff.2 rfl⟩
  rw [this]

def cf1 (x y : Set1) : Bool := eqS x.1 y.1 && !eqS x.2 y.2
def twoB (a b : List Set1) : Bool := a.any fun x => b.any (cf1 x)
theorem two_of {a b : List Set1} (h : Cf a b) : twoB a b = true := by
  obtain ⟨x, hx, y, hy, e, n⟩ := h
  refine List.any_eq_true.2 ⟨x, hx, List.any_eq_true.2 ⟨y, hy, ?_⟩⟩
  unfold cf1
  rw [Bool.and_eq_true]
  refine ⟨eqS_iff.2 e, ?_⟩
  cases h : eqS x.2 y.2 with
  | false => rfl
  | true => exact absurd (eqS_iff.1 h) n

set_option maxRecDepth 100000 in
set_option maxHeartbeats 3200000 in
theorem variantBoth_any (v u x y : Value) (a b s : List Set1) (l : List Var) (w : World) (ha : Sets w v a) (hb : Sets w u b) (hs : Sets w x s) (hl : Vars w y l) :
    Calls Try.prog 6 #[v, u, x, y] w fun e w' => e = .returned (.bool true) ∧ Below w.heap.size w w' := by
  have HA := Lib.hid ha
  have HB := Lib.hid hb
  have HS := Lib.hid hs
  have HV := Lib.hid hl
  obtain ⟨A, L, c, rfl, hL, h1, h2, h3⟩ := ha.open'
  obtain ⟨A', L', c', rfl, hL', h1', h2', h3'⟩ := hb.open'
  obtain ⟨As, Ls, cs, rfl, hs2⟩ := hs.open'
  obtain ⟨Av, Lv, cv, rfl, hv2⟩ := hl.open'
  unfold maxLen at h2 h2'
  have HL := Lib.hid hL
  have HL' := Lib.hid hL'
  have H3 := Lib.hid h3
  have H3' := Lib.hid h3'
  clear ha hb hs hl hL hL' h3 h3' hs2 hv2
  go_enter Try.func6, Try.ntmps6
  go_wp2_with fail
  refine (greatS_any _ _ a HA.out).mono ?_
  rintro e w' ⟨b0, rfl, hb0, rfl⟩
  cases b0 with
  | true =>
    clear hb0
    go_wp2_with fail
    refine (fixed_any _).mono ?_
    rintro e w1 ⟨rfl, hb⟩
    go_wp2
    go_ret
    exact ⟨rfl, hb⟩
  | false =>
  have hla : L ≤ 50 := by have := hb0 rfl; have := HL.out; omega
  clear hb0
  go_wp2_with fail
  refine (greatS_any _ _ b HB.out).mono ?_
  rintro e w' ⟨b0, rfl, hb0, rfl⟩
  cases b0 with
  | true =>
    clear hb0
    go_wp2_with fail
    refine (fixed_any _).mono ?_
    rintro e w1 ⟨rfl, hb⟩
    go_wp2
    go_ret
    exact ⟨rfl, hb⟩
  | false =>
  have hlb : L' ≤ 50 := by have := hb0 rfl; have := HL'.out; omega
  clear hb0
  go_wp2_with fail
  refine (greatS_any _ _ s HS.out).mono ?_
  rintro e w' ⟨b0, rfl, hb0, rfl⟩
  clear hb0
  cases b0 with
  | true =>
    go_wp2_with fail
    refine (fixed_any _).mono ?_
    rintro e w1 ⟨rfl, hb⟩
    go_wp2
    go_ret
    exact ⟨rfl, hb⟩
  | false =>
  go_wp2_with fail
  refine (greatV_any _ _ l HV.out).mono ?_
  rintro e w' ⟨b0, rfl, hb0, rfl⟩
  clear hb0
  cases b0 with
  | true =>
    go_wp2_with fail
    refine (fixed_any _).mono ?_
    rintro e w1 ⟨rfl, hb⟩
    go_wp2
    go_ret
    exact ⟨rfl, hb⟩
  | false =>
  obtain ⟨wa, hwa⟩ : ∃ wa, wishB a = wa := ⟨_, rfl⟩
  obtain ⟨ma, hma⟩ : ∃ ma, meetsB s a = ma := ⟨_, rfl⟩
  have HWA := Lib.hid hwa
  have HMA := Lib.hid hma
  clear hwa hma
  go_wp2_with fail
  refine (wish_to _ _ a HA.out wa HWA.out).mono ?_
  rintro e w1 ⟨rfl, hb1⟩
  have HB1 := Lib.hid hb1
  clear hb1
  go_wp2_with fail
  refine (refWish_to _ _ a (HA.out.below HB1.out (Nat.le_refl _)) wa HWA.out).mono ?_
  rintro e w2 ⟨rfl, hb2⟩
  have HB2 := Lib.hid (HB1.out.trans (hb2.mono HB1.out.size))
  clear hb2 HB1
  go_wp2_with fail
  refine (meetsI _ _ _ s a (HS.out.below HB2.out (Nat.le_refl _)) (HA.out.below HB2.out (Nat.le_refl _)) ma HMA.out).mono ?_
  rintro e w3 ⟨rfl, hb3⟩
  have HB3 := Lib.hid (HB2.out.trans (hb3.mono HB2.out.size))
  clear hb3 HB2
  go_wp2_with fail
  refine (refMeetsI _ _ _ s a (HS.out.below HB3.out (Nat.le_refl _)) (HA.out.below HB3.out (Nat.le_refl _)) ma HMA.out).mono ?_
  rintro e w4 ⟨rfl, hb4⟩
  have HB4 := Lib.hid (HB3.out.trans (hb4.mono HB3.out.size))
  clear hb4 HB3
  obtain ⟨wb, hwb⟩ : ∃ wb, wishB b = wb := ⟨_, rfl⟩
  have HWB := Lib.hid hwb
  clear hwb
  have HA4 := Lib.hid (HA.out.below HB4.out (Nat.le_refl _))
  have HBB4 := Lib.hid (HB.out.below HB4.out (Nat.le_refl _))
  by_cases hall : (wa && wb) = false
  · go_wp2_with fail
    refine (both_no _ _ _ a b HA4.out HBB4.out (by rw [HWA.out, HWB.out]; exact hall)).mono ?_
    rintro e w5 ⟨rfl, hb5⟩
    have HB5 := Lib.hid (HB4.out.trans (hb5.mono HB4.out.size))
    clear hb5 HB4 HA4 HBB4
    go_wp2_with fail
    refine (refWish_to _ _ a (HA.out.below HB5.out (Nat.le_refl _)) wa HWA.out).mono ?_
    rintro e w6 ⟨rfl, hb6⟩
    have HB6 := Lib.hid (HB5.out.trans (hb6.mono HB5.out.size))
    clear hb6
    cases wa with
    | false =>
      clear hall
      go_wp2_with fail
      refine (fixed_any _).mono ?_
      rintro e w7 ⟨rfl, hb7⟩
      have HB7 := Lib.hid (HB6.out.trans (hb7.mono HB6.out.size))
      clear hb7
      go_wp2
      go_ret
      exact ⟨rfl, HB7.out⟩
    | true =>
      have hwb : wb = false := by simpa using hall
      subst hwb
      clear hall
      go_wp2_with fail
      refine (refWish_to _ _ b (HB.out.below HB6.out (Nat.le_refl _)) false HWB.out).mono ?_
      rintro e w7 ⟨rfl, hb7⟩
      have HB7 := Lib.hid (HB6.out.trans (hb7.mono HB6.out.size))
      clear hb7
      go_wp2_with fail
      refine (fixed_any _).mono ?_
      rintro e w8 ⟨rfl, hb8⟩
      have HB8 := Lib.hid (HB7.out.trans (hb8.mono HB7.out.size))
      clear hb8
      go_wp2
      go_ret
      exact ⟨rfl, HB8.out⟩
  · obtain ⟨rfl, rfl⟩ : wa = true ∧ wb = true := by
      cases wa <;> cases wb <;> simp at hall ⊢
    clear hall
    have hlen : a.length + b.length ≤ 1000 := by have := HL.out; have := HL'.out; omega
    have HLEN := Lib.hid hlen
    clear hlen
    go_wp2_with fail
    refine (both_yes _ _ _ a b HA4.out HBB4.out HWA.out HWB.out HLEN.out).mono ?_
    rintro e w5 ⟨s1, A1, L1, c1, rfl, hm1, hr1, hs1, hb5⟩
    have HB5 := Lib.hid (HB4.out.trans (hb5.mono HB4.out.size))
    have HM1 := Lib.hid hm1
    have HR1 := Lib.hid hr1
    have HS1 := Lib.hid hs1
    generalize hk1 : wishB (dd s1) = k1
    have HK1 := Lib.hid hk1
    clear hm1 hr1 hs1 hb5 hk1 HB4 HA4 HBB4
    go_wp2_with fail
    refine (refWish_to _ _ a (HA.out.below HB5.out (Nat.le_refl _)) true HWA.out).mono ?_
    rintro e w6 ⟨rfl, hb6⟩
    have HB6 := Lib.hid (HB5.out.trans (hb6.mono HB5.out.size))
    have HS16 := Lib.hid (HS1.out.below hb6 (Nat.le_refl _))
    clear hb6 HB5 HS1
    go_wp2_with fail
    refine (refWish_to _ _ b (HB.out.below HB6.out (Nat.le_refl _)) true HWB.out).mono ?_
    rintro e w7 ⟨rfl, hb7⟩
    have HB7 := Lib.hid (HB6.out.trans (hb7.mono HB6.out.size))
    have HS17 := Lib.hid (HS16.out.below hb7 (Nat.le_refl _))
    clear hb7 HB6 HS16
    go_wp2_with fail
    refine (both_yes _ _ _ b a (HB.out.below HB7.out (Nat.le_refl _)) (HA.out.below HB7.out (Nat.le_refl _)) HWB.out HWA.out (by have := HLEN.out; omega)).mono ?_
    rintro e w8 ⟨s2, A2, L2, c2, rfl, hm2, hr2, hs2, hb8⟩
    have hsame := both_same HWA.out HWB.out HM1.out hm2 HR1.out hr2
    have HB8 := Lib.hid (HB7.out.trans (hb8.mono HB7.out.size))
    have HS18 := Lib.hid (HS17.out.below hb8 (Nat.le_refl _))
    have HS2 := Lib.hid hs2
    have HO := Lib.hid (show outB s1 = outB s2 by
      unfold outB
      rw [← hsame.1]
      split
      · next h => exact hsame.2 h
      · rfl)
    rw [← hsame.1, HK1.out]
    clear hsame hm2 hr2 hs2 hb8 HB7 HS17
    go_wp2_with fail
    refine (refSameI _ _ _ _ _ HS18.out HS2.out HO.out).mono ?_
    rintro e w9 ⟨rfl, hb9⟩
    have HB9 := Lib.hid (HB8.out.trans (hb9.mono HB8.out.size))
    have HS19 := Lib.hid (HS18.out.below hb9 (Nat.le_refl _))
    clear hb9 HB8 HS18 HS2
    cases k1 with
    | true =>
      have ho1 : outB s1 = dd s1 := by unfold outB; rw [if_pos HK1.out]
      have hme : meetsB s (outB s1) = (ma && meetsB s b) := by rw [ho1, both_meets s HM1.out, HMA.out]
      have HOW := Lib.hid (show wishB (outB s1) = true by rw [ho1]; exact HK1.out)
      obtain ⟨mb, hmb⟩ : ∃ mb, meetsB s b = mb := ⟨_, rfl⟩
      rw [hmb] at hme
      have HME := Lib.hid hme
      have HMB := Lib.hid hmb
      clear hme hmb ho1
      go_wp2_with fail
      refine (fixed_any _).mono ?_
      rintro e w10 ⟨rfl, hb10⟩
      have HB10 := Lib.hid (HB9.out.trans (hb10.mono HB9.out.size))
      have HS10 := Lib.hid (HS19.out.below hb10 (Nat.le_refl _))
      clear hb10
      go_wp2_with fail
      refine (refWish_to _ _ _ HS10.out true HOW.out).mono ?_
      rintro e w11 ⟨rfl, hb11⟩
      have HB11 := Lib.hid (HB10.out.trans (hb11.mono HB10.out.size))
      have HS11 := Lib.hid (HS10.out.below hb11 (Nat.le_refl _))
      clear hb11
      go_wp2_with fail
      refine (refMeetsI _ _ _ s _ (HS.out.below HB11.out (Nat.le_refl _)) HS11.out _ HME.out).mono ?_
      rintro e w12 ⟨rfl, hb12⟩
      have HB12 := Lib.hid (HB11.out.trans (hb12.mono HB11.out.size))
      clear hb12
      go_wp2_with fail
      refine (refMeetsI _ _ _ s a (HS.out.below HB12.out (Nat.le_refl _)) (HA.out.below HB12.out (Nat.le_refl _)) ma HMA.out).mono ?_
      rintro e w13 ⟨rfl, hb13⟩
      have HB13 := Lib.hid (HB12.out.trans (hb13.mono HB12.out.size))
      clear hb13
      cases ma with
      | false =>
        go_wp2
        go_ret
        exact ⟨rfl, HB13.out⟩
      | true =>
        go_wp2_with fail
        refine (refMeetsI _ _ _ s b (HS.out.below HB13.out (Nat.le_refl _)) (HB.out.below HB13.out (Nat.le_refl _)) mb HMB.out).mono ?_
        rintro e w14 ⟨rfl, hb14⟩
        have HB14 := Lib.hid (HB13.out.trans (hb14.mono HB13.out.size))
        clear hb14
        cases mb <;> (go_wp2; go_ret; exact ⟨rfl, HB14.out⟩)
    | false =>
      have ho1 : outB s1 = [] := by unfold outB; rw [if_neg (by rw [HK1.out]; decide)]
      have hl1 : L1 = 0 := by
        obtain ⟨A0, c0, e, _⟩ := HS19.out
        rw [ho1] at e
        injection e
      subst hl1
      have hcf : Cf a b := by
        by_cases hc : Cf a b
        · exact hc
        · have := (both_iff HWA.out HWB.out HM1.out HR1.out).2 hc
          rw [HK1.out] at this; cases this
      have HCF := Lib.hid hcf
      clear HS19 HO HM1 HR1 HLEN ho1 hcf
      go_wp2
      go_loopw [13, 90] (fun t i wx => ∃ (k : Nat) (x : Bool), k ≤ L ∧ i = .int .i64 k ∧ t = .bool x ∧ Hid (x = twoB (a.take k) b) ∧ Below w.heap.size w wx) (fun _ i _ => L - (intOf i).toNat)
      case atStart => exact ⟨0, false, Nat.zero_le _, rfl, rfl, Lib.hid rfl, HB9.out⟩
      case round =>
        clear HB9
        obtain ⟨k, t, hk, rfl, rfl, ht, hbw⟩ := hrel
        have HBW := Lib.hid hbw
        by_cases hlt : k < L
        · have hkl : k < a.length := by rw [← HL.out]; exact hlt
          obtain ⟨b1, o1, rfl, hb1, hc1⟩ := H3.out (by omega)
          have q1 := (hbw.cell (p := ⟨b1, o1 + k * 2, none⟩) hb1).trans (hc1 k hlt).1
          have q2 := (hbw.cell (p := ⟨b1, o1 + k * 2 + 1, none⟩) hb1).trans (hc1 k hlt).2.1
          have HTS := Lib.hid (show twoB (a.take (k + 1)) b = (twoB (a.take k) b || b.any (cf1 (nthT a k))) from any_snocT hkl _)
          clear hc1 hkl hbw
          generalize hx : nthT a k = x at q1 q2 HTS
          clear hx
          obtain ⟨x1, x2⟩ := x
          generalize hw1 : wr.alloc (.cells #[.string x1, .string x2] 37) = w1
          have HW1 := Lib.hid hw1
          have hnew : w1.heap[wr.heap.size]? = some (.cells #[.string x1, .string x2] 37 (0, 0)) := by rw [← hw1]; exact heap_alloc_new wr _
          have hbel1 : Below wr.heap.size wr w1 := by rw [← hw1]; exact (Below.refl _ _).alloc (Nat.le_refl _) _
          have HNEW := Lib.hid hnew
          have HBW1 := Lib.hid (HBW.out.trans (hbel1.mono HBW.out.size))
          clear hnew hbel1 hw1
          go_wp2
          rw [HW1.out]
          clear q1 q2
          go_loopw [13, 96] (fun t2 i wx => ∃ (j : Nat) (y : Bool), j ≤ L' ∧ i = .int .i64 j ∧ t2 = .bool y ∧ Hid (y = (t || (b.take j).any (cf1 (x1, x2)))) ∧ Below w1.heap.size w1 wx) (fun _ i _ => L' - (intOf i).toNat)
          case atStart => exact ⟨0, t, Nat.zero_le _, rfl, rfl, Lib.hid (by simp), Below.refl _ _⟩
          case round =>
            obtain ⟨j, y, hj, rfl, rfl, hy, hbx⟩ := hrel
            have HBX := Lib.hid hbx
            by_cases hjl : j < L'
            · have hjl2 : j < b.length := by rw [← HL'.out]; exact hjl
              obtain ⟨b2, o2, rfl, hb2, hc2⟩ := H3'.out (by omega)
              have hT := HBW1.out.trans (hbx.mono HBW1.out.size)
              have r1 := (hT.cell (p := ⟨b2, o2 + j * 2, none⟩) hb2).trans (hc2 j hjl).1
              have r2 := (hT.cell (p := ⟨b2, o2 + j * 2 + 1, none⟩) hb2).trans (hc2 j hjl).2.1
              have HAS := Lib.hid (any_snocT hjl2 (cf1 (x1, x2)))
              generalize hz : nthT b j = z at r1 r2 HAS
              clear hz
              obtain ⟨z1, z2⟩ := z
              have hv0 := cells_get (heap_below HNEW.out hbx) 0 (v := .string x1) rfl
              have hv1 := cells_get (heap_below HNEW.out hbx) 1 (v := .string x2) rfl
              have hv2 := cell_alloc_l (.cells #[.string z1, .string z2] 37) hv0
              have hv3 := cell_alloc_l (.cells #[.string z1, .string z2] 37) hv1
              clear hc2 hjl2 hbx hT hv0 hv1
              cases y with
              | true =>
                have hn' : Hid (true = (t || (b.take (j + 1)).any (cf1 (x1, x2)))) := Lib.hid (by rw [HAS.out, ← Bool.or_assoc, ← hy.out]; rfl)
                go_wp2
                go_roundw
                case rel => exact ⟨j + 1, true, by omega, by go_num, rfl, hn', HBX.out.alloc HBX.out.size _⟩
                case measure => simp [intOf]; omega
              | false =>
                cases he : eqS x1 z1 with
                | false =>
                  have hn' : Hid (false = (t || (b.take (j + 1)).any (cf1 (x1, x2)))) := Lib.hid (by rw [HAS.out, ← Bool.or_assoc, ← hy.out]; unfold cf1; rw [he]; rfl)
                  have e1 : (x1.toList == z1.toList) = false := he
                  clear he
                  go_wp2
                  go_roundw
                  case rel => exact ⟨j + 1, false, by omega, by go_num, rfl, hn', HBX.out.alloc HBX.out.size _⟩
                  case measure => simp [intOf]; omega
                | true =>
                  cases hf : eqS x2 z2 with
                  | true =>
                    have hn' : Hid (false = (t || (b.take (j + 1)).any (cf1 (x1, x2)))) := Lib.hid (by rw [HAS.out, ← Bool.or_assoc, ← hy.out]; unfold cf1; rw [he, hf]; rfl)
                    have e1 : (x1.toList == z1.toList) = true := he
                    have e2 : (x2.toList == z2.toList) = true := hf
                    have e3 : (x2.toList != z2.toList) = false := by rw [bne]; rw [show (x2.toList == z2.toList) = true from hf]; rfl
                    clear he hf
                    go_wp2
                    go_roundw
                    case rel => exact ⟨j + 1, false, by omega, by go_num, rfl, hn', HBX.out.alloc HBX.out.size _⟩
                    case measure => simp [intOf]; omega
                  | false =>
                    have hn' : Hid (true = (t || (b.take (j + 1)).any (cf1 (x1, x2)))) := Lib.hid (by rw [HAS.out, ← Bool.or_assoc, ← hy.out]; unfold cf1; rw [he, hf]; rfl)
                    have e1 : (x1.toList == z1.toList) = true := he
                    have e2 : (x2.toList == z2.toList) = false := hf
                    have e3 : (x2.toList != z2.toList) = true := by rw [bne]; rw [show (x2.toList == z2.toList) = false from hf]; rfl
                    clear he hf
                    go_wp2
                    go_roundw
                    case rel => exact ⟨j + 1, true, by omega, by go_num, rfl, hn', HBX.out.alloc HBX.out.size _⟩
                    case measure => simp [intOf]; omega
            · obtain rfl : j = L' := by omega
              have hn' : Hid (y = twoB (a.take (k + 1)) b) := Lib.hid (by
                have h := hy.out
                rw [HL'.out, List.take_length] at h
                rw [HTS.out, ← ht.out]; exact h)
              clear hbx
              go_wp2
              go_roundw
              case rel => exact ⟨k + 1, y, by omega, by go_num, rfl, hn', HBW1.out.trans (HBX.out.mono HBW1.out.size)⟩
              case measure => simp [intOf]; omega
        · obtain rfl : k = L := by omega
          have htt : t = true := by
            have h := ht.out
            rw [HL.out, List.take_length, two_of HCF.out] at h
            exact h
          subst htt
          clear hbw
          go_wp2_with fail
          refine (fixed_any _).mono ?_
          rintro e w10 ⟨rfl, hb10⟩
          have HB10 := Lib.hid (HBW.out.trans (hb10.mono HBW.out.size))
          clear hb10
          obtain ⟨yb, hyb⟩ : ∃ yb, mayB l = yb := ⟨_, rfl⟩
          obtain ⟨lb, hlb⟩ : ∃ lb, legalB l s = lb := ⟨_, rfl⟩
          obtain ⟨mb, hmb⟩ : ∃ mb, meetsB s b = mb := ⟨_, rfl⟩
          have HYB := Lib.hid hyb
          have HLB := Lib.hid hlb
          have HMB := Lib.hid hmb
          clear hyb hlb hmb
          go_wp2_with fail
          refine (refMay_is _ _ l (HV.out.below HB10.out (Nat.le_refl _)) yb HYB.out).mono ?_
          rintro e w11 ⟨rfl, hb11⟩
          have HB11 := Lib.hid (HB10.out.trans (hb11.mono HB10.out.size))
          clear hb11
          cases yb with
          | false =>
            go_wp2
            go_ret
            exact ⟨rfl, HB11.out⟩
          | true =>
          go_wp2_with fail
          refine (refLegal_is _ _ _ l s (HV.out.below HB11.out (Nat.le_refl _)) (HS.out.below HB11.out (Nat.le_refl _)) lb HLB.out).mono ?_
          rintro e w12 ⟨rfl, hb12⟩
          have HB12 := Lib.hid (HB11.out.trans (hb12.mono HB11.out.size))
          clear hb12
          cases lb with
          | false =>
            go_wp2
            go_ret
            exact ⟨rfl, HB12.out⟩
          | true =>
          go_wp2_with fail
          refine (refMeetsI _ _ _ s a (HS.out.below HB12.out (Nat.le_refl _)) (HA.out.below HB12.out (Nat.le_refl _)) ma HMA.out).mono ?_
          rintro e w13 ⟨rfl, hb13⟩
          have HB13 := Lib.hid (HB12.out.trans (hb13.mono HB12.out.size))
          clear hb13
          cases ma with
          | false =>
            go_wp2
            go_ret
            exact ⟨rfl, HB13.out⟩
          | true =>
          go_wp2_with fail
          refine (refMeetsI _ _ _ s b (HS.out.below HB13.out (Nat.le_refl _)) (HB.out.below HB13.out (Nat.le_refl _)) mb HMB.out).mono ?_
          rintro e w14 ⟨rfl, hb14⟩
          have HB14 := Lib.hid (HB13.out.trans (hb14.mono HB13.out.size))
          clear hb14
          cases mb with
          | false =>
            go_wp2
            go_ret
            exact ⟨rfl, HB14.out⟩
          | true => exact absurd HCF.out (no_two HYB.out HLB.out HMA.out HMB.out)
theorem variantBoth_w (A : Option Addr) (len cap : Nat) (a : List Set1) (A1 : Option Addr) (len1 cap1 : Nat) (b : List Set1) (A2 : Option Addr) (len2 cap2 : Nat) (s : List Set1) (A3 : Option Addr) (len3 cap3 : Nat) (l : List Var) (w : World)
    (h : SetsP w A len cap a) (h1 : SetsP w A1 len1 cap1 b) (h2 : SetsP w A2 len2 cap2 s) (h3 : VarsP w A3 len3 cap3 l) :
    Calls Try.prog 6 #[.slice A len cap, .slice A1 len1 cap1, .slice A2 len2 cap2, .slice A3 len3 cap3] w fun e w' => e = .returned (.bool true) ∧ Below w.heap.size w w' := variantBoth_any _ _ _ _ a b s l w h h1 h2 h3

end Go.Proofs.Ytbdceeecngibmaa.Va
