/- The document's form of a set. -/
import Derived.Test.YtdijkekglaimfaaGreatDoorSsGrpC
import Derived.Test.YtdijkekglaimfaaGreatDoorSsGrpB
import Derived.Lib.QuietBelow
namespace Go.Proofs.YtdijkekglaimfaaGreatDoor.Ver
open Go.RowKit Rc Ss Go.Sort

def FormD (r : List Spn × Bool) (w : World) (e : Ending) (w' : World) : Prop := ∃ v, e = .returned (.tuple #[v, .bool r.2]) ∧ RowD setK w' v r.1 ∧ Below w.heap.size w w'
theorem behind_low (a b : Spn) (r : Bool) (h : a.low b = r) (w : World) : Calls Tryz.prog 32 #[.agg #[.string a.1, .string a.2], .agg #[.string b.1, .string b.2]] w fun e w' => e = .returned (.bool (!r)) ∧ Below w.heap.size w w' :=
  behind_is a.1 a.2 b.1 b.2 (!r) (by rw [Bool.not_not]; exact h) w
theorem may_not {l : List Spn} {k : Nat} (hk : k < l.length) (h : smay (Rc.nth l k).lo (Rc.nth l k).hi = false) : form l = ([], false) := form_not fun ho => by
  have := ho _ (Rc.nth_mem hk)
  have h2 : smay (Rc.nth l k).lo (Rc.nth l k).hi = true := this
  rw [h] at h2; cases h2

/-- What the merging has come to. -/
structure CurI (l cur : List Spn) (b : Bool) : Prop where
  same : spanSp.Same l cur
  oks : spanSp.Oks cur
  apart : b = false → cur.Pairwise spanSp.Apart
  len : cur.length ≤ 1000

set_option maxRecDepth 100000 in
set_option maxHeartbeats 8000000 in
theorem refForm_is (w : World) (v : Value) (l : List Spn) (h : RowD setK w v l) (hl : l.length ≤ 1000) (r : List Spn × Bool) (hr : form l = r) :
    Calls Tryz.prog 15 #[v] w (FormD r w) := by
  obtain ⟨A, L, c, rfl⟩ := h.sl
  have H := Lib.hid h
  have HL := Lib.hid h.len
  have hc := h.cap
  have HR := Lib.hid hr
  have HL1 := Lib.hid hl
  have HB0 := Lib.hid (Below.refl w.heap.size w)
  clear h hl hr
  go_enter Tryz.func15, Tryz.ntmps15
  go_wp2
  go_loopw [12] (fun i wr => ∃ k : Nat, k ≤ L ∧ i = .int .i64 k ∧ Hid (∀ s ∈ l.take k, s.ok) ∧ Hid (Below w.heap.size w wr)) (fun i _ => L - (RowKit.intOf i).toNat)
  case atStart => exact ⟨0, Nat.zero_le _, rfl, Lib.hid (by simp), HB0⟩
  case round =>
    obtain ⟨k, hk, rfl, HN, HW⟩ := hrel
    by_cases hlt : k < L
    · have hkl : k < l.length := by rw [← HL.out]; exact hlt
      obtain ⟨bb, off, rfl, hb', _, _, c0, c1⟩ := spn_at (H.out.below HW.out (Nat.le_refl _)) hlt
      have HNT := Lib.hid (fun (h : smay (Rc.nth l k).lo (Rc.nth l k).hi = false) => may_not hkl h)
      have HS := Lib.hid (Rc.take_snoc hkl)
      obtain ⟨s, hs⟩ : ∃ s, Rc.nth l k = s := ⟨_, rfl⟩
      rw [hs] at c0 c1 HNT HS
      obtain ⟨lo, hi⟩ := s
      obtain ⟨b, hb⟩ : ∃ b, smay lo.data.toList hi.data.toList = b := ⟨_, rfl⟩
      have HBB := Lib.hid hb
      clear hs hkl hb
      go_wp2_with fail
      refine (refSMay_is lo hi b HBB.out _).mono ?_
      rintro e w1 ⟨rfl, hb1⟩
      have HW1 := Lib.hid (HW.out.trans (hb1.mono HW.out.size))
      clear hb1
      cases b with
      | false =>
        have HV := Lib.hid (show r = ([], false) by rw [← HR.out]; exact HNT.out HBB.out)
        go_wp2
        exact bodyPost_ret (v := .tuple #[.slice (some ⟨w1.heap.size, 0, none⟩) 0 0, .bool false]) (by simp [results, Tryz.results15, go_sem]) rfl ⟨_, by rw [HV.out], by rw [HV.out]; exact RowD.empty' _ _ (Nat.zero_le _), HW1.out.alloc HW1.out.size _⟩
      | true =>
        have HV := Lib.hid (show ∀ s ∈ l.take (k + 1), s.ok by
          rw [HS.out]
          intro s hs
          rcases List.mem_append.1 hs with hs | hs
          · exact HN.out s hs
          · rw [List.mem_singleton.1 hs]; exact HBB.out)
        go_wp2
        go_roundw
        case rel => exact ⟨k + 1, by omega, by go_num, HV, HW1⟩
        case measure => simp [RowKit.intOf]; omega
    · obtain rfl : k = L := by omega
      have HO := Lib.hid (show spanSp.Oks l by
        have h0 := HN.out
        rwa [HL.out, List.take_length] at h0)
      clear HN
      go_wp2
      go_loopw [0, 5] (fun v m wr => ∃ (A : Option Addr) (L c : Nat) (b : Bool) (cur : List Spn), v = .slice A L c ∧ m = .bool b ∧ Hid (L = cur.length) ∧ L ≤ c ∧ c ≤ 9223372036854775807 ∧ Hid (RowD setK wr v cur) ∧ Hid (CurI l cur b) ∧ Hid (Below w.heap.size w wr))
        (fun v m _ => match v, m with | .slice _ L _, .bool b => L + b.toNat | _, _ => 0)
      case atStart => exact ⟨A, k, c, true, l, rfl, rfl, HL, hc.1, hc.2, Lib.hid (H.out.below HW.out (Nat.le_refl _)), Lib.hid ⟨.refl l, HO.out, fun h => (by cases h), HL1.out⟩, HW⟩
      case round =>
        clear HW hc HL H
        obtain ⟨A, L, c, b, cur, rfl, rfl, HLL, hc1, hc2, H, HC, HW⟩ := hrel
        cases b with
        | true =>
          go_wp2_with fail
          have hok : ∀ s ∈ cur, s.ok := HC.out.oks
          refine (merged_any _ _ cur H.out hok HC.out.len).mono ?_
          rintro e w1 ⟨v1, b1, m1, rfl, hv1, hm1, hb1⟩
          obtain ⟨A1, L1, c1, rfl⟩ := hv1.sl
          have HL1 := Lib.hid hv1.len
          have hc1' := hv1.cap
          have HW1 := Lib.hid (HW.out.trans (hb1.mono HW.out.size))
          have HV1 := Lib.hid hv1
          clear hb1 hv1
          cases b1 with
          | true =>
            obtain ⟨q1, q2, q3⟩ := merged_true hm1 HC.out.oks
            have HQ : Hid (CurI l m1 true) := Lib.hid ⟨HC.out.same.trans q1, q2, fun h => (by cases h), by have := HC.out.len; omega⟩
            have q4 : L1 + 1 = L := by have := HL1.out; have := HLL.out; omega
            clear q1 q2 q3 hm1
            go_wp2
            go_roundw
            case rel => exact ⟨A1, L1, c1, true, m1, rfl, rfl, HL1, hc1'.1, hc1'.2, HV1, HQ, HW1⟩
            case measure => simp; omega
          | false =>
            obtain ⟨q1, q2⟩ := merged_false hm1
            have HQ : Hid (CurI l m1 false) := Lib.hid (by rw [q1]; exact ⟨HC.out.same, HC.out.oks, fun _ => q2, HC.out.len⟩)
            have q3 := Lib.hid (show L1 = L by rw [HL1.out, q1, HLL.out])
            clear q1 q2 hm1
            go_wp2
            go_roundw
            case rel => exact ⟨A1, L1, c1, false, m1, rfl, rfl, HL1, hc1'.1, hc1'.2, HV1, HQ, HW1⟩
            case measure => have := q3.out; simp; omega
        | false =>
          have HA := Lib.hid (HC.out.apart rfl)
          have HX := Lib.hid HC.out.oks
          have HSM := Lib.hid HC.out.same
          have HLN := Lib.hid HC.out.len
          clear HC
          have HCL := HLL
          have hL1000 : L ≤ 1000 := by rw [HLL.out]; exact HLN.out
          obtain ⟨wz, hwz⟩ : ∃ wz : World, wz = wr := ⟨_, rfl⟩
          subst hwz
          go_wp2
          go_loopw [6, 32] (fun v i wr => ∃ (k g n c' : Nat) (o : List Spn), k ≤ L ∧ i = .int .i64 k ∧ v = .slice (some ⟨g, 0, none⟩) n c' ∧ Hid (n = k) ∧ n ≤ c' ∧ c' ≤ 9223372036854775807 ∧ Hid (OwnK setK 31 wz wr wz.heap.size v o) ∧ Hid (Laid cur k o) ∧ Hid (Below wz.heap.size wz wr)) (fun _ i _ => L - (RowKit.intOf i).toNat)
          case atStart => exact ⟨0, _, 0, 0, [], Nat.zero_le _, rfl, rfl, Lib.hid rfl, Nat.le_refl _, Nat.zero_le _, Lib.hid (OwnK.empty wz (heap_alloc_new _ _) (Nat.le_refl _)), Lib.hid (Laid.start cur), Lib.hid ((Below.refl _ _).alloc (Nat.le_refl _) _)⟩
          case round =>
            obtain ⟨k, g, n, c', o, hk, rfl, rfl, HNK, hnc, hcc, HOO, HLD, HWz⟩ := hrel
            have hn1000 : n ≤ 1000 := by have := HNK.out; omega
            by_cases hlt : k < L
            · obtain ⟨wo, hwo⟩ : ∃ wo : World, wo = wr := ⟨_, rfl⟩
              subst hwo
              have hkc : k < cur.length := by rw [← HCL.out]; exact hlt
              obtain ⟨bx, offx, rfl, hbx, m1, m2, x0, x1⟩ := spn_at (H.out.below HWz.out (Nat.le_refl _)) hlt
              obtain ⟨x, hx⟩ : ∃ x, Rc.nth cur k = x := ⟨_, rfl⟩
              rw [hx] at m1 m2 x0 x1
              have HXN := Lib.hid hx
              have HXO := Lib.hid (show x.ok by rw [← hx]; exact HX.out _ (Rc.nth_mem hkc))
              have HST := Lib.hid (fun (p : Nat) (o2 : List Spn) (e : o2 = o) (hp : p ≤ o2.length) (h1 : p = 0 ∨ (Rc.nth o2 (p - 1)).low x = true) (h2 : ∀ s ∈ o2.drop p, x.low s = true) => (show Laid cur (k + 1) (o2.take p ++ (x :: o2.drop p)) by
                subst e
                rw [← hx] at h1 h2 ⊢
                exact HLD.out.step hkc HX.out HA.out hp h1 h2))
              obtain ⟨xlo, xhi⟩ := x
              have HXS := Lib.hid (And.intro m1 m2)
              clear hx m1 m2 hkc
              have HOR := Lib.hid (HOO.out.row HWz.out)
              have HOL := Lib.hid (show o.length = n by rw [HLD.out.len, HNK.out])
              go_wp2
              go_loopw [8] (fun i wr => ∃ p : Nat, p ≤ n ∧ i = .int .i64 p ∧ Hid (∀ s ∈ o.drop p, Spn.low (xlo, xhi) s = true) ∧ Hid (Below wo.heap.size wo wr)) (fun i _ => (RowKit.intOf i).toNat)
              case atStart => exact ⟨n, Nat.le_refl _, rfl, Lib.hid (by rw [List.drop_eq_nil_of_le (by rw [HOL.out]; omega)]; simp), Lib.hid (Below.refl _ _)⟩
              case round =>
                obtain ⟨p, hp, rfl, HP2, HWi⟩ := hrel
                by_cases hpp : 0 < p
                · obtain ⟨q, hq⟩ : ∃ q, q + 1 = p := ⟨p - 1, by omega⟩
                  have HQP := Lib.hid hq
                  obtain ⟨b1, off1, e, _, _, _, c0, c1⟩ := spn_at (HOR.out.below HWi.out (Nat.le_refl _)) (show q < n by omega)
                  cases e
                  rw [Nat.zero_add] at c0 c1
                  have z0 := (HWi.out.cell (p := ⟨bx, offx + k * 2, none⟩) hbx).trans x0
                  have z1 := (HWi.out.cell (p := ⟨bx, offx + k * 2 + 1, none⟩) hbx).trans x1
                  have HOK := Lib.hid (show (Rc.nth o q).ok from HLD.out.row.oks _ (Rc.nth_mem (by rw [HOL.out]; omega)))
                  obtain ⟨s, hs⟩ : ∃ s, Rc.nth o q = s := ⟨_, rfl⟩
                  rw [hs] at c0 c1 HOK
                  have HSN := Lib.hid hs
                  clear hs
                  obtain ⟨slo, shi⟩ := s
                  obtain ⟨b, hb⟩ : ∃ b, Spn.low (slo, shi) (xlo, xhi) = b := ⟨_, rfl⟩
                  have HBB := Lib.hid hb
                  clear hb
                  have g0 : (0 : Int) < (p : Int) := by omega
                  have g1 : (0 : Int) ≤ (q : Int) := by omega
                  have g2 : (q : Int) < (n : Int) := by omega
                  have g3 : (0 : Int) ≤ (k : Int) := by omega
                  have g4 : (k : Int) < (L : Int) := by omega
                  have wq : IntKind.i64.wrap ((p : Int) - 1) = (q : Int) := by rw [show (p : Int) - 1 = (q : Int) by omega]; exact IntWalk.i64_in _ (by omega)
                  clear hq
                  have k0 := cell_regrown c0
                  have k1 := cell_regrown c1
                  have k2 := cell_regrown z0
                  have k3 := cell_regrown z1
                  have CS := Lib.hid (show ∀ d os, Calls Tryz.prog 32 #[.agg #[.string slo, .string shi], .agg #[.string xlo, .string xhi]] (grow (redrawn wr d) os) fun e w'' => e = .returned (.bool (!b)) ∧ ∃ p : Regrown, w'' = grow (redrawn wr p.d) p.os from
                    fun d os => Calls.regrown_of (behind_low (slo, shi) (xlo, xhi) b HBB.out _))
                  go_wp2_with fail
                  refine wp_region_quiet_below (by kernel_rfl) (by kernel_rfl) ?_
                  repeat (go_big_quiet_step ((go_at_call 32; with_reducible exact CS.out _ _)))
                  refine wpQuiet_nil ?_
                  intro wc hw'
                  obtain ⟨⟨dq, osq⟩, hw1⟩ := hw'
                  have HWc := Lib.hid (show Below wo.heap.size wo wc by rw [hw1]; exact HWi.out.trans ((below_regrown wr dq osq).mono HWi.out.size))
                  clear hw1 k0 k1 k2 k3 c0 c1 z0 z1 CS
                  cases b with
                  | false =>
                    have HQ := Lib.hid (show ∀ s ∈ o.drop q, Spn.low (xlo, xhi) s = true by
                      have e : p - 1 = q := by have := HQP.out; omega
                      rw [← e]
                      exact drop_low (p := p) (by omega) (by rw [HOL.out]; omega) HP2.out (by rw [e, HSN.out]; exact spanSp.low_total (a := (slo, shi)) (b := (xlo, xhi)) HOK.out HXO.out HBB.out))
                    go_wp2_with fail
                    go_roundw
                    case rel => exact ⟨q, by omega, by go_num, HQ, HWc⟩
                    case measure => have := HQP.out; simp [RowKit.intOf]; omega
                  | true =>
                    have HP1 : Hid (p = 0 ∨ (Rc.nth o (p - 1)).low (xlo, xhi) = true) := Lib.hid (.inr (by
                      have e : p - 1 = q := by have := HQP.out; omega
                      rw [e, HSN.out]; exact HBB.out))
                    clear wq
                    have HLD2 := Lib.hid (HST.out p o rfl (by rw [HOL.out]; omega) HP1.out HP2.out)
                    have HORc := Lib.hid (HOR.out.below HWc.out (Nat.le_refl _))
                    have X0 := Lib.hid ((HWc.out.cell (p := ⟨bx, offx + k * 2, none⟩) hbx).trans x0)
                    have X1 := Lib.hid ((HWc.out.cell (p := ⟨bx, offx + k * 2 + 1, none⟩) hbx).trans x1)
                    have HBX := Lib.hid (Nat.lt_of_lt_of_le hbx HWc.out.size)
                    have HB1 := Lib.hid ((Below.refl wc.heap.size wc).alloc (Nat.le_refl _) (.cells #[] 31))
                    have HE : Hid (OwnK setK 31 wc (wc.alloc (.cells #[] 31)) wc.heap.size (.slice (some ⟨wc.heap.size, 0, none⟩) 0 0) []) := Lib.hid (OwnK.empty wc (heap_alloc_new _ _) (Nat.le_refl _))
                    have HTK := Lib.hid (HORc.out.take hp)
                    have HS1 : Hid (([] : List Spn).length + (o.take p).length ≤ 100000) := Lib.hid (by have := HOL.out; rw [List.length_take]; simp; omega)
                    have HS2 : Hid (([] ++ o.take p).length ≤ 99999) := Lib.hid (by have := HOL.out; simp; omega)
                    have HS3 : Hid (([] ++ o.take p ++ [(xlo, xhi)]).length + (o.drop p).length ≤ 100000) := Lib.hid (by have := HOL.out; simp; omega)
                    clear x0 x1
                    have g1 : (0 : Int) ≤ (p : Int) := by omega
                    have g2 : (p : Int) ≤ (n : Int) := by omega
                    have g3 : (p : Int) ≤ (c' : Int) := by omega
                    have g4 : (n : Int) ≤ (c' : Int) := by omega
                    have g5 : (0 : Int) ≤ (k : Int) := by omega
                    have g6 : (k : Int) < (L : Int) := by omega
                    by_cases hcp : c' = p
                    · have hnp : n = p := by omega
                      have HDR : Hid (RowD setK wc (.slice (some ⟨g, 0, none⟩) 0 0) (o.drop p)) := Lib.hid (by rw [List.drop_eq_nil_of_le (by rw [HOL.out]; omega)]; exact RowD.empty' _ _ (Nat.zero_le _))
                      subst hcp
                      subst hnp
                      go_wp2_with (first
                        | (at_builtin; refine wpList_app_row elemSpan rfl (.tmp 54) (.tmp 57) rfl rfl (w0 := wc) (base := wc.heap.size) (v := .slice (some ⟨wc.heap.size, 0, none⟩) 0 0) (x := .slice (some ⟨g, 0, none⟩) n n) (xs := []) (zs := o.take n) rfl rfl HB1.out HE.out HTK.out HS1.out HB1.out.size ?_; intro A1 L1 c1 w1 hown1 hg1; have HO1 := Lib.hid hown1; have HB2 := Lib.hid (HB1.out.grown hg1 HB1.out.size (fun g hgg => (HE.out.lt g hgg).1)); have z0 := (HB2.out.cell (p := ⟨bx, offx + k * 2, none⟩) HBX.out).trans X0.out; have z1 := (HB2.out.cell (p := ⟨bx, offx + k * 2 + 1, none⟩) HBX.out).trans X1.out; clear hown1 hg1)
                        | (at_builtin; refine wpList_app_el elemSpan rfl (.tmp 59) (.tmp 64) rfl rfl (w0 := wc) (base := wc.heap.size) (X := w1.heap.size) (v := .slice A1 L1 c1) (xs := [] ++ o.take n) (x := (xlo, xhi)) (cs := #[.string xlo, .string xhi]) rfl rfl (HO1.out.alloc _) (heap_alloc_new w1 _) ⟨rfl, HXS.out.1, HXS.out.2⟩ HS2.out (HB2.out.alloc HB2.out.size _).size ?_; intro A2 L2 c2 w2 hown2 hg2; have HO2 := Lib.hid hown2; have HB3 := Lib.hid ((HB2.out.alloc HB2.out.size (.cells #[.string xlo, .string xhi] 31)).grown hg2 (HB2.out.alloc HB2.out.size (.cells #[.string xlo, .string xhi] 31)).size (fun g hgg => (HO1.out.lt g hgg).1)); clear hown2 hg2 z0 z1)
                        | (at_builtin; refine wpList_app_row elemSpan rfl (.tmp 66) (.tmp 69) rfl rfl (w0 := wc) (base := wc.heap.size) (v := .slice A2 L2 c2) (x := .slice (some ⟨g, 0, none⟩) 0 0) (xs := [] ++ o.take n ++ [(xlo, xhi)]) (zs := o.drop n) rfl rfl HB3.out HO2.out HDR.out HS3.out HB3.out.size ?_; intro A3 L3 c3 w3 hown3 hg3; have HO3 := Lib.hid hown3; have HB4 := Lib.hid (HB3.out.grown hg3 HB3.out.size (fun g hgg => (HO2.out.lt g hgg).1)); clear hown3 hg3))
                      obtain ⟨g3, rfl, _, hc31, hc32⟩ := HO3.out.at_ne (by simp)
                      have hl3 := HO3.out.len
                      have hl4 : L3 = k + 1 := by rw [hl3]; have := HLD2.out.len; simp at this ⊢; omega
                      clear hl3
                      go_roundw
                      case rel => exact ⟨k + 1, g3, L3, c3, _, by omega, by go_num, rfl, Lib.hid hl4, hc31, hc32, Lib.hid ((HO3.out.lower (HWz.out.trans (HWc.out.mono HWz.out.size)).size).from'), Lib.hid (by rw [show [] ++ o.take n ++ [(xlo, xhi)] ++ o.drop n = o.take n ++ ((xlo, xhi) :: o.drop n) by simp]; exact HLD2.out), Lib.hid ((HWz.out.trans (HWc.out.mono HWz.out.size)).trans (HB4.out.mono (HWz.out.trans (HWc.out.mono HWz.out.size)).size))⟩
                      case measure => simp [RowKit.intOf]; omega
                    · have HDR := Lib.hid (show RowD setK wc (.slice (some ⟨g, p * 2, none⟩) (n - p) (c' - p)) (o.drop p) by have := HORc.out.drop hp; rw [Nat.zero_add] at this; exact this)
                      have hcp2 : ¬ c' = 0 := by omega
                      go_wp2_with (first
                        | (at_builtin; refine wpList_app_row elemSpan rfl (.tmp 54) (.tmp 57) rfl rfl (w0 := wc) (base := wc.heap.size) (v := .slice (some ⟨wc.heap.size, 0, none⟩) 0 0) (x := .slice (some ⟨g, 0, none⟩) p c') (xs := []) (zs := o.take p) rfl rfl HB1.out HE.out HTK.out HS1.out HB1.out.size ?_; intro A1 L1 c1 w1 hown1 hg1; have HO1 := Lib.hid hown1; have HB2 := Lib.hid (HB1.out.grown hg1 HB1.out.size (fun g hgg => (HE.out.lt g hgg).1)); have z0 := (HB2.out.cell (p := ⟨bx, offx + k * 2, none⟩) HBX.out).trans X0.out; have z1 := (HB2.out.cell (p := ⟨bx, offx + k * 2 + 1, none⟩) HBX.out).trans X1.out; clear hown1 hg1)
                        | (at_builtin; refine wpList_app_el elemSpan rfl (.tmp 59) (.tmp 64) rfl rfl (w0 := wc) (base := wc.heap.size) (X := w1.heap.size) (v := .slice A1 L1 c1) (xs := [] ++ o.take p) (x := (xlo, xhi)) (cs := #[.string xlo, .string xhi]) rfl rfl (HO1.out.alloc _) (heap_alloc_new w1 _) ⟨rfl, HXS.out.1, HXS.out.2⟩ HS2.out (HB2.out.alloc HB2.out.size _).size ?_; intro A2 L2 c2 w2 hown2 hg2; have HO2 := Lib.hid hown2; have HB3 := Lib.hid ((HB2.out.alloc HB2.out.size (.cells #[.string xlo, .string xhi] 31)).grown hg2 (HB2.out.alloc HB2.out.size (.cells #[.string xlo, .string xhi] 31)).size (fun g hgg => (HO1.out.lt g hgg).1)); clear hown2 hg2 z0 z1)
                        | (at_builtin; refine wpList_app_row elemSpan rfl (.tmp 66) (.tmp 69) rfl rfl (w0 := wc) (base := wc.heap.size) (v := .slice A2 L2 c2) (x := .slice (some ⟨g, p * 2, none⟩) (n - p) (c' - p)) (xs := [] ++ o.take p ++ [(xlo, xhi)]) (zs := o.drop p) rfl rfl HB3.out HO2.out HDR.out HS3.out HB3.out.size ?_; intro A3 L3 c3 w3 hown3 hg3; have HO3 := Lib.hid hown3; have HB4 := Lib.hid (HB3.out.grown hg3 HB3.out.size (fun g hgg => (HO2.out.lt g hgg).1)); clear hown3 hg3))
                      obtain ⟨g3, rfl, _, hc31, hc32⟩ := HO3.out.at_ne (by simp)
                      have hl3 := HO3.out.len
                      have hl4 : L3 = k + 1 := by rw [hl3]; have := HLD2.out.len; simp at this ⊢; omega
                      clear hl3
                      go_roundw
                      case rel => exact ⟨k + 1, g3, L3, c3, _, by omega, by go_num, rfl, Lib.hid hl4, hc31, hc32, Lib.hid ((HO3.out.lower (HWz.out.trans (HWc.out.mono HWz.out.size)).size).from'), Lib.hid (by rw [show [] ++ o.take p ++ [(xlo, xhi)] ++ o.drop p = o.take p ++ ((xlo, xhi) :: o.drop p) by simp]; exact HLD2.out), Lib.hid ((HWz.out.trans (HWc.out.mono HWz.out.size)).trans (HB4.out.mono (HWz.out.trans (HWc.out.mono HWz.out.size)).size))⟩
                      case measure => simp [RowKit.intOf]; omega
                · have gneg : ¬ (0 : Int) < (p : Int) := by omega
                  have HP1 : Hid (p = 0 ∨ (Rc.nth o (p - 1)).low (xlo, xhi) = true) := Lib.hid (.inl (by omega))
                  go_wp2_with fail
                  refine wp_region_quiet_below (by kernel_rfl) (by kernel_rfl) ?_
                  repeat (go_big_quiet_step ((fail)))
                  refine wpQuiet_nil ?_
                  intro wc hw'
                  obtain ⟨⟨dq, osq⟩, hw1⟩ := hw'
                  have HWc := Lib.hid (show Below wo.heap.size wo wc by rw [hw1]; exact HWi.out.trans ((below_regrown wr dq osq).mono HWi.out.size))
                  clear hw1
                  have HLD2 := Lib.hid (HST.out p o rfl (by rw [HOL.out]; omega) HP1.out HP2.out)
                  have HORc := Lib.hid (HOR.out.below HWc.out (Nat.le_refl _))
                  have X0 := Lib.hid ((HWc.out.cell (p := ⟨bx, offx + k * 2, none⟩) hbx).trans x0)
                  have X1 := Lib.hid ((HWc.out.cell (p := ⟨bx, offx + k * 2 + 1, none⟩) hbx).trans x1)
                  have HBX := Lib.hid (Nat.lt_of_lt_of_le hbx HWc.out.size)
                  have HB1 := Lib.hid ((Below.refl wc.heap.size wc).alloc (Nat.le_refl _) (.cells #[] 31))
                  have HE : Hid (OwnK setK 31 wc (wc.alloc (.cells #[] 31)) wc.heap.size (.slice (some ⟨wc.heap.size, 0, none⟩) 0 0) []) := Lib.hid (OwnK.empty wc (heap_alloc_new _ _) (Nat.le_refl _))
                  have HTK := Lib.hid (HORc.out.take hp)
                  have HS1 : Hid (([] : List Spn).length + (o.take p).length ≤ 100000) := Lib.hid (by have := HOL.out; rw [List.length_take]; simp; omega)
                  have HS2 : Hid (([] ++ o.take p).length ≤ 99999) := Lib.hid (by have := HOL.out; simp; omega)
                  have HS3 : Hid (([] ++ o.take p ++ [(xlo, xhi)]).length + (o.drop p).length ≤ 100000) := Lib.hid (by have := HOL.out; simp; omega)
                  clear x0 x1
                  have g1 : (0 : Int) ≤ (p : Int) := by omega
                  have g2 : (p : Int) ≤ (n : Int) := by omega
                  have g3 : (p : Int) ≤ (c' : Int) := by omega
                  have g4 : (n : Int) ≤ (c' : Int) := by omega
                  have g5 : (0 : Int) ≤ (k : Int) := by omega
                  have g6 : (k : Int) < (L : Int) := by omega
                  by_cases hcp : c' = p
                  · have hnp : n = p := by omega
                    have HDR : Hid (RowD setK wc (.slice (some ⟨g, 0, none⟩) 0 0) (o.drop p)) := Lib.hid (by rw [List.drop_eq_nil_of_le (by rw [HOL.out]; omega)]; exact RowD.empty' _ _ (Nat.zero_le _))
                    subst hcp
                    subst hnp
                    go_wp2_with (first
                      | (at_builtin; refine wpList_app_row elemSpan rfl (.tmp 54) (.tmp 57) rfl rfl (w0 := wc) (base := wc.heap.size) (v := .slice (some ⟨wc.heap.size, 0, none⟩) 0 0) (x := .slice (some ⟨g, 0, none⟩) n n) (xs := []) (zs := o.take n) rfl rfl HB1.out HE.out HTK.out HS1.out HB1.out.size ?_; intro A1 L1 c1 w1 hown1 hg1; have HO1 := Lib.hid hown1; have HB2 := Lib.hid (HB1.out.grown hg1 HB1.out.size (fun g hgg => (HE.out.lt g hgg).1)); have z0 := (HB2.out.cell (p := ⟨bx, offx + k * 2, none⟩) HBX.out).trans X0.out; have z1 := (HB2.out.cell (p := ⟨bx, offx + k * 2 + 1, none⟩) HBX.out).trans X1.out; clear hown1 hg1)
                      | (at_builtin; refine wpList_app_el elemSpan rfl (.tmp 59) (.tmp 64) rfl rfl (w0 := wc) (base := wc.heap.size) (X := w1.heap.size) (v := .slice A1 L1 c1) (xs := [] ++ o.take n) (x := (xlo, xhi)) (cs := #[.string xlo, .string xhi]) rfl rfl (HO1.out.alloc _) (heap_alloc_new w1 _) ⟨rfl, HXS.out.1, HXS.out.2⟩ HS2.out (HB2.out.alloc HB2.out.size _).size ?_; intro A2 L2 c2 w2 hown2 hg2; have HO2 := Lib.hid hown2; have HB3 := Lib.hid ((HB2.out.alloc HB2.out.size (.cells #[.string xlo, .string xhi] 31)).grown hg2 (HB2.out.alloc HB2.out.size (.cells #[.string xlo, .string xhi] 31)).size (fun g hgg => (HO1.out.lt g hgg).1)); clear hown2 hg2 z0 z1)
                      | (at_builtin; refine wpList_app_row elemSpan rfl (.tmp 66) (.tmp 69) rfl rfl (w0 := wc) (base := wc.heap.size) (v := .slice A2 L2 c2) (x := .slice (some ⟨g, 0, none⟩) 0 0) (xs := [] ++ o.take n ++ [(xlo, xhi)]) (zs := o.drop n) rfl rfl HB3.out HO2.out HDR.out HS3.out HB3.out.size ?_; intro A3 L3 c3 w3 hown3 hg3; have HO3 := Lib.hid hown3; have HB4 := Lib.hid (HB3.out.grown hg3 HB3.out.size (fun g hgg => (HO2.out.lt g hgg).1)); clear hown3 hg3))
                    obtain ⟨g3, rfl, _, hc31, hc32⟩ := HO3.out.at_ne (by simp)
                    have hl3 := HO3.out.len
                    have hl4 : L3 = k + 1 := by rw [hl3]; have := HLD2.out.len; simp at this ⊢; omega
                    clear hl3
                    go_roundw
                    case rel => exact ⟨k + 1, g3, L3, c3, _, by omega, by go_num, rfl, Lib.hid hl4, hc31, hc32, Lib.hid ((HO3.out.lower (HWz.out.trans (HWc.out.mono HWz.out.size)).size).from'), Lib.hid (by rw [show [] ++ o.take n ++ [(xlo, xhi)] ++ o.drop n = o.take n ++ ((xlo, xhi) :: o.drop n) by simp]; exact HLD2.out), Lib.hid ((HWz.out.trans (HWc.out.mono HWz.out.size)).trans (HB4.out.mono (HWz.out.trans (HWc.out.mono HWz.out.size)).size))⟩
                    case measure => simp [RowKit.intOf]; omega
                  · have HDR := Lib.hid (show RowD setK wc (.slice (some ⟨g, p * 2, none⟩) (n - p) (c' - p)) (o.drop p) by have := HORc.out.drop hp; rw [Nat.zero_add] at this; exact this)
                    have hcp2 : ¬ c' = 0 := by omega
                    go_wp2_with (first
                      | (at_builtin; refine wpList_app_row elemSpan rfl (.tmp 54) (.tmp 57) rfl rfl (w0 := wc) (base := wc.heap.size) (v := .slice (some ⟨wc.heap.size, 0, none⟩) 0 0) (x := .slice (some ⟨g, 0, none⟩) p c') (xs := []) (zs := o.take p) rfl rfl HB1.out HE.out HTK.out HS1.out HB1.out.size ?_; intro A1 L1 c1 w1 hown1 hg1; have HO1 := Lib.hid hown1; have HB2 := Lib.hid (HB1.out.grown hg1 HB1.out.size (fun g hgg => (HE.out.lt g hgg).1)); have z0 := (HB2.out.cell (p := ⟨bx, offx + k * 2, none⟩) HBX.out).trans X0.out; have z1 := (HB2.out.cell (p := ⟨bx, offx + k * 2 + 1, none⟩) HBX.out).trans X1.out; clear hown1 hg1)
                      | (at_builtin; refine wpList_app_el elemSpan rfl (.tmp 59) (.tmp 64) rfl rfl (w0 := wc) (base := wc.heap.size) (X := w1.heap.size) (v := .slice A1 L1 c1) (xs := [] ++ o.take p) (x := (xlo, xhi)) (cs := #[.string xlo, .string xhi]) rfl rfl (HO1.out.alloc _) (heap_alloc_new w1 _) ⟨rfl, HXS.out.1, HXS.out.2⟩ HS2.out (HB2.out.alloc HB2.out.size _).size ?_; intro A2 L2 c2 w2 hown2 hg2; have HO2 := Lib.hid hown2; have HB3 := Lib.hid ((HB2.out.alloc HB2.out.size (.cells #[.string xlo, .string xhi] 31)).grown hg2 (HB2.out.alloc HB2.out.size (.cells #[.string xlo, .string xhi] 31)).size (fun g hgg => (HO1.out.lt g hgg).1)); clear hown2 hg2 z0 z1)
                      | (at_builtin; refine wpList_app_row elemSpan rfl (.tmp 66) (.tmp 69) rfl rfl (w0 := wc) (base := wc.heap.size) (v := .slice A2 L2 c2) (x := .slice (some ⟨g, p * 2, none⟩) (n - p) (c' - p)) (xs := [] ++ o.take p ++ [(xlo, xhi)]) (zs := o.drop p) rfl rfl HB3.out HO2.out HDR.out HS3.out HB3.out.size ?_; intro A3 L3 c3 w3 hown3 hg3; have HO3 := Lib.hid hown3; have HB4 := Lib.hid (HB3.out.grown hg3 HB3.out.size (fun g hgg => (HO2.out.lt g hgg).1)); clear hown3 hg3))
                    obtain ⟨g3, rfl, _, hc31, hc32⟩ := HO3.out.at_ne (by simp)
                    have hl3 := HO3.out.len
                    have hl4 : L3 = k + 1 := by rw [hl3]; have := HLD2.out.len; simp at this ⊢; omega
                    clear hl3
                    go_roundw
                    case rel => exact ⟨k + 1, g3, L3, c3, _, by omega, by go_num, rfl, Lib.hid hl4, hc31, hc32, Lib.hid ((HO3.out.lower (HWz.out.trans (HWc.out.mono HWz.out.size)).size).from'), Lib.hid (by rw [show [] ++ o.take p ++ [(xlo, xhi)] ++ o.drop p = o.take p ++ ((xlo, xhi) :: o.drop p) by simp]; exact HLD2.out), Lib.hid ((HWz.out.trans (HWc.out.mono HWz.out.size)).trans (HB4.out.mono (HWz.out.trans (HWc.out.mono HWz.out.size)).size))⟩
                    case measure => simp [RowKit.intOf]; omega
            · obtain rfl : k = L := by omega
              have HCN : Hid (spanSp.Canon l o) := Lib.hid (by
                have := HLD.out
                rw [HCL.out] at this
                exact this.done HSM.out)
              have HWW := Lib.hid (HW.out.trans (HWz.out.mono HW.out.size))
              by_cases h16 : 16 < n
              · have g16 : (16 : Int) < (n : Int) := by omega
                have HV := Lib.hid (show r = ([], false) by rw [← HR.out]; exact form_long HCN.out (by rw [HLD.out.len]; have := HNK.out; omega))
                go_wp2
                exact bodyPost_ret (v := .tuple #[.slice (some ⟨wr.heap.size, 0, none⟩) 0 0, .bool false]) (by simp [results, Tryz.results15, go_sem]) rfl ⟨_, by rw [HV.out], by rw [HV.out]; exact RowD.empty' _ _ (Nat.zero_le _), HWW.out.alloc HWW.out.size _⟩
              · have g16 : ¬ (16 : Int) < (n : Int) := by omega
                have HV := Lib.hid (show r = (o, true) by rw [← HR.out]; exact form_is HO.out HCN.out (by rw [HLD.out.len]; have := HNK.out; omega))
                go_wp2
                exact bodyPost_ret (v := .tuple #[.slice (some ⟨g, 0, none⟩) n c', .bool true]) (by simp [results, Tryz.results15, go_sem]) rfl ⟨_, by rw [HV.out], by rw [HV.out]; exact HOO.out.row HWz.out, HWW.out⟩
end Go.Proofs.YtdijkekglaimfaaGreatDoor.Ver
