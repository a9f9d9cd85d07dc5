/- What the document's guard says of a package. -/
import Derived.Test.YtggejmojbebhfaaRcGreat
namespace Go.Proofs.Ytggejmojbebhfaa.Rc
open Go.RowKit

/-- What a package's guard says. -/
def PkgSmall (x : Pkg) : Prop := x.name.size ≤ 100 ∧ x.rels.length ≤ 30 ∧ x.vars.length ≤ 20 ∧ x.deps.length ≤ 40 ∧ x.cons.length ≤ 40 ∧ x.prov.length ≤ 50 ∧ x.files.length ≤ 50
set_option maxHeartbeats 3200000 in
set_option maxRecDepth 100000 in
theorem greatPackage_any (w : World) (v1 v2 v3 v4 v5 v6 : Value) (x : Pkg) (h : IsPkg w v1 v2 v3 v4 v5 v6 x) :
    Calls Try.prog 34 #[.agg #[.string x.name, .int .i64 x.line, v1, v2, v3, v4, v5, v6]] w (SomeG (fun b => b = false → PkgSmall x) w) := by
  obtain ⟨w0, hw0⟩ : ∃ w0, w0 = w.alloc (.cells #[.string x.name, .int .i64 x.line, v1, v2, v3, v4, v5, v6] 45) := ⟨_, rfl⟩
  have hb : Below w.heap.size w w0 := by rw [hw0]; exact below_alloc w _
  have hnew : w0.heap[w.heap.size]? = some (.cells #[.string x.name, .int .i64 x.line, v1, v2, v3, v4, v5, v6] 45 (0, 0)) := by rw [hw0]; exact heap_alloc_new w _
  have h' := h.below hb (Nat.le_refl _)
  have HX := Lib.hid h'
  have HW0 := Lib.hid hw0
  obtain ⟨A1, L1, c1, rfl, hL1, h11, h12⟩ := h.rels.open'
  obtain ⟨A2, L2, c2, rfl, hL2, h21, h22⟩ := h.vars.open'
  obtain ⟨A3, L3, c3, rfl, hL3, h31, h32⟩ := h.prov.open'
  obtain ⟨A4, L4, c4, rfl, hL4, h41, h42⟩ := h.deps.open'
  obtain ⟨A5, L5, c5, rfl, hL5, h51, h52⟩ := h.cons.open'
  obtain ⟨A6, L6, c6, rfl, hL6, h61, h62⟩ := h.files.open'
  unfold maxLen at h12 h22 h32 h42 h52 h62
  have HB := Lib.hid hb
  have HNEW := Lib.hid hnew
  have HLS := Lib.hid (show L1 = x.rels.length ∧ L2 = x.vars.length ∧ L4 = x.deps.length ∧ L5 = x.cons.length from ⟨hL1, hL2, hL4, hL5⟩)
  clear h h' hL1 hL2 hL3 hL4 hL5 hL6 hb hnew hw0
  by_cases hbig : 100 < x.name.size ∨ 30 < L1 ∨ 20 < L2 ∨ 40 < L4 ∨ 40 < L5
  · go_enter Try.func34, Try.ntmps34
    go_wp2_with fail
    all_goals first
      | (go_ret; exact ⟨true, rfl, by simp, by rw [← HW0.out]; exact HB.out⟩)
      | (exfalso; omega)
  · have e0 : ¬ (100 : Int) < (x.name.size : Int) := by omega
    have e1 : ¬ (30 : Int) < (L1 : Int) := by omega
    have e2 : ¬ (20 : Int) < (L2 : Int) := by omega
    have e4 : ¬ (40 : Int) < (L4 : Int) := by omega
    have e5 : ¬ (40 : Int) < (L5 : Int) := by omega
    have HSM := Lib.hid (show x.name.size ≤ 100 ∧ x.rels.length ≤ 30 ∧ x.vars.length ≤ 20 ∧ x.deps.length ≤ 40 ∧ x.cons.length ≤ 40 by
      obtain ⟨q1, q2, q3, q4⟩ := HLS.out
      rw [← q1, ← q2, ← q3, ← q4]; omega)
    clear hbig HLS
    go_enter Try.func34, Try.ntmps34
    go_wp2_with fail
    rw [← HW0.out]
    refine (greatTexts_any _ _ _ HX.out.prov).mono ?_
    rintro e w' ⟨b3, rfl, hb3, rfl⟩
    cases b3 with
    | true =>
      clear hb3
      go_wp2
      go_ret
      exact ⟨true, rfl, by simp, HB.out⟩
    | false =>
    have HPR := Lib.hid (hb3 rfl)
    have x1 := box_get HNEW.out (Below.refl _ _) 2 (v := .slice A1 L1 c1) rfl
    have x2 := box_get HNEW.out (Below.refl _ _) 3 (v := .slice A2 L2 c2) rfl
    have x4 := box_get HNEW.out (Below.refl _ _) 5 (v := .slice A4 L4 c4) rfl
    have x5 := box_get HNEW.out (Below.refl _ _) 6 (v := .slice A5 L5 c5) rfl
    have x6 := box_get HNEW.out (Below.refl _ _) 7 (v := .slice A6 L6 c6) rfl
    clear hb3
    go_wp2_with fail
    refine (greatTexts_any _ _ _ HX.out.files).mono ?_
    rintro e w' ⟨b3, rfl, hb3, rfl⟩
    cases b3 with
    | true =>
      clear hb3
      go_wp2
      go_ret
      exact ⟨true, rfl, by simp, HB.out⟩
    | false =>
    have HFI := Lib.hid (hb3 rfl)
    clear hb3
    go_wp2
    go_loop [48] (fun i => ∃ k : Nat, k ≤ L1 ∧ i = .int .i64 k) (fun i => L1 - (intOf i).toNat)
    case atStart => exact ⟨0, Nat.zero_le _, rfl⟩
    case round =>
      obtain ⟨k, hk, rfl⟩ := hrel
      by_cases hlt : k < L1
      · obtain ⟨b, off, rfl, hb, hs, hc, hc2⟩ := rel_at HX.out.rels hlt
        go_wp2
        all_goals first
          | (go_ret; exact ⟨true, rfl, by simp, HB.out⟩)
          | (go_round
             case rel => exact ⟨k + 1, by omega, by go_num⟩
             case measure => simp [intOf]; omega)
      · obtain rfl : k = L1 := by omega
        go_wp2
        go_loop [63] (fun i => ∃ k : Nat, k ≤ L2 ∧ i = .int .i64 k) (fun i => L2 - (intOf i).toNat)
        case atStart => exact ⟨0, Nat.zero_le _, rfl⟩
        case round =>
          obtain ⟨k2, hk2, rfl⟩ := hrel
          by_cases hlt2 : k2 < L2
          · obtain ⟨b, off, u, rfl, hb, hs, hu, hc, hc2⟩ := var_at HX.out.vars hlt2
            have HU := Lib.hid hu
            obtain ⟨Au, Lu, cu, rfl⟩ := hu.sl
            clear hu
            by_cases hn : 100 < (nth x.vars k2).1.size
            · have n0 : (100 : Int) < ((nth x.vars k2).1.size : Int) := by omega
              go_wp2
              go_ret
              exact ⟨true, rfl, by simp, HB.out⟩
            · have n0 : ¬ (100 : Int) < ((nth x.vars k2).1.size : Int) := by omega
              go_wp2_with fail
              refine (greatTexts_any _ _ _ HU.out).mono ?_
              rintro e w' ⟨b3, rfl, _, rfl⟩
              cases b3 with
              | true =>
                go_wp2
                go_ret
                exact ⟨true, rfl, by simp, HB.out⟩
              | false =>
                go_wp2
                go_round
                case rel => exact ⟨k2 + 1, by omega, by go_num⟩
                case measure => simp [intOf]; omega
          · obtain rfl : k2 = L2 := by omega
            go_wp2
            clear x1 x2
            go_loopw [87] (fun i wr => ∃ k : Nat, k ≤ L4 ∧ i = .int .i64 k ∧ Below w0.heap.size w0 wr) (fun i _ => L4 - (intOf i).toNat)
            case atStart => exact ⟨0, Nat.zero_le _, rfl, Below.refl _ _⟩
            case round =>
              obtain ⟨k4, hk4, rfl, hbw⟩ := hrel
              have HBW := Lib.hid hbw
              clear x4 x5
              by_cases hlt4 : k4 < L4
              · obtain ⟨b, off, u1, u2, u3, u4, rfl, hb, hsa, hsb, hw, d0, d1, d2, d3, d4, d5, d6⟩ := two_at (HX.out.deps.below hbw (Nat.le_refl _)) hlt4
                have HSA := Lib.hid hsa
                have HSB := Lib.hid hsb
                have x4 := box_get HNEW.out hbw 5 (v := .slice (some ⟨b, off, none⟩) L4 c4) rfl
                clear hsa hsb hbw d6
                go_wp2_with fail
                refine (greatSpec_any _ _ _ _ HSA.out).mono ?_
                rintro e w2 ⟨b3, rfl, _, hb2⟩
                have HB2 := Lib.hid (HBW.out.trans (hb2.mono HBW.out.size))
                cases b3 with
                | true =>
                  clear hb2
                  go_wp2
                  go_ret
                  exact ⟨true, rfl, by simp, HB.out.trans (HB2.out.mono HB.out.size)⟩
                | false =>
                  have x4' := box_get HNEW.out HB2.out 5 (v := .slice (some ⟨b, off, none⟩) L4 c4) rfl
                  have d3' := (hb2.cell (p := ⟨b, off + k4 * 7 + 3, none⟩) hb).trans d3
                  have d4' := (hb2.cell (p := ⟨b, off + k4 * 7 + 4, none⟩) hb).trans d4
                  have d5' := (hb2.cell (p := ⟨b, off + k4 * 7 + 5, none⟩) hb).trans d5
                  have HSB2 := Lib.hid (HSB.out.below hb2 (Nat.le_refl _))
                  clear hb2 d0 d1 d2 d3 d4 d5 x4
                  go_wp2_with fail
                  refine (greatSpec_any _ _ _ _ HSB2.out).mono ?_
                  rintro e w3 ⟨b3, rfl, _, hb3⟩
                  have HB3 := Lib.hid (HB2.out.trans (hb3.mono HB2.out.size))
                  clear hb3
                  cases b3 with
                  | true =>
                    go_wp2
                    go_ret
                    exact ⟨true, rfl, by simp, HB.out.trans (HB3.out.mono HB.out.size)⟩
                  | false =>
                    go_wp2
                    go_roundw
                    case rel => exact ⟨k4 + 1, by omega, by go_num, HB3.out⟩
                    case measure => simp [intOf]; omega
              · obtain rfl : k4 = L4 := by omega
                have x5 := box_get HNEW.out hbw 6 (v := .slice A5 L5 c5) rfl
                clear hbw
                go_wp2
                clear x5
                go_loopw [110] (fun i wr => ∃ k : Nat, k ≤ L5 ∧ i = .int .i64 k ∧ Below w0.heap.size w0 wr) (fun i _ => L5 - (intOf i).toNat)
                case atStart => exact ⟨0, Nat.zero_le _, rfl, HBW.out⟩
                case round =>
                  clear HBW
                  obtain ⟨k5, hk5, rfl, hbw⟩ := hrel
                  have HBW := Lib.hid hbw
                  by_cases hlt5 : k5 < L5
                  · obtain ⟨b, off, u1, u2, u3, u4, rfl, hb, hsa, hsb, hw, d0, d1, d2, d3, d4, d5, d6⟩ := two_at (HX.out.cons.below hbw (Nat.le_refl _)) hlt5
                    have HSA := Lib.hid hsa
                    have HSB := Lib.hid hsb
                    have x5 := box_get HNEW.out hbw 6 (v := .slice (some ⟨b, off, none⟩) L5 c5) rfl
                    clear hsa hsb hbw d6
                    go_wp2_with fail
                    refine (greatSpec_any _ _ _ _ HSA.out).mono ?_
                    rintro e w2 ⟨b3, rfl, _, hb2⟩
                    have HB2 := Lib.hid (HBW.out.trans (hb2.mono HBW.out.size))
                    cases b3 with
                    | true =>
                      clear hb2
                      go_wp2
                      go_ret
                      exact ⟨true, rfl, by simp, HB.out.trans (HB2.out.mono HB.out.size)⟩
                    | false =>
                      have x5' := box_get HNEW.out HB2.out 6 (v := .slice (some ⟨b, off, none⟩) L5 c5) rfl
                      have d3' := (hb2.cell (p := ⟨b, off + k5 * 7 + 3, none⟩) hb).trans d3
                      have d4' := (hb2.cell (p := ⟨b, off + k5 * 7 + 4, none⟩) hb).trans d4
                      have d5' := (hb2.cell (p := ⟨b, off + k5 * 7 + 5, none⟩) hb).trans d5
                      have HSB2 := Lib.hid (HSB.out.below hb2 (Nat.le_refl _))
                      clear hb2 d0 d1 d2 d3 d4 d5 x5
                      go_wp2_with fail
                      refine (greatSpec_any _ _ _ _ HSB2.out).mono ?_
                      rintro e w3 ⟨b3, rfl, _, hb3⟩
                      have HB3 := Lib.hid (HB2.out.trans (hb3.mono HB2.out.size))
                      clear hb3
                      cases b3 with
                      | true =>
                        go_wp2
                        go_ret
                        exact ⟨true, rfl, by simp, HB.out.trans (HB3.out.mono HB.out.size)⟩
                      | false =>
                        go_wp2
                        go_roundw
                        case rel => exact ⟨k5 + 1, by omega, by go_num, HB3.out⟩
                        case measure => simp [intOf]; omega
                  · obtain rfl : k5 = L5 := by omega
                    clear hbw
                    go_wp2
                    go_ret
                    exact ⟨false, rfl, fun _ => ⟨HSM.out.1, HSM.out.2.1, HSM.out.2.2.1, HSM.out.2.2.2.1, HSM.out.2.2.2.2, HPR.out, HFI.out⟩, HB.out.trans (HBW.out.mono HB.out.size)⟩
end Go.Proofs.Ytggejmojbebhfaa.Rc
