/- What the document's guards say: Great of a recipe. -/
import Derived.Test.YtaahdhpljlkfjaaGreatZg02
import Derived.Test.YtaahdhpljlkfjaaGreatZg07
namespace Go.Proofs.YtaahdhpljlkfjaaGreat.Rc
open Go.RowKit

def SomeB (P : Bool → Prop) (w : World) (e : Ending) (w' : World) : Prop := ∃ b : Bool, e = .returned (.bool b) ∧ P b ∧ w = w'
def SomeG (P : Bool → Prop) (w : World) (e : Ending) (w' : World) : Prop := ∃ b : Bool, e = .returned (.bool b) ∧ P b ∧ Below w.heap.size w w'

set_option maxHeartbeats 800000 in
set_option maxRecDepth 100000 in
theorem greatTexts_any (w : World) (v : Value) (l : List ByteArray) (h : RowD strK w v l) :
    Calls Tryz.prog 15 #[v] w (SomeB (fun b => b = false → l.length ≤ 50) w) := by
  obtain ⟨A, L, c, rfl, hL, h1, h2⟩ := h.open'
  unfold maxLen at h2
  have H := Lib.hid h
  have HL := Lib.hid hL
  clear h hL
  by_cases h20 : 50 < L
  · have e1 : (50 : Int) < (L : Int) := by omega
    go_enter Tryz.func15, Tryz.ntmps15
    go_wp2
    go_ret
    exact ⟨true, rfl, by simp, rfl⟩
  · have e1 : ¬ (50 : Int) < (L : Int) := by omega
    have HLL := Lib.hid (show l.length ≤ 50 by have := HL.out; omega)
    go_enter Tryz.func15, Tryz.ntmps15
    go_wp2
    go_loop [9] (fun i => ∃ k : Nat, k ≤ L ∧ i = .int .i64 k) (fun i => L - (RowKit.intOf i).toNat)
    case atStart => exact ⟨0, Nat.zero_le _, rfl⟩
    case round =>
      obtain ⟨k, hk, rfl⟩ := hrel
      by_cases hlt : k < L
      · obtain ⟨b, off, rfl, hb, hs, hc⟩ := str_at H.out hlt
        go_wp2
        · go_ret
          exact ⟨true, rfl, by simp, rfl⟩
        · go_round
          case rel => exact ⟨k + 1, by omega, by go_num⟩
          case measure => simp [RowKit.intOf]; omega
      · go_wp2
        go_ret
        exact ⟨false, rfl, fun _ => HLL.out, rfl⟩

set_option maxHeartbeats 800000 in
set_option maxRecDepth 100000 in
theorem great03_any (w : World) (v : Value) (l : List Set1) (h : RowD setK w v l) :
    Calls Tryz.prog 60 #[v] w (SomeB (fun b => b = false → l.length ≤ 30) w) := by
  obtain ⟨A, L, c, rfl, hL, h1, h2⟩ := h.open'
  unfold maxLen at h2
  have H := Lib.hid h
  have HL := Lib.hid hL
  clear h hL
  by_cases h20 : 30 < L
  · have e1 : (30 : Int) < (L : Int) := by omega
    go_enter Tryz.func60, Tryz.ntmps60
    go_wp2
    go_ret
    exact ⟨true, rfl, by simp, rfl⟩
  · have e1 : ¬ (30 : Int) < (L : Int) := by omega
    have HLL := Lib.hid (show l.length ≤ 30 by have := HL.out; omega)
    go_enter Tryz.func60, Tryz.ntmps60
    go_wp2
    go_loop [9] (fun i => ∃ k : Nat, k ≤ L ∧ i = .int .i64 k) (fun i => L - (RowKit.intOf i).toNat)
    case atStart => exact ⟨0, Nat.zero_le _, rfl⟩
    case round =>
      obtain ⟨k, hk, rfl⟩ := hrel
      by_cases hlt : k < L
      · obtain ⟨b, off, rfl, hb, hs, hs2, hc, hc2⟩ := set_at H.out hlt
        go_wp2
        all_goals first
          | (go_ret; exact ⟨true, rfl, by simp, rfl⟩)
          | (go_round
             case rel => exact ⟨k + 1, by omega, by go_num⟩
             case measure => simp [RowKit.intOf]; omega)
      · go_wp2
        go_ret
        exact ⟨false, rfl, fun _ => HLL.out, rfl⟩

theorem below_alloc (w : World) (o : Obj) : Below w.heap.size w (w.alloc o) := (Below.refl _ _).alloc (Nat.le_refl _) _

set_option maxHeartbeats 800000 in
set_option maxRecDepth 100000 in
theorem greatSpec_any (w : World) (v1 v2 : Value) (x : Spec) (h : IsSpec w v1 v2 x) :
    Calls Tryz.prog 35 #[.agg #[.string x.name, v1, v2]] w (SomeG (fun b => b = false → x.spans.length ≤ 30 ∧ x.sets.length ≤ 20) w) := by
  have hb := below_alloc w (.cells #[.string x.name, v1, v2] 59)
  have h' := h.below hb (Nat.le_refl _)
  have HX := Lib.hid h'
  obtain ⟨A1, L1, c1, rfl, hL1, h11, h12⟩ := h.spans.open'
  obtain ⟨A2, L2, c2, rfl, hL2, h21, h22⟩ := h.sets.open'
  unfold maxLen at h12 h22
  have HB := Lib.hid hb
  have HL2 := Lib.hid hL2
  clear h h' hL1 hL2 hb
  by_cases h20 : 20 < L2
  · have e1 : (20 : Int) < (L2 : Int) := by omega
    go_enter Tryz.func35, Tryz.ntmps35
    go_wp2
    all_goals (go_ret; exact ⟨true, rfl, by simp, HB.out⟩)
  · have e1 : ¬ (20 : Int) < (L2 : Int) := by omega
    have HLL := Lib.hid (show x.sets.length ≤ 20 by have := HL2.out; omega)
    by_cases hn : 100 < x.name.size
    · have e0 : (100 : Int) < (x.name.size : Int) := by omega
      go_enter Tryz.func35, Tryz.ntmps35
      go_wp2
      go_ret
      exact ⟨true, rfl, by simp, HB.out⟩
    · have e0 : ¬ (100 : Int) < (x.name.size : Int) := by omega
      clear hn
      go_enter Tryz.func35, Tryz.ntmps35
      go_wp2_with fail
      refine (great03_any _ _ _ HX.out.spans).mono ?_
      rintro e w' ⟨b3, rfl, hb3, rfl⟩
      cases b3 with
      | true =>
        clear hb3
        go_wp2
        go_ret
        exact ⟨true, rfl, by simp, HB.out⟩
      | false =>
      have HSP := Lib.hid (hb3 rfl)
      clear hb3
      go_wp2
      go_loop [22] (fun i => ∃ k : Nat, k ≤ L2 ∧ i = .int .i64 k) (fun i => L2 - (RowKit.intOf i).toNat)
      case atStart => exact ⟨0, Nat.zero_le _, rfl⟩
      case round =>
        obtain ⟨k, hk, rfl⟩ := hrel
        by_cases hlt : k < L2
        · obtain ⟨b, off, rfl, hb, hs, hs2, hc, hc2⟩ := set_at HX.out.sets hlt
          go_wp2
          all_goals first
            | (go_ret; exact ⟨true, rfl, by simp, HB.out⟩)
            | (go_round
               case rel => exact ⟨k + 1, by omega, by go_num⟩
               case measure => simp [RowKit.intOf]; omega)
        · go_wp2
          go_ret
          exact ⟨false, rfl, fun _ => ⟨HSP.out, HLL.out⟩, HB.out⟩
theorem box_get {w1 w2 : World} {B : Nat} {cs : Array Value} {T : TypeId} (h : w1.heap[B]? = some (.cells cs T (0, 0))) (hb : Below w1.heap.size w1 w2) (j : Nat) {v : Value} (hv : cs[j]? = some v) : w2.cell? ⟨B, j, none⟩ = some v :=
  cells_get (heap_below h hb) j hv

end Go.Proofs.YtaahdhpljlkfjaaGreat.Rc

/- What the document's guard says of a package. -/
namespace Go.Proofs.YtaahdhpljlkfjaaGreat.Rc
open Go.RowKit

/-- What a package's guard says. -/
def PkgSmall (x : Pkg) : Prop := x.name.size ≤ 100 ∧ x.rels.length ≤ 30 ∧ x.vars.length ≤ 20 ∧ x.deps.length ≤ 40 ∧ x.cons.length ≤ 40 ∧ x.prov.length ≤ 50 ∧ x.files.length ≤ 50
set_option maxHeartbeats 3200000 in
set_option maxRecDepth 100000 in
theorem greatPackage_any (w : World) (v1 v2 v3 v4 v5 v6 : Value) (x : Pkg) (h : IsPkg w v1 v2 v3 v4 v5 v6 x) :
    Calls Tryz.prog 14 #[.agg #[.string x.name, .int .i64 x.line, v1, v2, v3, v4, v5, v6]] w (SomeG (fun b => b = false → PkgSmall x) w) := by
  obtain ⟨w0, hw0⟩ : ∃ w0, w0 = w.alloc (.cells #[.string x.name, .int .i64 x.line, v1, v2, v3, v4, v5, v6] 51) := ⟨_, rfl⟩
  have hb : Below w.heap.size w w0 := by rw [hw0]; exact below_alloc w _
  have hnew : w0.heap[w.heap.size]? = some (.cells #[.string x.name, .int .i64 x.line, v1, v2, v3, v4, v5, v6] 51 (0, 0)) := by rw [hw0]; exact heap_alloc_new w _
  have h' := h.below hb (Nat.le_refl _)
  have HX := Lib.hid h'
  have HW0 := Lib.hid hw0
  obtain ⟨A1, L1, c1, rfl, hL1, h11, h12⟩ := h.rels.open'
  obtain ⟨A2, L2, c2, rfl, hL2, h21, h22⟩ := h.vars.open'
  obtain ⟨A3, L3, c3, rfl, hL3, h31, h32⟩ := h.prov.open'
  obtain ⟨A4, L4, c4, rfl, hL4, h41, h42⟩ := h.deps.open'
  obtain ⟨A5, L5, c5, rfl, hL5, h51, h52⟩ := h.cons.open'
  obtain ⟨A6, L6, c6, rfl, hL6, h61, h62⟩ := h.files.open'
  unfold maxLen at h12 h22 h32 h42 h52 h62
  have HB := Lib.hid hb
  have HNEW := Lib.hid hnew
  have HLS := Lib.hid (show L1 = x.rels.length ∧ L2 = x.vars.length ∧ L4 = x.deps.length ∧ L5 = x.cons.length from ⟨hL1, hL2, hL4, hL5⟩)
  clear h h' hL1 hL2 hL3 hL4 hL5 hL6 hb hnew hw0
  by_cases hbig : 100 < x.name.size ∨ 30 < L1 ∨ 20 < L2 ∨ 40 < L4 ∨ 40 < L5
  · go_enter Tryz.func14, Tryz.ntmps14
    go_wp2_with fail
    all_goals first
      | (go_ret; exact ⟨true, rfl, by simp, by rw [← HW0.out]; exact HB.out⟩)
      | (exfalso; omega)
  · have e0 : ¬ (100 : Int) < (x.name.size : Int) := by omega
    have e1 : ¬ (30 : Int) < (L1 : Int) := by omega
    have e2 : ¬ (20 : Int) < (L2 : Int) := by omega
    have e4 : ¬ (40 : Int) < (L4 : Int) := by omega
    have e5 : ¬ (40 : Int) < (L5 : Int) := by omega
    have HSM := Lib.hid (show x.name.size ≤ 100 ∧ x.rels.length ≤ 30 ∧ x.vars.length ≤ 20 ∧ x.deps.length ≤ 40 ∧ x.cons.length ≤ 40 by
      obtain ⟨q1, q2, q3, q4⟩ := HLS.out
      rw [← q1, ← q2, ← q3, ← q4]; omega)
    clear hbig HLS
    go_enter Tryz.func14, Tryz.ntmps14
    go_wp2_with fail
    rw [← HW0.out]
    refine (greatTexts_any _ _ _ HX.out.prov).mono ?_
    rintro e w' ⟨b3, rfl, hb3, rfl⟩
    cases b3 with
    | true =>
      clear hb3
      go_wp2
      go_ret
      exact ⟨true, rfl, by simp, HB.out⟩
    | false =>
    have HPR := Lib.hid (hb3 rfl)
    have x1 := box_get HNEW.out (Below.refl _ _) 2 (v := .slice A1 L1 c1) rfl
    have x2 := box_get HNEW.out (Below.refl _ _) 3 (v := .slice A2 L2 c2) rfl
    have x4 := box_get HNEW.out (Below.refl _ _) 5 (v := .slice A4 L4 c4) rfl
    have x5 := box_get HNEW.out (Below.refl _ _) 6 (v := .slice A5 L5 c5) rfl
    have x6 := box_get HNEW.out (Below.refl _ _) 7 (v := .slice A6 L6 c6) rfl
    clear hb3
    go_wp2_with fail
    refine (greatTexts_any _ _ _ HX.out.files).mono ?_
    rintro e w' ⟨b3, rfl, hb3, rfl⟩
    cases b3 with
    | true =>
      clear hb3
      go_wp2
      go_ret
      exact ⟨true, rfl, by simp, HB.out⟩
    | false =>
    have HFI := Lib.hid (hb3 rfl)
    clear hb3
    go_wp2
    go_loop [48] (fun i => ∃ k : Nat, k ≤ L1 ∧ i = .int .i64 k) (fun i => L1 - (RowKit.intOf i).toNat)
    case atStart => exact ⟨0, Nat.zero_le _, rfl⟩
    case round =>
      obtain ⟨k, hk, rfl⟩ := hrel
      by_cases hlt : k < L1
      · obtain ⟨b, off, rfl, hb, hs, hc, hc2⟩ := rel_at HX.out.rels hlt
        go_wp2
        all_goals first
          | (go_ret; exact ⟨true, rfl, by simp, HB.out⟩)
          | (go_round
             case rel => exact ⟨k + 1, by omega, by go_num⟩
             case measure => simp [RowKit.intOf]; omega)
      · obtain rfl : k = L1 := by omega
        go_wp2
        go_loop [63] (fun i => ∃ k : Nat, k ≤ L2 ∧ i = .int .i64 k) (fun i => L2 - (RowKit.intOf i).toNat)
        case atStart => exact ⟨0, Nat.zero_le _, rfl⟩
        case round =>
          obtain ⟨k2, hk2, rfl⟩ := hrel
          by_cases hlt2 : k2 < L2
          · obtain ⟨b, off, u, rfl, hb, hs, hu, hc, hc2⟩ := var_at HX.out.vars hlt2
            have HU := Lib.hid hu
            obtain ⟨Au, Lu, cu, rfl⟩ := hu.sl
            clear hu
            by_cases hn : 100 < (nth x.vars k2).1.size
            · have n0 : (100 : Int) < ((nth x.vars k2).1.size : Int) := by omega
              go_wp2
              go_ret
              exact ⟨true, rfl, by simp, HB.out⟩
            · have n0 : ¬ (100 : Int) < ((nth x.vars k2).1.size : Int) := by omega
              go_wp2_with fail
              refine (greatTexts_any _ _ _ HU.out).mono ?_
              rintro e w' ⟨b3, rfl, _, rfl⟩
              cases b3 with
              | true =>
                go_wp2
                go_ret
                exact ⟨true, rfl, by simp, HB.out⟩
              | false =>
                go_wp2
                go_round
                case rel => exact ⟨k2 + 1, by omega, by go_num⟩
                case measure => simp [RowKit.intOf]; omega
          · obtain rfl : k2 = L2 := by omega
            go_wp2
            clear x1 x2
            go_loopw [87] (fun i wr => ∃ k : Nat, k ≤ L4 ∧ i = .int .i64 k ∧ Below w0.heap.size w0 wr) (fun i _ => L4 - (RowKit.intOf i).toNat)
            case atStart => exact ⟨0, Nat.zero_le _, rfl, Below.refl _ _⟩
            case round =>
              obtain ⟨k4, hk4, rfl, hbw⟩ := hrel
              have HBW := Lib.hid hbw
              clear x4 x5
              by_cases hlt4 : k4 < L4
              · obtain ⟨b, off, u1, u2, u3, u4, rfl, hb, hsa, hsb, hw, d0, d1, d2, d3, d4, d5, d6⟩ := two_at (HX.out.deps.below hbw (Nat.le_refl _)) hlt4
                have HSA := Lib.hid hsa
                have HSB := Lib.hid hsb
                have x4 := box_get HNEW.out hbw 5 (v := .slice (some ⟨b, off, none⟩) L4 c4) rfl
                clear hsa hsb hbw d6
                go_wp2_with fail
                refine (greatSpec_any _ _ _ _ HSA.out).mono ?_
                rintro e w2 ⟨b3, rfl, _, hb2⟩
                have HB2 := Lib.hid (HBW.out.trans (hb2.mono HBW.out.size))
                cases b3 with
                | true =>
                  clear hb2
                  go_wp2
                  go_ret
                  exact ⟨true, rfl, by simp, HB.out.trans (HB2.out.mono HB.out.size)⟩
                | false =>
                  have x4' := box_get HNEW.out HB2.out 5 (v := .slice (some ⟨b, off, none⟩) L4 c4) rfl
                  have d3' := (hb2.cell (p := ⟨b, off + k4 * 7 + 3, none⟩) hb).trans d3
                  have d4' := (hb2.cell (p := ⟨b, off + k4 * 7 + 4, none⟩) hb).trans d4
                  have d5' := (hb2.cell (p := ⟨b, off + k4 * 7 + 5, none⟩) hb).trans d5
                  have HSB2 := Lib.hid (HSB.out.below hb2 (Nat.le_refl _))
                  clear hb2 d0 d1 d2 d3 d4 d5 x4
                  go_wp2_with fail
                  refine (greatSpec_any _ _ _ _ HSB2.out).mono ?_
                  rintro e w3 ⟨b3, rfl, _, hb3⟩
                  have HB3 := Lib.hid (HB2.out.trans (hb3.mono HB2.out.size))
                  clear hb3
                  cases b3 with
                  | true =>
                    go_wp2
                    go_ret
                    exact ⟨true, rfl, by simp, HB.out.trans (HB3.out.mono HB.out.size)⟩
                  | false =>
                    go_wp2
                    go_roundw
                    case rel => exact ⟨k4 + 1, by omega, by go_num, HB3.out⟩
                    case measure => simp [RowKit.intOf]; omega
              · obtain rfl : k4 = L4 := by omega
                have x5 := box_get HNEW.out hbw 6 (v := .slice A5 L5 c5) rfl
                clear hbw
                go_wp2
                clear x5
                go_loopw [110] (fun i wr => ∃ k : Nat, k ≤ L5 ∧ i = .int .i64 k ∧ Below w0.heap.size w0 wr) (fun i _ => L5 - (RowKit.intOf i).toNat)
                case atStart => exact ⟨0, Nat.zero_le _, rfl, HBW.out⟩
                case round =>
                  clear HBW
                  obtain ⟨k5, hk5, rfl, hbw⟩ := hrel
                  have HBW := Lib.hid hbw
                  by_cases hlt5 : k5 < L5
                  · obtain ⟨b, off, u1, u2, u3, u4, rfl, hb, hsa, hsb, hw, d0, d1, d2, d3, d4, d5, d6⟩ := two_at (HX.out.cons.below hbw (Nat.le_refl _)) hlt5
                    have HSA := Lib.hid hsa
                    have HSB := Lib.hid hsb
                    have x5 := box_get HNEW.out hbw 6 (v := .slice (some ⟨b, off, none⟩) L5 c5) rfl
                    clear hsa hsb hbw d6
                    go_wp2_with fail
                    refine (greatSpec_any _ _ _ _ HSA.out).mono ?_
                    rintro e w2 ⟨b3, rfl, _, hb2⟩
                    have HB2 := Lib.hid (HBW.out.trans (hb2.mono HBW.out.size))
                    cases b3 with
                    | true =>
                      clear hb2
                      go_wp2
                      go_ret
                      exact ⟨true, rfl, by simp, HB.out.trans (HB2.out.mono HB.out.size)⟩
                    | false =>
                      have x5' := box_get HNEW.out HB2.out 6 (v := .slice (some ⟨b, off, none⟩) L5 c5) rfl
                      have d3' := (hb2.cell (p := ⟨b, off + k5 * 7 + 3, none⟩) hb).trans d3
                      have d4' := (hb2.cell (p := ⟨b, off + k5 * 7 + 4, none⟩) hb).trans d4
                      have d5' := (hb2.cell (p := ⟨b, off + k5 * 7 + 5, none⟩) hb).trans d5
                      have HSB2 := Lib.hid (HSB.out.below hb2 (Nat.le_refl _))
                      clear hb2 d0 d1 d2 d3 d4 d5 x5
                      go_wp2_with fail
                      refine (greatSpec_any _ _ _ _ HSB2.out).mono ?_
                      rintro e w3 ⟨b3, rfl, _, hb3⟩
                      have HB3 := Lib.hid (HB2.out.trans (hb3.mono HB2.out.size))
                      clear hb3
                      cases b3 with
                      | true =>
                        go_wp2
                        go_ret
                        exact ⟨true, rfl, by simp, HB.out.trans (HB3.out.mono HB.out.size)⟩
                      | false =>
                        go_wp2
                        go_roundw
                        case rel => exact ⟨k5 + 1, by omega, by go_num, HB3.out⟩
                        case measure => simp [RowKit.intOf]; omega
                  · obtain rfl : k5 = L5 := by omega
                    clear hbw
                    go_wp2
                    go_ret
                    exact ⟨false, rfl, fun _ => ⟨HSM.out.1, HSM.out.2.1, HSM.out.2.2.1, HSM.out.2.2.2.1, HSM.out.2.2.2.2, HPR.out, HFI.out⟩, HB.out.trans (HBW.out.mono HB.out.size)⟩
end Go.Proofs.YtaahdhpljlkfjaaGreat.Rc

/- What the document's guard says of a recipe. -/
namespace Go.Proofs.YtaahdhpljlkfjaaGreat.Rc
open Go.RowKit

structure RecSmall (x : Rec) : Prop where
  pkgs : x.pkgs.length ≤ 30
  prefs : x.prefs.length ≤ 20
  each : ∀ p ∈ x.pkgs, PkgSmall p

theorem all_to {α : Type} [Inhabited α] {l : List α} {Q : α → Prop} (h : ∀ j, j < l.length → Q (nth l j)) : ∀ p ∈ l, Q p := by
  intro p hp
  obtain ⟨i, hi, rfl⟩ := List.mem_iff_getElem.1 hp
  rw [← nth_lt hi]; exact h i hi

set_option maxHeartbeats 3200000 in
set_option maxRecDepth 100000 in
theorem great07_any (w : World) (v1 v2 : Value) (x : Rec) (h : IsRec w v1 v2 x) :
    Calls Tryz.prog 5 #[.agg #[v1, v2]] w (SomeG (fun b => b = false → RecSmall x) w) := by
  have HI := Lib.hid (InBox.new h)
  obtain ⟨A1, L1, c1, A2, L2, c2, rfl, rfl, hL1, hL2, hc1, hm1, hc2, hm2⟩ := rec_box h
  have HL1 := Lib.hid hL1
  have HL2 := Lib.hid hL2
  clear hL1 hL2 h
  by_cases hbig : 30 < L1 ∨ 20 < L2
  · go_enter Tryz.func5, Tryz.ntmps5
    go_wp2_with fail
    all_goals first
      | (go_ret; exact ⟨true, rfl, by simp, HI.out.bel⟩)
      | (exfalso; omega)
  · have e0 : ¬ (30 : Int) < (L1 : Int) := by omega
    have e1 : ¬ (20 : Int) < (L2 : Int) := by omega
    have HSM := Lib.hid (show x.pkgs.length ≤ 30 ∧ x.prefs.length ≤ 20 by rw [← HL1.out, ← HL2.out]; omega)
    clear hbig
    go_enter Tryz.func5, Tryz.ntmps5
    go_wp2
    go_loopw [18] (fun i wr => ∃ k : Nat, k ≤ L1 ∧ i = .int .i64 k ∧ Hid (∀ j, j < k → PkgSmall (nth x.pkgs j)) ∧ InBox w wr (.slice A1 L1 c1) (.slice A2 L2 c2) w.heap.size x) (fun i _ => L1 - (RowKit.intOf i).toNat)
    case atStart => exact ⟨0, Nat.zero_le _, rfl, Lib.hid (fun j hj => by omega), HI.out⟩
    case round =>
      clear HI
      obtain ⟨k, hk, rfl, hall, hi⟩ := hrel
      have HI := Lib.hid hi
      have x0 := hi.c0
      have x1 := hi.c1
      by_cases hlt : k < L1
      · obtain ⟨b, off, v1, v2, v3, v4, v5, v6, rfl, hb, hp, d0, d1, d2, d3, d4, d5, d6, d7⟩ := pkg_at hi.isr.pkgs hlt
        have HP := Lib.hid hp
        clear hp hi
        go_wp2_with fail
        refine (greatPackage_any _ _ _ _ _ _ _ _ HP.out).mono ?_
        rintro e w2 ⟨b3, rfl, hb3, hb2⟩
        have HI2 := Lib.hid (HI.out.step hb2)
        clear hb2
        cases b3 with
        | true =>
          clear hb3
          go_wp2
          go_ret
          exact ⟨true, rfl, by simp, HI2.out.bel⟩
        | false =>
          have hn : Hid (∀ j, j < k + 1 → PkgSmall (nth x.pkgs j)) := Lib.hid (fun j hj => by
            by_cases e : j = k
            · rw [e]; exact hb3 rfl
            · exact hall.out j (by omega))
          clear hb3
          go_wp2
          go_roundw
          case rel => exact ⟨k + 1, by omega, by go_num, hn, HI2.out⟩
          case measure => simp [RowKit.intOf]; omega
      · obtain rfl : k = L1 := by omega
        have HALL := Lib.hid (show ∀ p ∈ x.pkgs, PkgSmall p from all_to (fun j hj => hall.out j (by rw [HL1.out]; exact hj)))
        clear hi
        go_wp2
        go_loop [31] (fun i => ∃ k : Nat, k ≤ L2 ∧ i = .int .i64 k) (fun i => L2 - (RowKit.intOf i).toNat)
        case atStart => exact ⟨0, Nat.zero_le _, rfl⟩
        case round =>
          obtain ⟨k2, hk2, rfl⟩ := hrel
          by_cases hlt2 : k2 < L2
          · obtain ⟨b, off, v1, rfl, hb, hs, hr, hw, d0, d1, d2⟩ := pref_at HI.out.isr.prefs hlt2
            have HR := Lib.hid hr
            obtain ⟨Ar, Lr, cr, rfl⟩ := hr.sl
            clear hr hw
            by_cases hn : 100 < (nth x.prefs k2).virt.size
            · have n0 : (100 : Int) < ((nth x.prefs k2).virt.size : Int) := by omega
              go_wp2
              go_ret
              exact ⟨true, rfl, by simp, HI.out.bel⟩
            · have n0 : ¬ (100 : Int) < ((nth x.prefs k2).virt.size : Int) := by omega
              go_wp2_with fail
              refine (greatTexts_any _ _ _ HR.out).mono ?_
              rintro e w' ⟨b3, rfl, hb3, rfl⟩
              clear hb3
              cases b3 with
              | true =>
                go_wp2
                go_ret
                exact ⟨true, rfl, by simp, HI.out.bel⟩
              | false =>
                go_wp2
                go_round
                case rel => exact ⟨k2 + 1, by omega, by go_num⟩
                case measure => simp [RowKit.intOf]; omega
          · go_wp2
            go_ret
            exact ⟨false, rfl, fun _ => ⟨HSM.out.1, HSM.out.2, HALL.out⟩, HI.out.bel⟩
end Go.Proofs.YtaahdhpljlkfjaaGreat.Rc
