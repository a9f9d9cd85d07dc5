/- The document's word on a recipe. -/
import Derived.Test.YtaahdhpljlkfjaaGreatZg52
import Derived.Test.YtaahdhpljlkfjaaGreatZg49
import Derived.Deep.RegionHeld3
namespace Go.Proofs.YtaahdhpljlkfjaaGreat.Rc
open Go.RowKit Go.Sort

theorem refRules_is (w : World) (v1 v2 u1 u2 u3 u4 u5 u6 : Value) (x : Rec) (p : Pkg) (h : IsRec w v1 v2 x) (hp : IsPkg w u1 u2 u3 u4 u5 u6 p) (hl : x.pkgs.length ≤ 1000) (r : Int × Int) (hr : ruleProb x p = r) :
    Calls Tryz.prog 37 #[.agg #[v1, v2], .agg #[.string p.name, .int .i64 p.line, u1, u2, u3, u4, u5, u6]] w fun e w' => e = .returned (.agg #[.int .u8 r.1, .int .i64 r.2]) ∧ Below w.heap.size w w' := by subst hr; exact refRules_any w v1 v2 u1 u2 u3 u4 u5 u6 x p h hp hl

theorem set2_other {w : World} {B C j : Nat} {v : Value} (hne : C ≠ B) (x y : Value) (h : w.cell? ⟨C, j, none⟩ = some v) : ((w.setCell ⟨B, 0, none⟩ x).setCell ⟨B, 1, none⟩ y).cell? ⟨C, j, none⟩ = some v := by
  rw [World.cell?_setCell_other _ _ _ _ (fun e => hne (by injection e with e1 _; exact e1.symm)), World.cell?_setCell_other _ _ _ _ (fun e => hne (by injection e with e1 _; exact e1.symm))]; exact h

theorem set2_same {w : World} {B : Nat} {a b : Value} (h0 : w.cell? ⟨B, 0, none⟩ = some a) (h1 : w.cell? ⟨B, 1, none⟩ = some b) (x y : Value) :
    ((w.setCell ⟨B, 0, none⟩ x).setCell ⟨B, 1, none⟩ y).cell? ⟨B, 0, none⟩ = some x ∧ ((w.setCell ⟨B, 0, none⟩ x).setCell ⟨B, 1, none⟩ y).cell? ⟨B, 1, none⟩ = some y := by
  refine ⟨?_, ?_⟩
  · rw [World.cell?_setCell_other _ _ _ _ (fun e => by injection e with _ e2 _; omega)]
    exact World.cell?_setCell_same' _ _ _ (by rw [h0]; rfl)
  · refine World.cell?_setCell_same' _ _ _ ?_
    rw [World.cell?_setCell_other _ _ _ _ (fun e => by injection e with _ e2 _; omega), h1]; rfl
theorem Bxs.set2 {w0 w1 : World} {l : List (Array Value × TypeId)} {B : Nat} (h : Bxs w0 w1 l) (hB : w0.heap.size + l.length ≤ B) (x y : Value) : Bxs w0 ((w1.setCell ⟨B, 0, none⟩ x).setCell ⟨B, 1, none⟩ y) l :=
  ⟨((h.bel.setCell (by show w0.heap.size ≤ B; omega) _).setCell (by show w0.heap.size ≤ B; omega) _), fun j cs T hj => by
    have hjl := (List.getElem?_eq_some_iff.1 hj).1
    exact heap_set_far (heap_set_far (h.blk j cs T hj) (by omega)) (by omega)⟩

set_option maxRecDepth 100000 in
set_option maxHeartbeats 6400000 in
theorem refRecipe_any (w : World) (v1 v2 : Value) (x : Rec) (h : IsRec w v1 v2 x) (hl : x.pkgs.length ≤ 1000) :
    Calls Tryz.prog 18 #[.agg #[v1, v2]] w (GivesP (recProb x) w) := by
  obtain ⟨A1, L1, c1, A2, L2, c2, rfl, rfl, hL1, hL2, hc1, hm1, hc2, hm2⟩ := rec_box h
  have HX := Lib.hid (Bxs.two w #[.slice A1 L1 c1, .slice A2 L2 c2] 25 #[.int .u8 0, .int .i64 0] 66)
  have HR := Lib.hid h
  have HL1 := Lib.hid hL1
  have HL2 := Lib.hid hL2
  have HL := Lib.hid hl
  obtain ⟨rr, hrr⟩ : ∃ r, recProb x = r := ⟨_, rfl⟩
  rw [hrr]
  have HRR := Lib.hid hrr
  clear h hL1 hL2 hrr hl
  by_cases hm : 24 < L1
  · have hx := HX.out
    obtain ⟨b, off, e1, e2, e3, e4, e5, e6, rfl, hb, hp, p0, p1, p2, p3, p4, p5, p6, p7⟩ := pkg_at (HR.out.pkgs.below hx.bel (Nat.le_refl _)) hm
    have HE := Lib.hid (show rr = (1, (nth x.pkgs 24).line) by rw [← HRR.out]; exact recProb_many (by rw [← HL1.out]; exact hm))
    have k0 : (24 : Int) < (L1 : Int) := by omega
    have z0 := HX.out.get 1 0 (v := .int .u8 0) rfl rfl
    have z1 := HX.out.get 1 1 (v := .int .i64 0) rfl rfl
    have g0 := HX.out.free 1 0 rfl
    have g1 := HX.out.free 1 1 rfl
    clear hx hp p0 p2 p3 p4 p5 p6 p7
    go_enter Tryz.func18, Tryz.ntmps18
    go_wp2
    refine bodyPost_ret (v := .agg #[.int .u8 1, .int .i64 (nth x.pkgs 24).line]) (by simp [results, Tryz.results18, go_sem]) rfl ⟨agg_ret HE.out, (below_alloc' w _).alloc (by simp) _⟩
  · by_cases hm2 : 8 < L2
    · have hx := HX.out
      obtain ⟨b, off, u, rfl, hbl, hs, hr, hw, p0, p1, p2⟩ := pref_at (HR.out.prefs.below hx.bel (Nat.le_refl _)) hm2
      have HE := Lib.hid (show rr = (1, (nth x.prefs 8).line) by rw [← HRR.out]; exact recProb_prefs (by rw [← HL1.out]; exact hm) (by rw [← HL2.out]; exact hm2))
      have k0 : ¬ (24 : Int) < (L1 : Int) := by omega
      have k1 : (8 : Int) < (L2 : Int) := by omega
      have z0 := HX.out.get 1 0 (v := .int .u8 0) rfl rfl
      have z1 := HX.out.get 1 1 (v := .int .i64 0) rfl rfl
      have g0 := HX.out.free 1 0 rfl
      have g1 := HX.out.free 1 1 rfl
      clear hx hs hr hw p0 p1
      go_enter Tryz.func18, Tryz.ntmps18
      go_wp2
      refine bodyPost_ret (v := .agg #[.int .u8 1, .int .i64 (nth x.prefs 8).line]) (by simp [results, Tryz.results18, go_sem]) rfl ⟨agg_ret HE.out, (below_alloc' w _).alloc (by simp) _⟩
    · have k0 : ¬ (24 : Int) < (L1 : Int) := by omega
      have k1 : ¬ (8 : Int) < (L2 : Int) := by omega
      have HR1 := Lib.hid (show rr = recProb1 x by rw [← HRR.out]; exact recProb_one (by rw [← HL1.out]; exact hm) (by rw [← HL2.out]; exact hm2))
      clear HRR
      go_enter Tryz.func18, Tryz.ntmps18
      go_wp2
      go_loopw [31] (fun i wr => ∃ k : Nat, k ≤ L1 ∧ i = .int .i64 k ∧ Hid (∀ j, j < k → pkgCode x j = 0) ∧ Bxs w wr [(#[.slice A1 L1 c1, .slice A2 L2 c2], 25), (#[.int .u8 0, .int .i64 0], 66)]) (fun i _ => L1 - (intOf i).toNat)
      case atStart => exact ⟨0, Nat.zero_le _, rfl, Lib.hid (fun j hj => by omega), HX.out⟩
      case round =>
        clear HX
        obtain ⟨k, hk, rfl, hall, hx⟩ := hrel
        have HX := Lib.hid hx
        by_cases hlt : k < L1
        · have hkl : k < x.pkgs.length := by rw [← HL1.out]; exact hlt
          have HKL := Lib.hid hkl
          have x0 := hx.get0 0 (v := .slice A1 L1 c1) rfl rfl
          have x1 := hx.get0 1 (v := .slice A2 L2 c2) rfl rfl
          obtain ⟨c, hc⟩ : ∃ c, pkgCode x k = c := ⟨_, rfl⟩
          have HC := Lib.hid hc
          clear hx hkl hc
          go_wp2_with fail
          refine (refAlone_is _ _ _ x k (HR.out.below HX.out.bel (Nat.le_refl _)) HKL.out HL.out c HC.out).mono ?_
          rintro e w2 ⟨rfl, hb2⟩
          have HX2 := Lib.hid (HX.out.step hb2)
          clear hb2 x0 x1
          by_cases hc0 : c = 0
          · subst hc0
            have hn : Hid (∀ j, j < k + 1 → pkgCode x j = 0) := Lib.hid (fun j hj => by
              by_cases e : j = k
              · rw [e]; exact HC.out
              · exact hall.out j (by omega))
            go_wp2
            go_roundw
            case rel => exact ⟨k + 1, by omega, by go_num, hn, HX2.out⟩
            case measure => simp [intOf]; omega
          · obtain ⟨f1, f2⟩ := int_ne hc0
            obtain ⟨b, off, e1, e2, e3, e4, e5, e6, rfl, hb, hp, p0, p1, p2, p3, p4, p5, p6, p7⟩ := pkg_at (HR.out.pkgs.below HX2.out.bel (Nat.le_refl _)) hlt
            have HE := Lib.hid (show rr = (c, (nth x.pkgs k).line) by rw [HR1.out]; exact recProb1_hit HKL.out hall.out HC.out hc0)
            have x0 := HX2.out.get0 0 (v := .slice (some ⟨b, off, none⟩) L1 c1) rfl rfl
            clear hc0 hp p0 p2 p3 p4 p5 p6 p7
            have z0 := HX2.out.get 1 0 (v := .int .u8 0) rfl rfl
            have z1 := HX2.out.get 1 1 (v := .int .i64 0) rfl rfl
            have g0 := HX2.out.free 1 0 rfl
            have g1 := HX2.out.free 1 1 rfl
            go_wp2
            refine bodyPost_ret (v := .agg #[.int .u8 c, .int .i64 (nth x.pkgs k).line]) (by simp [results, Tryz.results18, go_sem, World.cell?_setCell_same', z0, z1]) rfl ⟨agg_ret HE.out, ((HX2.out.bel.setCell (by show w.heap.size ≤ w.heap.size + 1; omega) _).setCell (by show w.heap.size ≤ w.heap.size + 1; omega) _)⟩
        · obtain rfl : L1 = k := by omega
          have HR2 := Lib.hid (show rr = recProb2 x by rw [HR1.out]; exact recProb1_no (fun j hj => hall.out j (by rw [HL1.out]; exact hj)))
          have x0 := hx.get0 0 (v := .slice A1 L1 c1) rfl rfl
          clear hx
          go_wp2
          clear x0
          go_loopw [51] (fun i wr => ∃ k : Nat, k ≤ L1 ∧ i = .int .i64 k ∧ Hid (∀ j, j < k → (ruleProb x (nth x.pkgs j)).1 = 0) ∧ Bxs w wr [(#[.slice A1 L1 c1, .slice A2 L2 c2], 25), (#[.int .u8 0, .int .i64 0], 66)]) (fun i _ => L1 - (intOf i).toNat)
          case atStart => exact ⟨0, Nat.zero_le _, rfl, Lib.hid (fun j hj => by omega), HX.out⟩
          case round =>
            clear HX hall
            obtain ⟨k, hk, rfl, hall, hx⟩ := hrel
            have HX := Lib.hid hx
            by_cases hlt : k < L1
            · obtain ⟨b, off, e1, e2, e3, e4, e5, e6, rfl, hb, hp, p0, p1, p2, p3, p4, p5, p6, p7⟩ := pkg_at (HR.out.pkgs.below hx.bel (Nat.le_refl _)) hlt
              have hkl : k < x.pkgs.length := by rw [← HL1.out]; exact hlt
              generalize hpp : nth x.pkgs k = p at hp p0 p1 p2 p3 p4 p5 p6 p7
              have HPP := Lib.hid hpp
              have HKL := Lib.hid hkl
              obtain ⟨⟨a1, n1, k1, rfl⟩, ⟨a2, n2, k2, rfl⟩, ⟨a3, n3, k3, rfl⟩, ⟨a4, n4, k4, rfl⟩, ⟨a5, n5, k5, rfl⟩, ⟨a6, n6, k6, rfl⟩⟩ := hp.sls
              obtain ⟨r, hr⟩ : ∃ r, ruleProb x p = r := ⟨_, rfl⟩
              have HC := Lib.hid hr
              have HP := Lib.hid hp
              have x0 := hx.get0 0 (v := .slice (some ⟨b, off, none⟩) L1 c1) rfl rfl
              have x1 := hx.get0 1 (v := .slice A2 L2 c2) rfl rfl
              have q0 : (0 : Int) ≤ (k : Int) := by omega
              have q1 : (k : Int) < (L1 : Int) := by omega
              have hx' := hx.drewN 1
              have HCC := Lib.hid (refRules_is wr.drew _ _ _ _ _ _ _ _ x p (HR.out.below hx'.bel (Nat.le_refl _)) (hp.below (below_draws (Below.refl wr.heap.size wr) 1) (Nat.le_refl _)) HL.out r hr)
              have HX' := Lib.hid hx'
              have hxa := (hx.alloc (.cells #[.int .u8 0, .int .i64 0] 66)).drewN 1
              have HCA := Lib.hid (refRules_is (wr.alloc (.cells #[.int .u8 0, .int .i64 0] 66)).drew _ _ _ _ _ _ _ _ x p (HR.out.below hxa.bel (Nat.le_refl _)) (hp.below (below_draws (below_alloc' wr (.cells #[.int .u8 0, .int .i64 0] 66)) 1) (Nat.le_refl _)) HL.out r hr)
              have HXA := Lib.hid hxa
              have HNB := Lib.hid (show (wr.alloc (.cells #[.int .u8 0, .int .i64 0] 66)).drew.heap[wr.heap.size]? = some (.cells #[.int .u8 0, .int .i64 0] 66 (0, 0)) from heap_alloc_new wr _)
              have hlw : w.heap.size < wr.heap.size := lt_of_heap (hx.blk 0 _ _ rfl)
              have hlw1 : w.heap.size + 1 < wr.heap.size := lt_of_heap (hx.blk 1 _ _ rfl)
              have P0 := Lib.hid x0
              have P1 := Lib.hid x1
              have P2 := Lib.hid p0
              have P3 := Lib.hid p1
              have P4 := Lib.hid p2
              have P5 := Lib.hid p3
              have P6 := Lib.hid p4
              have P7 := Lib.hid p5
              have P8 := Lib.hid p6
              have P9 := Lib.hid p7
              clear hx hx' hxa hpp hkl hp hr
              go_wp2_with fail
              go_region_held3 (fun w' => w'.cell? ⟨w.heap.size, 0, none⟩ = some (.slice (some ⟨b, off, none⟩) L1 c1) ∧ w'.cell? ⟨w.heap.size, 1, none⟩ = some (.slice A2 L2 c2) ∧ w'.cell? ⟨b, off + k * 8, none⟩ = some (.string p.name) ∧ w'.cell? ⟨b, off + k * 8 + 1, none⟩ = some (.int .i64 p.line) ∧ w'.cell? ⟨b, off + k * 8 + 2, none⟩ = some (.slice a1 n1 k1) ∧ w'.cell? ⟨b, off + k * 8 + 3, none⟩ = some (.slice a2 n2 k2) ∧ w'.cell? ⟨b, off + k * 8 + 4, none⟩ = some (.slice a3 n3 k3) ∧ w'.cell? ⟨b, off + k * 8 + 5, none⟩ = some (.slice a4 n4 k4) ∧ w'.cell? ⟨b, off + k * 8 + 6, none⟩ = some (.slice a5 n5 k5) ∧ w'.cell? ⟨b, off + k * 8 + 7, none⟩ = some (.slice a6 n6 k6)) (go_keep) ((go_at_call 37; (first | (refine HCC.out.mono ?_; rintro e w2 ⟨rfl, hb2⟩; have HX2 := Lib.hid (HX'.out.step hb2); have o0 := (hb2.cell (p := ⟨w.heap.size, 0, none⟩) hlw).trans P0.out; have o1 := (hb2.cell (p := ⟨w.heap.size, 1, none⟩) hlw).trans P1.out; have o2 := (hb2.cell (p := ⟨b, off + k * 8, none⟩) hb).trans P2.out; have o3 := (hb2.cell (p := ⟨b, off + k * 8 + 1, none⟩) hb).trans P3.out; have o4 := (hb2.cell (p := ⟨b, off + k * 8 + 2, none⟩) hb).trans P4.out; have o5 := (hb2.cell (p := ⟨b, off + k * 8 + 3, none⟩) hb).trans P5.out; have o6 := (hb2.cell (p := ⟨b, off + k * 8 + 4, none⟩) hb).trans P6.out; have o7 := (hb2.cell (p := ⟨b, off + k * 8 + 5, none⟩) hb).trans P7.out; have o8 := (hb2.cell (p := ⟨b, off + k * 8 + 6, none⟩) hb).trans P8.out; have o9 := (hb2.cell (p := ⟨b, off + k * 8 + 7, none⟩) hb).trans P9.out; clear hb2) | (refine HCA.out.mono ?_; rintro e w2 ⟨rfl, hb2⟩; have HX2 := Lib.hid (HXA.out.step hb2); have hnb := heap_below HNB.out hb2; have n0 := cells_get hnb 0 (v := .int .u8 0) rfl; have n1 := cells_get hnb 1 (v := .int .i64 0) rfl; have m0 := cells_free hnb 0; have m1 := cells_free hnb 1; have o0 := (hb2.cell (p := ⟨w.heap.size, 0, none⟩) (by simp; omega)).trans (cell_alloc_l _ P0.out); have o1 := (hb2.cell (p := ⟨w.heap.size, 1, none⟩) (by simp; omega)).trans (cell_alloc_l _ P1.out); have o2 := (hb2.cell (p := ⟨b, off + k * 8, none⟩) (by simp; omega)).trans (cell_alloc_l _ P2.out); have o3 := (hb2.cell (p := ⟨b, off + k * 8 + 1, none⟩) (by simp; omega)).trans (cell_alloc_l _ P3.out); have o4 := (hb2.cell (p := ⟨b, off + k * 8 + 2, none⟩) (by simp; omega)).trans (cell_alloc_l _ P4.out); have o5 := (hb2.cell (p := ⟨b, off + k * 8 + 3, none⟩) (by simp; omega)).trans (cell_alloc_l _ P5.out); have o6 := (hb2.cell (p := ⟨b, off + k * 8 + 4, none⟩) (by simp; omega)).trans (cell_alloc_l _ P6.out); have o7 := (hb2.cell (p := ⟨b, off + k * 8 + 5, none⟩) (by simp; omega)).trans (cell_alloc_l _ P7.out); have o8 := (hb2.cell (p := ⟨b, off + k * 8 + 6, none⟩) (by simp; omega)).trans (cell_alloc_l _ P8.out); have o9 := (hb2.cell (p := ⟨b, off + k * 8 + 7, none⟩) (by simp; omega)).trans (cell_alloc_l _ P9.out); have v0 := set2_other (B := wr.heap.size) (show w.heap.size ≠ wr.heap.size by omega) (.int .u8 r.1) (.int .i64 r.2) o0; have v1 := set2_other (B := wr.heap.size) (show w.heap.size ≠ wr.heap.size by omega) (.int .u8 r.1) (.int .i64 r.2) o1; have v2 := set2_other (B := wr.heap.size) (show b ≠ wr.heap.size by omega) (.int .u8 r.1) (.int .i64 r.2) o2; have v3 := set2_other (B := wr.heap.size) (show b ≠ wr.heap.size by omega) (.int .u8 r.1) (.int .i64 r.2) o3; have v4 := set2_other (B := wr.heap.size) (show b ≠ wr.heap.size by omega) (.int .u8 r.1) (.int .i64 r.2) o4; have v5 := set2_other (B := wr.heap.size) (show b ≠ wr.heap.size by omega) (.int .u8 r.1) (.int .i64 r.2) o5; have v6 := set2_other (B := wr.heap.size) (show b ≠ wr.heap.size by omega) (.int .u8 r.1) (.int .i64 r.2) o6; have v7 := set2_other (B := wr.heap.size) (show b ≠ wr.heap.size by omega) (.int .u8 r.1) (.int .i64 r.2) o7; have v8 := set2_other (B := wr.heap.size) (show b ≠ wr.heap.size by omega) (.int .u8 r.1) (.int .i64 r.2) o8; have v9 := set2_other (B := wr.heap.size) (show b ≠ wr.heap.size by omega) (.int .u8 r.1) (.int .i64 r.2) o9; clear hb2))))
              · have hbr := Boxed.new w2 #[.int .u8 r.1, .int .i64 r.2] 66
                have t0 := hbr.get 0 (v := .int .u8 r.1) rfl
                have t1 := hbr.get 1 (v := .int .i64 r.2) rfl
                have HXF := Lib.hid (HX2.out.step hbr.bel)
                clear hbr
                generalize w2.alloc (.cells #[.int .u8 r.1, .int .i64 r.2] 66) = wf at *
                by_cases hc0 : r.1 = 0
                · have hn : Hid (∀ j, j < k + 1 → (ruleProb x (nth x.pkgs j)).1 = 0) := Lib.hid (fun j hj => by
                    by_cases e : j = k
                    · rw [e, HPP.out, HC.out]; exact hc0
                    · exact hall.out j (by omega))
                  rw [hc0] at t0
                  clear hc0
                  go_wp2
                  go_roundw
                  case rel => exact ⟨k + 1, by omega, by go_num, hn, HXF.out⟩
                  case measure => simp [intOf]; omega
                · obtain ⟨f1, f2⟩ := int_ne hc0
                  have HE := Lib.hid (show rr = (r.1, r.2) by rw [HR2.out]; exact recProb2_hit HKL.out hall.out (by rw [HPP.out]; exact HC.out) hc0)
                  clear hc0
                  have z0 := HXF.out.get 1 0 (v := .int .u8 0) rfl rfl
                  have z1 := HXF.out.get 1 1 (v := .int .i64 0) rfl rfl
                  have g0 := HXF.out.free 1 0 rfl
                  have g1 := HXF.out.free 1 1 rfl
                  go_wp2
                  refine bodyPost_ret (v := .agg #[.int .u8 r.1, .int .i64 r.2]) (by simp [results, Tryz.results18, go_sem, World.cell?_setCell_same', z0, z1]) rfl ⟨agg_ret HE.out, ((HXF.out.bel.setCell (by show w.heap.size ≤ w.heap.size + 1; omega) _).setCell (by show w.heap.size ≤ w.heap.size + 1; omega) _)⟩
              · obtain ⟨t0, t1⟩ := set2_same n0 n1 (.int .u8 r.1) (.int .i64 r.2)
                have HXF := Lib.hid (HX2.out.set2 (B := wr.heap.size) (show w.heap.size + 2 ≤ wr.heap.size by omega) (.int .u8 r.1) (.int .i64 r.2))
                generalize ((w2.setCell ⟨wr.heap.size, 0, none⟩ (.int .u8 r.1)).setCell ⟨wr.heap.size, 1, none⟩ (.int .i64 r.2)) = wf at *
                by_cases hc0 : r.1 = 0
                · have hn : Hid (∀ j, j < k + 1 → (ruleProb x (nth x.pkgs j)).1 = 0) := Lib.hid (fun j hj => by
                    by_cases e : j = k
                    · rw [e, HPP.out, HC.out]; exact hc0
                    · exact hall.out j (by omega))
                  rw [hc0] at t0
                  clear hc0
                  go_wp2
                  go_roundw
                  case rel => exact ⟨k + 1, by omega, by go_num, hn, HXF.out⟩
                  case measure => simp [intOf]; omega
                · obtain ⟨f1, f2⟩ := int_ne hc0
                  have HE := Lib.hid (show rr = (r.1, r.2) by rw [HR2.out]; exact recProb2_hit HKL.out hall.out (by rw [HPP.out]; exact HC.out) hc0)
                  clear hc0
                  have z0 := HXF.out.get 1 0 (v := .int .u8 0) rfl rfl
                  have z1 := HXF.out.get 1 1 (v := .int .i64 0) rfl rfl
                  have g0 := HXF.out.free 1 0 rfl
                  have g1 := HXF.out.free 1 1 rfl
                  go_wp2
                  refine bodyPost_ret (v := .agg #[.int .u8 r.1, .int .i64 r.2]) (by simp [results, Tryz.results18, go_sem, World.cell?_setCell_same', z0, z1]) rfl ⟨agg_ret HE.out, ((HXF.out.bel.setCell (by show w.heap.size ≤ w.heap.size + 1; omega) _).setCell (by show w.heap.size ≤ w.heap.size + 1; omega) _)⟩
            · obtain rfl : L1 = k := by omega
              have HR3 := Lib.hid (show rr = recProb3 x by rw [HR2.out]; exact recProb2_no (fun j hj => hall.out j (by rw [HL1.out]; exact hj)))
              have x1 := hx.get0 1 (v := .slice A2 L2 c2) rfl rfl
              clear hx
              go_wp2
              clear x1
              go_loopw [69] (fun i wr => ∃ k : Nat, k ≤ L2 ∧ i = .int .i64 k ∧ Hid (∀ j, j < k → preferB x j = true) ∧ Bxs w wr [(#[.slice A1 L1 c1, .slice A2 L2 c2], 25), (#[.int .u8 0, .int .i64 0], 66)]) (fun i _ => L2 - (intOf i).toNat)
              case atStart => exact ⟨0, Nat.zero_le _, rfl, Lib.hid (fun j hj => by omega), HX.out⟩
              case round =>
                clear HX hall
                obtain ⟨k, hk, rfl, hall, hx⟩ := hrel
                have HX := Lib.hid hx
                by_cases hlt : k < L2
                · have hkl : k < x.prefs.length := by rw [← HL2.out]; exact hlt
                  have HKL := Lib.hid hkl
                  have x0 := hx.get0 0 (v := .slice A1 L1 c1) rfl rfl
                  have x1 := hx.get0 1 (v := .slice A2 L2 c2) rfl rfl
                  obtain ⟨q, hq⟩ : ∃ q, preferB x k = q := ⟨_, rfl⟩
                  have HQ := Lib.hid hq
                  clear hx hkl hq
                  go_wp2_with fail
                  refine (refPrefer_is _ _ _ x k (HR.out.below HX.out.bel (Nat.le_refl _)) HKL.out HL.out q HQ.out).mono ?_
                  rintro e w2 ⟨rfl, hb2⟩
                  have HX2 := Lib.hid (HX.out.step hb2)
                  clear hb2 x0 x1
                  cases q with
                  | true =>
                    have hn : Hid (∀ j, j < k + 1 → preferB x j = true) := Lib.hid (fun j hj => by
                      by_cases e : j = k
                      · rw [e]; exact HQ.out
                      · exact hall.out j (by omega))
                    go_wp2
                    go_roundw
                    case rel => exact ⟨k + 1, by omega, by go_num, hn, HX2.out⟩
                    case measure => simp [intOf]; omega
                  | false =>
                    obtain ⟨b, off, u, rfl, hb, hs, hr, hw, p0, p1, p2⟩ := pref_at (HR.out.prefs.below HX2.out.bel (Nat.le_refl _)) hlt
                    have HE := Lib.hid (show rr = (10, (nth x.prefs k).line) by rw [HR3.out]; exact recProb3_hit HKL.out hall.out HQ.out)
                    have x1 := HX2.out.get0 1 (v := .slice (some ⟨b, off, none⟩) L2 c2) rfl rfl
                    clear hs hr hw p0 p1
                    have z0 := HX2.out.get 1 0 (v := .int .u8 0) rfl rfl
                    have z1 := HX2.out.get 1 1 (v := .int .i64 0) rfl rfl
                    have g0 := HX2.out.free 1 0 rfl
                    have g1 := HX2.out.free 1 1 rfl
                    go_wp2
                    refine bodyPost_ret (v := .agg #[.int .u8 10, .int .i64 (nth x.prefs k).line]) (by simp [results, Tryz.results18, go_sem, World.cell?_setCell_same', z0, z1]) rfl ⟨agg_ret HE.out, ((HX2.out.bel.setCell (by show w.heap.size ≤ w.heap.size + 1; omega) _).setCell (by show w.heap.size ≤ w.heap.size + 1; omega) _)⟩
                · obtain rfl : L2 = k := by omega
                  have HE := Lib.hid (show rr = (0, 0) by rw [HR3.out]; exact recProb3_no (fun j hj => hall.out j (by rw [HL2.out]; exact hj)))
                  have z0 := HX.out.get 1 0 (v := .int .u8 0) rfl rfl
                  have z1 := HX.out.get 1 1 (v := .int .i64 0) rfl rfl
                  have g0 := HX.out.free 1 0 rfl
                  have g1 := HX.out.free 1 1 rfl
                  clear hx
                  go_wp2
                  refine bodyPost_ret (v := .agg #[.int .u8 0, .int .i64 0]) (by simp [results, Tryz.results18, go_sem, World.cell?_setCell_same', z0, z1]) rfl ⟨agg_ret HE.out, ((HX.out.bel.setCell (by show w.heap.size ≤ w.heap.size + 1; omega) _).setCell (by show w.heap.size ≤ w.heap.size + 1; omega) _)⟩
theorem refRecipe_is (w : World) (v1 v2 : Value) (x : Rec) (h : IsRec w v1 v2 x) (hl : x.pkgs.length ≤ 1000) (r : Int × Int) (hr : recProb x = r) :
    Calls Tryz.prog 18 #[.agg #[v1, v2]] w fun e w' => e = .returned (.agg #[.int .u8 r.1, .int .i64 r.2]) ∧ Below w.heap.size w w' := by subst hr; exact refRecipe_any w v1 v2 x h hl
end Go.Proofs.YtaahdhpljlkfjaaGreat.Rc
