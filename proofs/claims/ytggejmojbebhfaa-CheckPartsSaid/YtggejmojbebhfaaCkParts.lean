/- CheckParts' walk. -/
import Derived.Test.YtggejmojbebhfaaCkMem
import Derived.Test.YtggejmojbebhfaaNdGreat
import Derived.Deep.RegionHeld3
import Derived.Deep.CutRange
namespace Go.Proofs.Ytggejmojbebhfaa.Rc
open Go.RowKit Go.Sort

theorem u8_nat {a : Int} (h : (Lit.int .u8 a).wf = true) : ∃ n : Nat, a = n ∧ n ≤ 255 := by
  simp only [Lit.wf, Bool.and_eq_true, decide_eq_true_eq] at h
  have h1 : (0 : Int) ≤ a := h.1
  have h2 : a ≤ 255 := h.2
  exact ⟨a.toNat, by omega, by omega⟩
theorem Bxs.touch {w0 w1 w2 : World} {l : List (Array Value × TypeId)} {S : Nat → Prop} (h : Bxs w0 w1 l) (ht : Touch w1 w2 S) (hS : ∀ i, S i → w0.heap.size + l.length ≤ i) : Bxs w0 w2 l :=
  ⟨Touch.belows h.bel ht (Nat.le_refl _) (fun i hi => by have := hS i hi; omega), fun j cs T hj => heap_touch (h.blk j cs T hj) ht (fun hs => by
    have := hS _ hs
    have := (List.getElem?_eq_some_iff.1 hj).1
    omega)⟩

theorem RowD.zero {α : Type} [Inhabited α] {K : Kd α} (w : World) (A : Option Addr) : RowD K w (.slice A 0 0) [] := ⟨A, 0, rfl, by simp, by simp [maxLen], fun h => by simp at h⟩
theorem RowD.drop {α : Type} [Inhabited α] {K : Kd α} {w : World} {b off L c k : Nat} {l : List α} (h : RowD K w (.slice (some ⟨b, off, none⟩) L c) l) (hk : k ≤ L) : RowD K w (.slice (some ⟨b, off + k * K.n, none⟩) (L - k) (c - k)) (l.drop k) := by
  obtain ⟨A, c', e, h1, h2, h3⟩ := h
  injection e with e1 e2 e3
  subst e1 e2 e3
  refine ⟨_, c - k, by rw [List.length_drop], by rw [List.length_drop]; omega, by omega, fun hl => ?_⟩
  rw [List.length_drop] at hl
  obtain ⟨b', off', e, hb, hc⟩ := h3 (by omega)
  cases e
  refine ⟨b, off + k * K.n, rfl, hb, fun j hj => ?_⟩
  rw [List.length_drop] at hj
  obtain ⟨cs, g1, g2⟩ := hc (k + j) (by omega)
  have en : nth (l.drop k) j = nth l (k + j) := by unfold nth; rw [List.getElem?_drop]
  refine ⟨cs, by rw [en]; exact g1, fun i hi => ?_⟩
  have := g2 i hi
  rwa [Nat.add_mul, ← Nat.add_assoc] at this

set_option maxRecDepth 100000 in
set_option maxHeartbeats 6400000 in
theorem checkParts_any (w : World) (v1 v2 vq : Value) (x : Rec) (q : List Root) (a : Nat) (ha : a ≤ 255) (h : IsRec w v1 v2 x) (hq : RowD rootK w vq q) :
    Calls Try.prog 5 #[.agg #[v1, v2], .agg #[vq], .int .u8 (a : Int)] w fun e w' => e = .returned (.bool true) ∧ Below w.heap.size w w' := by
  obtain ⟨A1, L1, c1, A2, L2, c2, rfl, rfl, hL1, hL2, hc1, hm1, hc2, hm2⟩ := rec_box h
  obtain ⟨A3, L3, c3, rfl⟩ := hq.sl
  have HX := Lib.hid (Bxs.two w #[.slice A1 L1 c1, .slice A2 L2 c2] 25 #[.slice A3 L3 c3] 37)
  have HR := Lib.hid h
  have HQ := Lib.hid hq
  have HL1 := Lib.hid hL1
  have HL2 := Lib.hid hL2
  have HL3 := Lib.hid hq.len
  have hc3 := hq.cap
  clear h hq hL1 hL2
  go_enter Try.func5, Try.ntmps5
  go_wp2_with fail
  refine (great07_any _ _ _ x (HR.out.below HX.out.bel (Nat.le_refl _))).mono ?_
  rintro e w1 ⟨b, rfl, hs, hb⟩
  have HX1 := Lib.hid (HX.out.step hb)
  have HS1 := Lib.hid hs
  clear hb hs HX
  have y0 := HX1.out.get 1 0 (v := .slice A3 L3 c3) rfl rfl
  cases b with
  | true =>
    go_wp2_with fail
    refine (fixed9_any _).mono ?_
    rintro e w9 ⟨rfl, hb9⟩
    have HB := Lib.hid (Below.trans HX1.out.bel (hb9.mono (Below.size HX1.out.bel)))
    clear hb9
    go_wp2
    go_ret
    exact ⟨rfl, HB.out⟩
  | false =>
  go_wp2_with fail
  refine (great08_any _ _ q (HQ.out.below HX1.out.bel (Nat.le_refl _))).mono ?_
  rintro e w2 ⟨b, rfl, hs, hb⟩
  have HX2 := Lib.hid (HX1.out.step hb)
  have HS2 := Lib.hid hs
  clear hb hs HX1 y0
  cases b with
  | true =>
    go_wp2_with fail
    refine (fixed9_any _).mono ?_
    rintro e w9 ⟨rfl, hb9⟩
    have HB := Lib.hid (Below.trans HX2.out.bel (hb9.mono (Below.size HX2.out.bel)))
    clear hb9
    go_wp2
    go_ret
    exact ⟨rfl, HB.out⟩
  | false =>
  have x0 := HX2.out.get0 0 (v := .slice A1 L1 c1) rfl rfl
  have x1 := HX2.out.get0 1 (v := .slice A2 L2 c2) rfl rfl
  obtain ⟨r, hr⟩ : ∃ r, recProb x = r := ⟨_, rfl⟩
  have HP := Lib.hid hr
  clear hr
  go_wp2_with fail
  refine (recipe_is _ _ _ x (HR.out.below HX2.out.bel (Nat.le_refl _)) r HP.out).mono ?_
  rintro e w3 ⟨rfl, hb⟩
  have HX3 := Lib.hid (HX2.out.step hb)
  clear hb x0 x1 HX2
  obtain ⟨rc, rl⟩ := r
  have x0 := HX3.out.get0 0 (v := .slice A1 L1 c1) rfl rfl
  by_cases hc0 : rc = 0
  · by_cases hl0 : rl = 0
    · subst hc0 hl0
      by_cases hz : L1 = 0
      · subst hz
        go_wp2_with fail
        refine (fixed9_any _).mono ?_
        rintro e w9 ⟨rfl, hb9⟩
        have HB := Lib.hid (Below.trans HX3.out.bel (hb9.mono (Below.size HX3.out.bel)))
        clear hb9
        go_wp2
        go_ret
        exact ⟨rfl, HB.out⟩
      · have hz1 : ((L1 : Int) == 0) = false := by simp; omega
        have hz2 : ¬ (L1 : Int) = 0 := by omega
        have x1 := HX3.out.get0 1 (v := .slice A2 L2 c2) rfl rfl
        obtain ⟨k, hk⟩ : ∃ k, a % L1 = k := ⟨_, rfl⟩
        have hrem : (a : Int).tmod (L1 : Int) = (k : Int) := by rw [← hk]; simp [Int.tmod_eq_emod_of_nonneg]
        have hkl : k < L1 := by rw [← hk]; exact Nat.mod_lt _ (by omega)
        have hkl0 : (0 : Int) ≤ (k : Int) := by omega
        have hkl1 : (k : Int) < (L1 : Int) := by omega
        have HB4 := Lib.hid (below_alloc' w3 (.cells #[.slice A1 L1 c1, .slice A2 L2 c2] 25))
        have HB5 := Lib.hid ((HB4.out).alloc (by simp) (.cells #[] 45))
        have HR3 := Lib.hid (HR.out.below HX3.out.bel (Nat.le_refl _))
        have HLL := Lib.hid (show 0 + x.pkgs.length ≤ 100000 by have := (HS1.out (by trivial)).pkgs; omega)
        have HY5 := Lib.hid (heap_below (heap_alloc_new w3 (.cells #[.slice A1 L1 c1, .slice A2 L2 c2] 25)) (below_alloc' _ (.cells #[] 45)))
        have HO5 := Lib.hid (OwnK.empty (K := pkgK) (e := 45) w3 (base := w3.heap.size) (X := w3.heap.size + 1) (heap_new_2 w3 (.cells #[.slice A1 L1 c1, .slice A2 L2 c2] 25) _) (by omega))
        have x0a := cell_alloc_l (.cells #[.slice A1 L1 c1, .slice A2 L2 c2] 25) x0
        have x0b := cell_alloc_l (.cells #[] 45) x0a
        have HKL := Lib.hid hkl
        go_wp2_with (at_builtin; refine wpList_app_row elemPkg rfl (.tmp 36) (.tmp 38) rfl rfl (w0 := w3) (base := w3.heap.size) (v := .slice (some ⟨w3.heap.size + 1, 0, none⟩) 0 0) (xs := []) (zs := x.pkgs) rfl rfl HB5.out HO5.out HR3.out.pkgs (by simpa using HLL.out) HB5.out.size ?_; intro A6 L6 c6 w6 hown6 hgrow6; rw [List.nil_append] at hown6; obtain ⟨g, cur, css, rfl, hg6, hl6, hlc6, hc6, hh6, hcs6, hcur6⟩ := pkgs_open hown6 (k := k) (by rw [hown6.len, ← HL1.out]; exact HKL.out); obtain rfl : L1 = L6 := HL1.out.trans hl6.symm; have HY6 := Lib.hid (heap_grown HY5.out hgrow6 (by simp [Value.ownBlock])); have HGY := Lib.hid (show g ≠ w3.heap.size by rintro rfl; have := HY6.out.symm.trans hh6; simp at this); have HB6 := Lib.hid (Below.grown HB5.out hgrow6 HB5.out.size (fun i e => by simp [Value.ownBlock] at e; omega)); obtain ⟨e1, e2, e3, e4, e5, e6, hcsk, hpk⟩ := hcs6.2 k (by rw [← HL1.out]; exact HKL.out); have hq6 := hcur6 k 6 HKL.out (by omega); have hq7 := hcur6 k 7 HKL.out (by omega); rw [hcsk] at hq6 hq7; have HYB := Lib.hid (cells_set HY6.out 0 (.slice (some ⟨g, 0, none⟩) L1 c6)); have HGB := Lib.hid (heap_set_far (C := w3.heap.size) (j := 0) (v := .slice (some ⟨g, 0, none⟩) L1 c6) hh6 HGY.out); have HYC := Lib.hid (heap_set_far (C := g) (j := k * 8 + 6) (v := nilV) HYB.out HGY.out.symm); have HGC := Lib.hid (cells_set HGB.out (k * 8 + 6) nilV); have HYD := Lib.hid (heap_set_far (C := g) (j := k * 8 + 7) (v := nilV) HYC.out HGY.out.symm); have HGD := Lib.hid (cells_set HGC.out (k * 8 + 7) nilV); have p5 := cells_get HY6.out 0 (v := .slice A1 L1 c1) rfl; have f5 := cells_free HY6.out 0; have p6 := cells_get HYB.out 0 (v := .slice (some ⟨g, 0, none⟩) L1 c6) rfl; have p7 := cells_get HYC.out 0 (v := .slice (some ⟨g, 0, none⟩) L1 c6) rfl; have p8 := cells_get HGB.out (k * 8 + 6) hq6; have f8 := cells_free HGB.out (k * 8 + 6); have p9 := cells_get HGC.out (k * 8 + 7) (v := e6) (by rw [Array.getElem?_setIfInBounds, if_neg (by omega)]; exact hq7); have f9 := cells_free HGC.out (k * 8 + 7); have HO6 := Lib.hid (And.intro hlc6 (And.intro hc6 (And.intro hcs6 hcur6))); have HGG := Lib.hid hg6; clear hown6 hgrow6 hl6 hcs6 hcur6 hq6 hq7 hh6 hg6 hcsk hpk)
        have HBD := Lib.hid (show Below w3.heap.size w3 (((w6.setCell ⟨w3.heap.size, 0, none⟩ (.slice (some ⟨g, 0, none⟩) L1 c6)).setCell ⟨g, k * 8 + 6, none⟩ (.slice none 0 0)).setCell ⟨g, k * 8 + 7, none⟩ (.slice none 0 0)) from ((HB6.out.setCell (show w3.heap.size ≤ w3.heap.size from Nat.le_refl _) _).setCell (show w3.heap.size ≤ g from HGG.out) _).setCell (show w3.heap.size ≤ g from HGG.out) _)
        obtain ⟨m, hm⟩ : ∃ m, a % (L2 + 1) = m := ⟨_, rfl⟩
        have HL2S := Lib.hid (show L2 ≤ 20 by rw [HL2.out]; exact (HS1.out (by trivial)).prefs)
        obtain ⟨D, hD⟩ : ∃ D : Int, (L2 : Int) + 1 = D := ⟨_, rfl⟩
        have hwr : IntKind.i64.wrap ((L2 : Int) + 1) = D := by rw [← hD]; exact IntWalk.i64_in _ (by have := HL2S.out; omega)
        have hrem2 : (a : Int).tmod D = (m : Int) := by rw [← hm, ← hD, show ((L2 : Int) + 1) = ((L2 + 1 : Nat) : Int) by omega]; simp [Int.tmod_eq_emod_of_nonneg]
        have hmL : m ≤ L2 := by have := Nat.mod_lt a (show 0 < L2 + 1 by omega); omega
        have HML := Lib.hid hmL
        have HHC := Lib.hid hc2
        obtain ⟨wD, hwD⟩ : ∃ wD, wD = (((w6.setCell ⟨w3.heap.size, 0, none⟩ (.slice (some ⟨g, 0, none⟩) L1 c6)).setCell ⟨g, k * 8 + 6, none⟩ (.slice none 0 0)).setCell ⟨g, k * 8 + 7, none⟩ (.slice none 0 0)) := ⟨_, rfl⟩
        have HBW := Lib.hid (show Below w3.heap.size w3 wD by rw [hwD]; exact HBD.out)
        have HYW := Lib.hid (show wD.heap[w3.heap.size]? = some (.cells #[.slice (some ⟨g, 0, none⟩) L1 c6, .slice A2 L2 c2] 25 (0, 0)) by rw [hwD]; exact HYD.out)
        have HGW := Lib.hid (show wD.heap[g]? = some (.cells ((cur.setIfInBounds (k * 8 + 6) nilV).setIfInBounds (k * 8 + 7) nilV) 45 (0, 0)) by rw [hwD]; exact HGD.out)
        have HKK := Lib.hid (And.intro hkl hk)
        rw [← hwD]
        clear hwD HGD HYD HGC HYC HGB HYB p5 f5 p6 p7 p8 f8 p9 f9 HBD HY6 HB6 x0a x0b x0 x1 HY5 HO5 HB5 HB4 hm hk hrem hkl hkl0 hkl1
        have HXD := Lib.hid (HX3.out.step HBW.out)
        have x1 := HXD.out.get0 1 (v := .slice A2 L2 c2) rfl rfl
        have y1 := cells_get HYW.out 1 (v := .slice A2 L2 c2) rfl
        have y2 := cells_free HYW.out 1
        have hm1' : (m : Int) ≤ (L2 : Int) := by omega
        have hz5 : (D == 0) = false := by rw [← hD]; simp; omega
        have hz6 : ¬ D = 0 := by rw [← hD]; omega
        have hm0 : (0 : Int) ≤ (m : Int) := by omega
        have hm3 : (m : Int) ≤ (c2 : Int) := by omega
        have hm4 : ¬ (c2 : Int) < (m : Int) := by omega
        have hm7 : m ≤ c2 := by omega
        have hwa : IntKind.i64.wrap (a : Int) = (a : Int) := IntWalk.i64_in _ (by omega)
        have hwm : IntKind.i64.wrap (m : Int) = (m : Int) := IntWalk.i64_in _ (by have := HL2S.out; omega)
        have hm8 : (0 : Int) ≤ (m : Int) ∧ (m : Int) ≤ (c2 : Int) := by omega
        clear hD
        have hne : ¬ w.heap.size = w3.heap.size := by have := HX3.out.bel.size; have := lt_of_heap (HX3.out.blk 0 _ _ rfl); omega
        have hne2 : ¬ w3.heap.size = w.heap.size := by omega
        by_cases hcz : c2 = 0
        · subst hcz
          obtain rfl : m = 0 := by omega
          clear hm1' hm0 hm3 hm4 hm7 hm8 hwm hmL
          go_region_held3 (fun w' => w'.cell? ⟨w.heap.size, 1, none⟩ = some (.slice A2 L2 0)) (go_keep) ((fail))
          obtain ⟨wE, hwE⟩ : ∃ wE, wE = (wD.setCell ⟨w3.heap.size, 1, none⟩ (.slice A2 0 0)).drew := ⟨_, rfl⟩
          have HBE := Lib.hid (show Below w3.heap.size w3 wE by rw [hwE]; exact below_draws (HBW.out.setCell (show w3.heap.size ≤ w3.heap.size from Nat.le_refl _) _) 1)
          have HYE := Lib.hid (show wE.heap[w3.heap.size]? = some (.cells #[.slice (some ⟨g, 0, none⟩) L1 c6, .slice A2 0 0] 25 (0, 0)) by rw [hwE]; show (wD.setCell ⟨w3.heap.size, 1, none⟩ (.slice A2 0 0)).heap[_]? = _; simpa using cells_set HYW.out 1 (.slice A2 0 0))
          have HGE := Lib.hid (show wE.heap[g]? = some (.cells ((cur.setIfInBounds (k * 8 + 6) nilV).setIfInBounds (k * 8 + 7) nilV) 45 (0, 0)) by rw [hwE]; exact heap_set_far (C := w3.heap.size) (j := 1) (v := .slice A2 0 0) HGW.out HGY.out)
          rw [← hwE]
          clear hwE
          have HREC := Lib.hid (show IsRec wE (.slice (some ⟨g, 0, none⟩) L1 c6) (.slice A2 0 0) (less1 x k 0) from ⟨bare_row HBE.out HL1.out HO6.out.1 HO6.out.2.1 HO6.out.2.2.1 HO6.out.2.2.2 HKK.out.1 HGE.out, (RowD.zero w3 A2).below HBE.out (Nat.le_refl _)⟩)
          have HLR := Lib.hid (less1_rec (k := k) (m := 0) HP.out (by first | exact Nat.zero_le _ | (rw [← HL2.out]; exact HML.out)))
          have HXE := Lib.hid (HX3.out.step HBE.out)
          have p0 := cells_get HYE.out 0 (v := .slice (some ⟨g, 0, none⟩) L1 c6) rfl
          have p1 := cells_get HYE.out 1 (v := .slice A2 0 0) rfl
          clear x1 y1 y2 hz5 hz6 hwr hrem2 hwa
          go_wp2_with fail
          refine (recipe_is _ _ _ (less1 x k _) HREC.out (0, 0) HLR.out).mono ?_
          rintro e w7 ⟨rfl, hb⟩
          have HX7 := Lib.hid (HXE.out.step hb)
          clear hb p0 p1 HYE HGE HREC HBE HXE HYW HGW HBW HXD
          have x0 := HX7.out.get0 0 (v := .slice A1 L1 c1) rfl rfl
          have x1 := HX7.out.get0 1 (v := .slice A2 L2 0) rfl rfl
          have y0 := HX7.out.get 1 0 (v := .slice A3 L3 c3) rfl rfl
          obtain ⟨r2, hr2⟩ : ∃ r2, reqProb x q = r2 := ⟨_, rfl⟩
          have HRQ := Lib.hid hr2
          clear hr2
          go_wp2_with fail
          refine (request_is _ _ _ _ x q (HR.out.below HX7.out.bel (Nat.le_refl _)) (HQ.out.below HX7.out.bel (Nat.le_refl _)) r2 HRQ.out).mono ?_
          rintro e w8 ⟨rfl, hb⟩
          have HX8 := Lib.hid (HX7.out.step hb)
          clear hb x0 x1 y0 HX7
          obtain ⟨rc2, rl2⟩ := r2
          have y0 := HX8.out.get 1 0 (v := .slice A3 L3 c3) rfl rfl
          by_cases hc2' : rc2 = 0
          · by_cases hl2 : rl2 = 0
            · subst hc2' hl2
              by_cases hq2 : L3 < 2
              · have hq3 : (L3 : Int) < 2 := by omega
                go_wp2_with fail
                refine (fixed9_any _).mono ?_
                rintro e w9 ⟨rfl, hb9⟩
                have HB := Lib.hid (Below.trans HX8.out.bel (hb9.mono (Below.size HX8.out.bel)))
                clear hb9
                go_wp2
                go_ret
                exact ⟨rfl, HB.out⟩
              · have hq3 : ¬ (L3 : Int) < 2 := by omega
                obtain ⟨rb, roff, _, _, e, _⟩ := root_at HQ.out (j := 0) (by omega)
                subst e
                obtain ⟨n, hn⟩ : ∃ n, a % L3 = n := ⟨_, rfl⟩
                have hrem3 : (a : Int).tmod (L3 : Int) = (n : Int) := by rw [← hn]; simp [Int.tmod_eq_emod_of_nonneg]
                have hnl : n < L3 := by rw [← hn]; exact Nat.mod_lt _ (by omega)
                have hz7 : ((L3 : Int) == 0) = false := by simp; omega
                have hz8 : ¬ (L3 : Int) = 0 := by omega
                have HL3S := Lib.hid (show L3 ≤ 100 by rw [HL3.out]; exact Nat.le_trans (HS2.out (by trivial)).len (by omega))
                obtain ⟨N, hN⟩ : ∃ N, n + 1 = N := ⟨_, rfl⟩
                have hw1 : IntKind.i64.wrap ((n : Int) + 1) = (N : Int) := by rw [show ((n : Int) + 1) = (N : Int) by omega]; exact IntWalk.i64_in _ (by have := HL3S.out; omega)
                have hn0 : (0 : Int) ≤ (n : Int) := by omega
                have hn1 : (n : Int) ≤ (c3 : Int) := by omega
                have hn2 : n ≤ c3 := by omega
                have hn3 : (0 : Int) ≤ (N : Int) := by omega
                have hn4 : (N : Int) ≤ (L3 : Int) := by omega
                have hn5 : N ≤ L3 := by omega
                have hn6 : L3 ≤ c3 := by omega
                have hn7 : (L3 : Int) ≤ (c3 : Int) := by omega
                have hn8 : N ≤ c3 := by omega
                have hn9 : (N : Int) ≤ (c3 : Int) := by omega
                have hcc : ¬ c3 = 0 := by omega
                have HTK := Lib.hid (HQ.out.take (k := n) (by omega))
                have HLT := Lib.hid (show ([] : List Root).length + (q.take n).length ≤ 100000 by rw [List.length_take]; have := HL3.out; have := HL3S.out; simp; omega)
                have HLD := Lib.hid (show (([] : List Root) ++ q.take n).length + (q.drop N).length ≤ 100000 by rw [List.nil_append, List.length_take, List.length_drop]; have := HL3.out; have := HL3S.out; omega)
                have HLQ := Lib.hid (show reqProb x (([] : List Root) ++ q.take n ++ q.drop N) = (0, 0) by rw [List.nil_append, ← hN]; exact less1_req HRQ.out (by rw [← HL3.out]; omega) (by rw [← HL3.out]; exact hnl))
                clear hn
                go_upto_region 16 with fail
                clear hrem3 hz7 hz8
                by_cases hcN : c3 = N
                · subst hcN
                  obtain rfl : c3 = L3 := by omega
                  have HDR := Lib.hid (show RowD rootK w (.slice (some ⟨rb, roff, none⟩) 0 0) (q.drop c3) by rw [HL3.out, List.drop_length]; exact RowD.zero w _)
                  clear hN
                  go_region_held3 (fun w' => w'.cell? ⟨w.heap.size + 1, 0, none⟩ = some (.slice (some ⟨rb, roff, none⟩) c3 c3)) (go_keep) ((first | (refine step_app_row elemRoot9 rfl (.tmp 89) (.tmp 94) rfl rfl rfl rfl HX10.out.bel HO10.out HDR.out HLD.out HX10.out.bel.size ?_; intro A8 n8 k8 w11 hown8 hg8; have HX11 := Lib.hid (HX10.out.grownK HO10.out (by simp) hg8); have HO11 := Lib.hid hown8; have z1 := HX11.out.get 1 0 (v := .slice (some ⟨rb, roff, none⟩) c3 c3) rfl rfl; clear hown8 hg8) | (refine step_app_row elemRoot9 rfl (.tmp 89) (.tmp 94) rfl rfl rfl rfl HX10.out.drew.bel HO10.out.drew HDR.out HLD.out HX10.out.drew.bel.size ?_; intro A8 n8 k8 w11 hown8 hg8; have HX11 := Lib.hid (HX10.out.drew.grownK HO10.out.drew (by simp) hg8); have HO11 := Lib.hid hown8; have z1 := HX11.out.get 1 0 (v := .slice (some ⟨rb, roff, none⟩) c3 c3) rfl rfl; clear hown8 hg8) | (refine step_app_row elemRoot9 rfl (.tmp 84) (.tmp 88) rfl rfl rfl rfl ((HX8.out.alloc (.cells #[] 75)).drew).bel (OwnK.empty w (base := w.heap.size) (X := w8.heap.size) (heap_alloc_new w8 _) HX8.out.bel.size) HTK.out HLT.out ((HX8.out.alloc (.cells #[] 75)).drew).bel.size ?_; intro A7 n7 k7 w10 hown7 hg7; have HX10 := Lib.hid (((HX8.out.alloc (.cells #[] 75)).drew).grownK (K := rootK) (e := 75) (OwnK.empty w (heap_alloc_new w8 _) HX8.out.bel.size) (by simp) hg7); have HO10 := Lib.hid hown7; have z0 := HX10.out.get 1 0 (v := .slice (some ⟨rb, roff, none⟩) c3 c3) rfl rfl; clear hown7 hg7)))
                  clear y0 z0 z1
                  have x0 := HX11.out.get0 0 (v := .slice A1 L1 c1) rfl rfl
                  have x1 := HX11.out.get0 1 (v := .slice A2 L2 0) rfl rfl
                  go_wp2_with fail
                  refine (fixed9_any _).mono ?_
                  rintro e w12 ⟨rfl, hb⟩
                  have hbb : Below w11.heap.size w11 w12 := by first | exact hb | exact hb
                  have HX12 := Lib.hid (HX11.out.step hbb)
                  have HO12 := Lib.hid (HO11.out.below hbb)
                  clear hb hbb x0 x1
                  have x0 := HX12.out.get0 0 (v := .slice A1 L1 c1) rfl rfl
                  have x1 := HX12.out.get0 1 (v := .slice A2 L2 0) rfl rfl
                  go_wp2_with fail
                  refine (request_is _ _ _ _ x _ (HR.out.below HX12.out.bel (Nat.le_refl _)) (HO12.out.row HX12.out.bel) (0, 0) (by first | exact HLQ.out | simpa using HLQ.out)).mono ?_
                  rintro e w13 ⟨rfl, hb⟩
                  have HX13 := Lib.hid (HX12.out.step hb)
                  clear hb x0 x1
                  go_wp2
                  go_ret
                  exact ⟨rfl, HX13.out.bel⟩
                · have HDR := Lib.hid (HQ.out.drop (k := N) hn5)
                  clear hN
                  go_region_held3 (fun w' => w'.cell? ⟨w.heap.size + 1, 0, none⟩ = some (.slice (some ⟨rb, roff, none⟩) L3 c3)) (go_keep) ((first | (refine step_app_row elemRoot9 rfl (.tmp 89) (.tmp 94) rfl rfl rfl rfl HX10.out.bel HO10.out HDR.out HLD.out HX10.out.bel.size ?_; intro A8 n8 k8 w11 hown8 hg8; have HX11 := Lib.hid (HX10.out.grownK HO10.out (by simp) hg8); have HO11 := Lib.hid hown8; have z1 := HX11.out.get 1 0 (v := .slice (some ⟨rb, roff, none⟩) L3 c3) rfl rfl; clear hown8 hg8) | (refine step_app_row elemRoot9 rfl (.tmp 89) (.tmp 94) rfl rfl rfl rfl HX10.out.drew.bel HO10.out.drew HDR.out HLD.out HX10.out.drew.bel.size ?_; intro A8 n8 k8 w11 hown8 hg8; have HX11 := Lib.hid (HX10.out.drew.grownK HO10.out.drew (by simp) hg8); have HO11 := Lib.hid hown8; have z1 := HX11.out.get 1 0 (v := .slice (some ⟨rb, roff, none⟩) L3 c3) rfl rfl; clear hown8 hg8) | (refine step_app_row elemRoot9 rfl (.tmp 84) (.tmp 88) rfl rfl rfl rfl ((HX8.out.alloc (.cells #[] 75)).drew).bel (OwnK.empty w (base := w.heap.size) (X := w8.heap.size) (heap_alloc_new w8 _) HX8.out.bel.size) HTK.out HLT.out ((HX8.out.alloc (.cells #[] 75)).drew).bel.size ?_; intro A7 n7 k7 w10 hown7 hg7; have HX10 := Lib.hid (((HX8.out.alloc (.cells #[] 75)).drew).grownK (K := rootK) (e := 75) (OwnK.empty w (heap_alloc_new w8 _) HX8.out.bel.size) (by simp) hg7); have HO10 := Lib.hid hown7; have z0 := HX10.out.get 1 0 (v := .slice (some ⟨rb, roff, none⟩) L3 c3) rfl rfl; clear hown7 hg7)))
                  clear y0 z0 z1
                  have x0 := HX11.out.get0 0 (v := .slice A1 L1 c1) rfl rfl
                  have x1 := HX11.out.get0 1 (v := .slice A2 L2 0) rfl rfl
                  go_wp2_with fail
                  refine (fixed9_any _).mono ?_
                  rintro e w12 ⟨rfl, hb⟩
                  have hbb : Below w11.heap.size w11 w12 := by first | exact hb | exact hb
                  have HX12 := Lib.hid (HX11.out.step hbb)
                  have HO12 := Lib.hid (HO11.out.below hbb)
                  clear hb hbb x0 x1
                  have x0 := HX12.out.get0 0 (v := .slice A1 L1 c1) rfl rfl
                  have x1 := HX12.out.get0 1 (v := .slice A2 L2 0) rfl rfl
                  go_wp2_with fail
                  refine (request_is _ _ _ _ x _ (HR.out.below HX12.out.bel (Nat.le_refl _)) (HO12.out.row HX12.out.bel) (0, 0) (by first | exact HLQ.out | simpa using HLQ.out)).mono ?_
                  rintro e w13 ⟨rfl, hb⟩
                  have HX13 := Lib.hid (HX12.out.step hb)
                  clear hb x0 x1
                  go_wp2
                  go_ret
                  exact ⟨rfl, HX13.out.bel⟩
            · have f1 : (rl2 == 0) = false := by simpa using hl2
              subst hc2'
              go_wp2_with fail
              refine (fixed9_any _).mono ?_
              rintro e w9 ⟨rfl, hb9⟩
              have HB := Lib.hid (Below.trans HX8.out.bel (hb9.mono (Below.size HX8.out.bel)))
              clear hb9
              go_wp2
              go_ret
              exact ⟨rfl, HB.out⟩
          · have f1 : (rc2 == 0) = false := by simpa using hc2'
            go_wp2_with fail
            refine (fixed9_any _).mono ?_
            rintro e w9 ⟨rfl, hb9⟩
            have HB := Lib.hid (Below.trans HX8.out.bel (hb9.mono (Below.size HX8.out.bel)))
            clear hb9
            go_wp2
            go_ret
            exact ⟨rfl, HB.out⟩
        · rcases A2 with _ | ad
          · go_region_held3 (fun w' => w'.cell? ⟨w.heap.size, 1, none⟩ = some (.slice none L2 c2)) (go_keep) ((fail))
            obtain ⟨wE, hwE⟩ : ∃ wE, wE = (wD.setCell ⟨w3.heap.size, 1, none⟩ (.slice none m c2)).drew := ⟨_, rfl⟩
            have HBE := Lib.hid (show Below w3.heap.size w3 wE by rw [hwE]; exact below_draws (HBW.out.setCell (show w3.heap.size ≤ w3.heap.size from Nat.le_refl _) _) 1)
            have HYE := Lib.hid (show wE.heap[w3.heap.size]? = some (.cells #[.slice (some ⟨g, 0, none⟩) L1 c6, .slice none m c2] 25 (0, 0)) by rw [hwE]; show (wD.setCell ⟨w3.heap.size, 1, none⟩ (.slice none m c2)).heap[_]? = _; simpa using cells_set HYW.out 1 (.slice none m c2))
            have HGE := Lib.hid (show wE.heap[g]? = some (.cells ((cur.setIfInBounds (k * 8 + 6) nilV).setIfInBounds (k * 8 + 7) nilV) 45 (0, 0)) by rw [hwE]; exact heap_set_far (C := w3.heap.size) (j := 1) (v := .slice none m c2) HGW.out HGY.out)
            rw [← hwE]
            clear hwE
            have HREC := Lib.hid (show IsRec wE (.slice (some ⟨g, 0, none⟩) L1 c6) (.slice none m c2) (less1 x k m) from ⟨bare_row HBE.out HL1.out HO6.out.1 HO6.out.2.1 HO6.out.2.2.1 HO6.out.2.2.2 HKK.out.1 HGE.out, (HR3.out.prefs.take HML.out).below HBE.out (Nat.le_refl _)⟩)
            have HLR := Lib.hid (less1_rec (k := k) (m := m) HP.out (by first | exact Nat.zero_le _ | (rw [← HL2.out]; exact HML.out)))
            have HXE := Lib.hid (HX3.out.step HBE.out)
            have p0 := cells_get HYE.out 0 (v := .slice (some ⟨g, 0, none⟩) L1 c6) rfl
            have p1 := cells_get HYE.out 1 (v := .slice none m c2) rfl
            clear x1 y1 y2 hz5 hz6 hwr hrem2 hwa
            go_wp2_with fail
            refine (recipe_is _ _ _ (less1 x k _) HREC.out (0, 0) HLR.out).mono ?_
            rintro e w7 ⟨rfl, hb⟩
            have HX7 := Lib.hid (HXE.out.step hb)
            clear hb p0 p1 HYE HGE HREC HBE HXE HYW HGW HBW HXD
            have x0 := HX7.out.get0 0 (v := .slice A1 L1 c1) rfl rfl
            have x1 := HX7.out.get0 1 (v := .slice none L2 c2) rfl rfl
            have y0 := HX7.out.get 1 0 (v := .slice A3 L3 c3) rfl rfl
            obtain ⟨r2, hr2⟩ : ∃ r2, reqProb x q = r2 := ⟨_, rfl⟩
            have HRQ := Lib.hid hr2
            clear hr2
            go_wp2_with fail
            refine (request_is _ _ _ _ x q (HR.out.below HX7.out.bel (Nat.le_refl _)) (HQ.out.below HX7.out.bel (Nat.le_refl _)) r2 HRQ.out).mono ?_
            rintro e w8 ⟨rfl, hb⟩
            have HX8 := Lib.hid (HX7.out.step hb)
            clear hb x0 x1 y0 HX7
            obtain ⟨rc2, rl2⟩ := r2
            have y0 := HX8.out.get 1 0 (v := .slice A3 L3 c3) rfl rfl
            by_cases hc2' : rc2 = 0
            · by_cases hl2 : rl2 = 0
              · subst hc2' hl2
                by_cases hq2 : L3 < 2
                · have hq3 : (L3 : Int) < 2 := by omega
                  go_wp2_with fail
                  refine (fixed9_any _).mono ?_
                  rintro e w9 ⟨rfl, hb9⟩
                  have HB := Lib.hid (Below.trans HX8.out.bel (hb9.mono (Below.size HX8.out.bel)))
                  clear hb9
                  go_wp2
                  go_ret
                  exact ⟨rfl, HB.out⟩
                · have hq3 : ¬ (L3 : Int) < 2 := by omega
                  obtain ⟨rb, roff, _, _, e, _⟩ := root_at HQ.out (j := 0) (by omega)
                  subst e
                  obtain ⟨n, hn⟩ : ∃ n, a % L3 = n := ⟨_, rfl⟩
                  have hrem3 : (a : Int).tmod (L3 : Int) = (n : Int) := by rw [← hn]; simp [Int.tmod_eq_emod_of_nonneg]
                  have hnl : n < L3 := by rw [← hn]; exact Nat.mod_lt _ (by omega)
                  have hz7 : ((L3 : Int) == 0) = false := by simp; omega
                  have hz8 : ¬ (L3 : Int) = 0 := by omega
                  have HL3S := Lib.hid (show L3 ≤ 100 by rw [HL3.out]; exact Nat.le_trans (HS2.out (by trivial)).len (by omega))
                  obtain ⟨N, hN⟩ : ∃ N, n + 1 = N := ⟨_, rfl⟩
                  have hw1 : IntKind.i64.wrap ((n : Int) + 1) = (N : Int) := by rw [show ((n : Int) + 1) = (N : Int) by omega]; exact IntWalk.i64_in _ (by have := HL3S.out; omega)
                  have hn0 : (0 : Int) ≤ (n : Int) := by omega
                  have hn1 : (n : Int) ≤ (c3 : Int) := by omega
                  have hn2 : n ≤ c3 := by omega
                  have hn3 : (0 : Int) ≤ (N : Int) := by omega
                  have hn4 : (N : Int) ≤ (L3 : Int) := by omega
                  have hn5 : N ≤ L3 := by omega
                  have hn6 : L3 ≤ c3 := by omega
                  have hn7 : (L3 : Int) ≤ (c3 : Int) := by omega
                  have hn8 : N ≤ c3 := by omega
                  have hn9 : (N : Int) ≤ (c3 : Int) := by omega
                  have hcc : ¬ c3 = 0 := by omega
                  have HTK := Lib.hid (HQ.out.take (k := n) (by omega))
                  have HLT := Lib.hid (show ([] : List Root).length + (q.take n).length ≤ 100000 by rw [List.length_take]; have := HL3.out; have := HL3S.out; simp; omega)
                  have HLD := Lib.hid (show (([] : List Root) ++ q.take n).length + (q.drop N).length ≤ 100000 by rw [List.nil_append, List.length_take, List.length_drop]; have := HL3.out; have := HL3S.out; omega)
                  have HLQ := Lib.hid (show reqProb x (([] : List Root) ++ q.take n ++ q.drop N) = (0, 0) by rw [List.nil_append, ← hN]; exact less1_req HRQ.out (by rw [← HL3.out]; omega) (by rw [← HL3.out]; exact hnl))
                  clear hn
                  go_upto_region 16 with fail
                  clear hrem3 hz7 hz8
                  by_cases hcN : c3 = N
                  · subst hcN
                    obtain rfl : c3 = L3 := by omega
                    have HDR := Lib.hid (show RowD rootK w (.slice (some ⟨rb, roff, none⟩) 0 0) (q.drop c3) by rw [HL3.out, List.drop_length]; exact RowD.zero w _)
                    clear hN
                    go_region_held3 (fun w' => w'.cell? ⟨w.heap.size + 1, 0, none⟩ = some (.slice (some ⟨rb, roff, none⟩) c3 c3)) (go_keep) ((first | (refine step_app_row elemRoot9 rfl (.tmp 89) (.tmp 94) rfl rfl rfl rfl HX10.out.bel HO10.out HDR.out HLD.out HX10.out.bel.size ?_; intro A8 n8 k8 w11 hown8 hg8; have HX11 := Lib.hid (HX10.out.grownK HO10.out (by simp) hg8); have HO11 := Lib.hid hown8; have z1 := HX11.out.get 1 0 (v := .slice (some ⟨rb, roff, none⟩) c3 c3) rfl rfl; clear hown8 hg8) | (refine step_app_row elemRoot9 rfl (.tmp 89) (.tmp 94) rfl rfl rfl rfl HX10.out.drew.bel HO10.out.drew HDR.out HLD.out HX10.out.drew.bel.size ?_; intro A8 n8 k8 w11 hown8 hg8; have HX11 := Lib.hid (HX10.out.drew.grownK HO10.out.drew (by simp) hg8); have HO11 := Lib.hid hown8; have z1 := HX11.out.get 1 0 (v := .slice (some ⟨rb, roff, none⟩) c3 c3) rfl rfl; clear hown8 hg8) | (refine step_app_row elemRoot9 rfl (.tmp 84) (.tmp 88) rfl rfl rfl rfl ((HX8.out.alloc (.cells #[] 75)).drew).bel (OwnK.empty w (base := w.heap.size) (X := w8.heap.size) (heap_alloc_new w8 _) HX8.out.bel.size) HTK.out HLT.out ((HX8.out.alloc (.cells #[] 75)).drew).bel.size ?_; intro A7 n7 k7 w10 hown7 hg7; have HX10 := Lib.hid (((HX8.out.alloc (.cells #[] 75)).drew).grownK (K := rootK) (e := 75) (OwnK.empty w (heap_alloc_new w8 _) HX8.out.bel.size) (by simp) hg7); have HO10 := Lib.hid hown7; have z0 := HX10.out.get 1 0 (v := .slice (some ⟨rb, roff, none⟩) c3 c3) rfl rfl; clear hown7 hg7)))
                    clear y0 z0 z1
                    have x0 := HX11.out.get0 0 (v := .slice A1 L1 c1) rfl rfl
                    have x1 := HX11.out.get0 1 (v := .slice none L2 c2) rfl rfl
                    go_wp2_with fail
                    refine (fixed9_any _).mono ?_
                    rintro e w12 ⟨rfl, hb⟩
                    have hbb : Below w11.heap.size w11 w12 := by first | exact hb | exact hb
                    have HX12 := Lib.hid (HX11.out.step hbb)
                    have HO12 := Lib.hid (HO11.out.below hbb)
                    clear hb hbb x0 x1
                    have x0 := HX12.out.get0 0 (v := .slice A1 L1 c1) rfl rfl
                    have x1 := HX12.out.get0 1 (v := .slice none L2 c2) rfl rfl
                    go_wp2_with fail
                    refine (request_is _ _ _ _ x _ (HR.out.below HX12.out.bel (Nat.le_refl _)) (HO12.out.row HX12.out.bel) (0, 0) (by first | exact HLQ.out | simpa using HLQ.out)).mono ?_
                    rintro e w13 ⟨rfl, hb⟩
                    have HX13 := Lib.hid (HX12.out.step hb)
                    clear hb x0 x1
                    go_wp2
                    go_ret
                    exact ⟨rfl, HX13.out.bel⟩
                  · have HDR := Lib.hid (HQ.out.drop (k := N) hn5)
                    clear hN
                    go_region_held3 (fun w' => w'.cell? ⟨w.heap.size + 1, 0, none⟩ = some (.slice (some ⟨rb, roff, none⟩) L3 c3)) (go_keep) ((first | (refine step_app_row elemRoot9 rfl (.tmp 89) (.tmp 94) rfl rfl rfl rfl HX10.out.bel HO10.out HDR.out HLD.out HX10.out.bel.size ?_; intro A8 n8 k8 w11 hown8 hg8; have HX11 := Lib.hid (HX10.out.grownK HO10.out (by simp) hg8); have HO11 := Lib.hid hown8; have z1 := HX11.out.get 1 0 (v := .slice (some ⟨rb, roff, none⟩) L3 c3) rfl rfl; clear hown8 hg8) | (refine step_app_row elemRoot9 rfl (.tmp 89) (.tmp 94) rfl rfl rfl rfl HX10.out.drew.bel HO10.out.drew HDR.out HLD.out HX10.out.drew.bel.size ?_; intro A8 n8 k8 w11 hown8 hg8; have HX11 := Lib.hid (HX10.out.drew.grownK HO10.out.drew (by simp) hg8); have HO11 := Lib.hid hown8; have z1 := HX11.out.get 1 0 (v := .slice (some ⟨rb, roff, none⟩) L3 c3) rfl rfl; clear hown8 hg8) | (refine step_app_row elemRoot9 rfl (.tmp 84) (.tmp 88) rfl rfl rfl rfl ((HX8.out.alloc (.cells #[] 75)).drew).bel (OwnK.empty w (base := w.heap.size) (X := w8.heap.size) (heap_alloc_new w8 _) HX8.out.bel.size) HTK.out HLT.out ((HX8.out.alloc (.cells #[] 75)).drew).bel.size ?_; intro A7 n7 k7 w10 hown7 hg7; have HX10 := Lib.hid (((HX8.out.alloc (.cells #[] 75)).drew).grownK (K := rootK) (e := 75) (OwnK.empty w (heap_alloc_new w8 _) HX8.out.bel.size) (by simp) hg7); have HO10 := Lib.hid hown7; have z0 := HX10.out.get 1 0 (v := .slice (some ⟨rb, roff, none⟩) L3 c3) rfl rfl; clear hown7 hg7)))
                    clear y0 z0 z1
                    have x0 := HX11.out.get0 0 (v := .slice A1 L1 c1) rfl rfl
                    have x1 := HX11.out.get0 1 (v := .slice none L2 c2) rfl rfl
                    go_wp2_with fail
                    refine (fixed9_any _).mono ?_
                    rintro e w12 ⟨rfl, hb⟩
                    have hbb : Below w11.heap.size w11 w12 := by first | exact hb | exact hb
                    have HX12 := Lib.hid (HX11.out.step hbb)
                    have HO12 := Lib.hid (HO11.out.below hbb)
                    clear hb hbb x0 x1
                    have x0 := HX12.out.get0 0 (v := .slice A1 L1 c1) rfl rfl
                    have x1 := HX12.out.get0 1 (v := .slice none L2 c2) rfl rfl
                    go_wp2_with fail
                    refine (request_is _ _ _ _ x _ (HR.out.below HX12.out.bel (Nat.le_refl _)) (HO12.out.row HX12.out.bel) (0, 0) (by first | exact HLQ.out | simpa using HLQ.out)).mono ?_
                    rintro e w13 ⟨rfl, hb⟩
                    have HX13 := Lib.hid (HX12.out.step hb)
                    clear hb x0 x1
                    go_wp2
                    go_ret
                    exact ⟨rfl, HX13.out.bel⟩
              · have f1 : (rl2 == 0) = false := by simpa using hl2
                subst hc2'
                go_wp2_with fail
                refine (fixed9_any _).mono ?_
                rintro e w9 ⟨rfl, hb9⟩
                have HB := Lib.hid (Below.trans HX8.out.bel (hb9.mono (Below.size HX8.out.bel)))
                clear hb9
                go_wp2
                go_ret
                exact ⟨rfl, HB.out⟩
            · have f1 : (rc2 == 0) = false := by simpa using hc2'
              go_wp2_with fail
              refine (fixed9_any _).mono ?_
              rintro e w9 ⟨rfl, hb9⟩
              have HB := Lib.hid (Below.trans HX8.out.bel (hb9.mono (Below.size HX8.out.bel)))
              clear hb9
              go_wp2
              go_ret
              exact ⟨rfl, HB.out⟩
          · go_region_held3 (fun w' => w'.cell? ⟨w.heap.size, 1, none⟩ = some (.slice (some ad) L2 c2)) (go_keep) ((fail))
            obtain ⟨wE, hwE⟩ : ∃ wE, wE = (wD.setCell ⟨w3.heap.size, 1, none⟩ (.slice (some ad) m c2)).drew := ⟨_, rfl⟩
            have HBE := Lib.hid (show Below w3.heap.size w3 wE by rw [hwE]; exact below_draws (HBW.out.setCell (show w3.heap.size ≤ w3.heap.size from Nat.le_refl _) _) 1)
            have HYE := Lib.hid (show wE.heap[w3.heap.size]? = some (.cells #[.slice (some ⟨g, 0, none⟩) L1 c6, .slice (some ad) m c2] 25 (0, 0)) by rw [hwE]; show (wD.setCell ⟨w3.heap.size, 1, none⟩ (.slice (some ad) m c2)).heap[_]? = _; simpa using cells_set HYW.out 1 (.slice (some ad) m c2))
            have HGE := Lib.hid (show wE.heap[g]? = some (.cells ((cur.setIfInBounds (k * 8 + 6) nilV).setIfInBounds (k * 8 + 7) nilV) 45 (0, 0)) by rw [hwE]; exact heap_set_far (C := w3.heap.size) (j := 1) (v := .slice (some ad) m c2) HGW.out HGY.out)
            rw [← hwE]
            clear hwE
            have HREC := Lib.hid (show IsRec wE (.slice (some ⟨g, 0, none⟩) L1 c6) (.slice (some ad) m c2) (less1 x k m) from ⟨bare_row HBE.out HL1.out HO6.out.1 HO6.out.2.1 HO6.out.2.2.1 HO6.out.2.2.2 HKK.out.1 HGE.out, (HR3.out.prefs.take HML.out).below HBE.out (Nat.le_refl _)⟩)
            have HLR := Lib.hid (less1_rec (k := k) (m := m) HP.out (by first | exact Nat.zero_le _ | (rw [← HL2.out]; exact HML.out)))
            have HXE := Lib.hid (HX3.out.step HBE.out)
            have p0 := cells_get HYE.out 0 (v := .slice (some ⟨g, 0, none⟩) L1 c6) rfl
            have p1 := cells_get HYE.out 1 (v := .slice (some ad) m c2) rfl
            clear x1 y1 y2 hz5 hz6 hwr hrem2 hwa
            go_wp2_with fail
            refine (recipe_is _ _ _ (less1 x k _) HREC.out (0, 0) HLR.out).mono ?_
            rintro e w7 ⟨rfl, hb⟩
            have HX7 := Lib.hid (HXE.out.step hb)
            clear hb p0 p1 HYE HGE HREC HBE HXE HYW HGW HBW HXD
            have x0 := HX7.out.get0 0 (v := .slice A1 L1 c1) rfl rfl
            have x1 := HX7.out.get0 1 (v := .slice (some ad) L2 c2) rfl rfl
            have y0 := HX7.out.get 1 0 (v := .slice A3 L3 c3) rfl rfl
            obtain ⟨r2, hr2⟩ : ∃ r2, reqProb x q = r2 := ⟨_, rfl⟩
            have HRQ := Lib.hid hr2
            clear hr2
            go_wp2_with fail
            refine (request_is _ _ _ _ x q (HR.out.below HX7.out.bel (Nat.le_refl _)) (HQ.out.below HX7.out.bel (Nat.le_refl _)) r2 HRQ.out).mono ?_
            rintro e w8 ⟨rfl, hb⟩
            have HX8 := Lib.hid (HX7.out.step hb)
            clear hb x0 x1 y0 HX7
            obtain ⟨rc2, rl2⟩ := r2
            have y0 := HX8.out.get 1 0 (v := .slice A3 L3 c3) rfl rfl
            by_cases hc2' : rc2 = 0
            · by_cases hl2 : rl2 = 0
              · subst hc2' hl2
                by_cases hq2 : L3 < 2
                · have hq3 : (L3 : Int) < 2 := by omega
                  go_wp2_with fail
                  refine (fixed9_any _).mono ?_
                  rintro e w9 ⟨rfl, hb9⟩
                  have HB := Lib.hid (Below.trans HX8.out.bel (hb9.mono (Below.size HX8.out.bel)))
                  clear hb9
                  go_wp2
                  go_ret
                  exact ⟨rfl, HB.out⟩
                · have hq3 : ¬ (L3 : Int) < 2 := by omega
                  obtain ⟨rb, roff, _, _, e, _⟩ := root_at HQ.out (j := 0) (by omega)
                  subst e
                  obtain ⟨n, hn⟩ : ∃ n, a % L3 = n := ⟨_, rfl⟩
                  have hrem3 : (a : Int).tmod (L3 : Int) = (n : Int) := by rw [← hn]; simp [Int.tmod_eq_emod_of_nonneg]
                  have hnl : n < L3 := by rw [← hn]; exact Nat.mod_lt _ (by omega)
                  have hz7 : ((L3 : Int) == 0) = false := by simp; omega
                  have hz8 : ¬ (L3 : Int) = 0 := by omega
                  have HL3S := Lib.hid (show L3 ≤ 100 by rw [HL3.out]; exact Nat.le_trans (HS2.out (by trivial)).len (by omega))
                  obtain ⟨N, hN⟩ : ∃ N, n + 1 = N := ⟨_, rfl⟩
                  have hw1 : IntKind.i64.wrap ((n : Int) + 1) = (N : Int) := by rw [show ((n : Int) + 1) = (N : Int) by omega]; exact IntWalk.i64_in _ (by have := HL3S.out; omega)
                  have hn0 : (0 : Int) ≤ (n : Int) := by omega
                  have hn1 : (n : Int) ≤ (c3 : Int) := by omega
                  have hn2 : n ≤ c3 := by omega
                  have hn3 : (0 : Int) ≤ (N : Int) := by omega
                  have hn4 : (N : Int) ≤ (L3 : Int) := by omega
                  have hn5 : N ≤ L3 := by omega
                  have hn6 : L3 ≤ c3 := by omega
                  have hn7 : (L3 : Int) ≤ (c3 : Int) := by omega
                  have hn8 : N ≤ c3 := by omega
                  have hn9 : (N : Int) ≤ (c3 : Int) := by omega
                  have hcc : ¬ c3 = 0 := by omega
                  have HTK := Lib.hid (HQ.out.take (k := n) (by omega))
                  have HLT := Lib.hid (show ([] : List Root).length + (q.take n).length ≤ 100000 by rw [List.length_take]; have := HL3.out; have := HL3S.out; simp; omega)
                  have HLD := Lib.hid (show (([] : List Root) ++ q.take n).length + (q.drop N).length ≤ 100000 by rw [List.nil_append, List.length_take, List.length_drop]; have := HL3.out; have := HL3S.out; omega)
                  have HLQ := Lib.hid (show reqProb x (([] : List Root) ++ q.take n ++ q.drop N) = (0, 0) by rw [List.nil_append, ← hN]; exact less1_req HRQ.out (by rw [← HL3.out]; omega) (by rw [← HL3.out]; exact hnl))
                  clear hn
                  go_upto_region 16 with fail
                  clear hrem3 hz7 hz8
                  by_cases hcN : c3 = N
                  · subst hcN
                    obtain rfl : c3 = L3 := by omega
                    have HDR := Lib.hid (show RowD rootK w (.slice (some ⟨rb, roff, none⟩) 0 0) (q.drop c3) by rw [HL3.out, List.drop_length]; exact RowD.zero w _)
                    clear hN
                    go_region_held3 (fun w' => w'.cell? ⟨w.heap.size + 1, 0, none⟩ = some (.slice (some ⟨rb, roff, none⟩) c3 c3)) (go_keep) ((first | (refine step_app_row elemRoot9 rfl (.tmp 89) (.tmp 94) rfl rfl rfl rfl HX10.out.bel HO10.out HDR.out HLD.out HX10.out.bel.size ?_; intro A8 n8 k8 w11 hown8 hg8; have HX11 := Lib.hid (HX10.out.grownK HO10.out (by simp) hg8); have HO11 := Lib.hid hown8; have z1 := HX11.out.get 1 0 (v := .slice (some ⟨rb, roff, none⟩) c3 c3) rfl rfl; clear hown8 hg8) | (refine step_app_row elemRoot9 rfl (.tmp 89) (.tmp 94) rfl rfl rfl rfl HX10.out.drew.bel HO10.out.drew HDR.out HLD.out HX10.out.drew.bel.size ?_; intro A8 n8 k8 w11 hown8 hg8; have HX11 := Lib.hid (HX10.out.drew.grownK HO10.out.drew (by simp) hg8); have HO11 := Lib.hid hown8; have z1 := HX11.out.get 1 0 (v := .slice (some ⟨rb, roff, none⟩) c3 c3) rfl rfl; clear hown8 hg8) | (refine step_app_row elemRoot9 rfl (.tmp 84) (.tmp 88) rfl rfl rfl rfl ((HX8.out.alloc (.cells #[] 75)).drew).bel (OwnK.empty w (base := w.heap.size) (X := w8.heap.size) (heap_alloc_new w8 _) HX8.out.bel.size) HTK.out HLT.out ((HX8.out.alloc (.cells #[] 75)).drew).bel.size ?_; intro A7 n7 k7 w10 hown7 hg7; have HX10 := Lib.hid (((HX8.out.alloc (.cells #[] 75)).drew).grownK (K := rootK) (e := 75) (OwnK.empty w (heap_alloc_new w8 _) HX8.out.bel.size) (by simp) hg7); have HO10 := Lib.hid hown7; have z0 := HX10.out.get 1 0 (v := .slice (some ⟨rb, roff, none⟩) c3 c3) rfl rfl; clear hown7 hg7)))
                    clear y0 z0 z1
                    have x0 := HX11.out.get0 0 (v := .slice A1 L1 c1) rfl rfl
                    have x1 := HX11.out.get0 1 (v := .slice (some ad) L2 c2) rfl rfl
                    go_wp2_with fail
                    refine (fixed9_any _).mono ?_
                    rintro e w12 ⟨rfl, hb⟩
                    have hbb : Below w11.heap.size w11 w12 := by first | exact hb | exact hb
                    have HX12 := Lib.hid (HX11.out.step hbb)
                    have HO12 := Lib.hid (HO11.out.below hbb)
                    clear hb hbb x0 x1
                    have x0 := HX12.out.get0 0 (v := .slice A1 L1 c1) rfl rfl
                    have x1 := HX12.out.get0 1 (v := .slice (some ad) L2 c2) rfl rfl
                    go_wp2_with fail
                    refine (request_is _ _ _ _ x _ (HR.out.below HX12.out.bel (Nat.le_refl _)) (HO12.out.row HX12.out.bel) (0, 0) (by first | exact HLQ.out | simpa using HLQ.out)).mono ?_
                    rintro e w13 ⟨rfl, hb⟩
                    have HX13 := Lib.hid (HX12.out.step hb)
                    clear hb x0 x1
                    go_wp2
                    go_ret
                    exact ⟨rfl, HX13.out.bel⟩
                  · have HDR := Lib.hid (HQ.out.drop (k := N) hn5)
                    clear hN
                    go_region_held3 (fun w' => w'.cell? ⟨w.heap.size + 1, 0, none⟩ = some (.slice (some ⟨rb, roff, none⟩) L3 c3)) (go_keep) ((first | (refine step_app_row elemRoot9 rfl (.tmp 89) (.tmp 94) rfl rfl rfl rfl HX10.out.bel HO10.out HDR.out HLD.out HX10.out.bel.size ?_; intro A8 n8 k8 w11 hown8 hg8; have HX11 := Lib.hid (HX10.out.grownK HO10.out (by simp) hg8); have HO11 := Lib.hid hown8; have z1 := HX11.out.get 1 0 (v := .slice (some ⟨rb, roff, none⟩) L3 c3) rfl rfl; clear hown8 hg8) | (refine step_app_row elemRoot9 rfl (.tmp 89) (.tmp 94) rfl rfl rfl rfl HX10.out.drew.bel HO10.out.drew HDR.out HLD.out HX10.out.drew.bel.size ?_; intro A8 n8 k8 w11 hown8 hg8; have HX11 := Lib.hid (HX10.out.drew.grownK HO10.out.drew (by simp) hg8); have HO11 := Lib.hid hown8; have z1 := HX11.out.get 1 0 (v := .slice (some ⟨rb, roff, none⟩) L3 c3) rfl rfl; clear hown8 hg8) | (refine step_app_row elemRoot9 rfl (.tmp 84) (.tmp 88) rfl rfl rfl rfl ((HX8.out.alloc (.cells #[] 75)).drew).bel (OwnK.empty w (base := w.heap.size) (X := w8.heap.size) (heap_alloc_new w8 _) HX8.out.bel.size) HTK.out HLT.out ((HX8.out.alloc (.cells #[] 75)).drew).bel.size ?_; intro A7 n7 k7 w10 hown7 hg7; have HX10 := Lib.hid (((HX8.out.alloc (.cells #[] 75)).drew).grownK (K := rootK) (e := 75) (OwnK.empty w (heap_alloc_new w8 _) HX8.out.bel.size) (by simp) hg7); have HO10 := Lib.hid hown7; have z0 := HX10.out.get 1 0 (v := .slice (some ⟨rb, roff, none⟩) L3 c3) rfl rfl; clear hown7 hg7)))
                    clear y0 z0 z1
                    have x0 := HX11.out.get0 0 (v := .slice A1 L1 c1) rfl rfl
                    have x1 := HX11.out.get0 1 (v := .slice (some ad) L2 c2) rfl rfl
                    go_wp2_with fail
                    refine (fixed9_any _).mono ?_
                    rintro e w12 ⟨rfl, hb⟩
                    have hbb : Below w11.heap.size w11 w12 := by first | exact hb | exact hb
                    have HX12 := Lib.hid (HX11.out.step hbb)
                    have HO12 := Lib.hid (HO11.out.below hbb)
                    clear hb hbb x0 x1
                    have x0 := HX12.out.get0 0 (v := .slice A1 L1 c1) rfl rfl
                    have x1 := HX12.out.get0 1 (v := .slice (some ad) L2 c2) rfl rfl
                    go_wp2_with fail
                    refine (request_is _ _ _ _ x _ (HR.out.below HX12.out.bel (Nat.le_refl _)) (HO12.out.row HX12.out.bel) (0, 0) (by first | exact HLQ.out | simpa using HLQ.out)).mono ?_
                    rintro e w13 ⟨rfl, hb⟩
                    have HX13 := Lib.hid (HX12.out.step hb)
                    clear hb x0 x1
                    go_wp2
                    go_ret
                    exact ⟨rfl, HX13.out.bel⟩
              · have f1 : (rl2 == 0) = false := by simpa using hl2
                subst hc2'
                go_wp2_with fail
                refine (fixed9_any _).mono ?_
                rintro e w9 ⟨rfl, hb9⟩
                have HB := Lib.hid (Below.trans HX8.out.bel (hb9.mono (Below.size HX8.out.bel)))
                clear hb9
                go_wp2
                go_ret
                exact ⟨rfl, HB.out⟩
            · have f1 : (rc2 == 0) = false := by simpa using hc2'
              go_wp2_with fail
              refine (fixed9_any _).mono ?_
              rintro e w9 ⟨rfl, hb9⟩
              have HB := Lib.hid (Below.trans HX8.out.bel (hb9.mono (Below.size HX8.out.bel)))
              clear hb9
              go_wp2
              go_ret
              exact ⟨rfl, HB.out⟩
    · have f1 : (rl == 0) = false := by simpa using hl0
      subst hc0
      go_wp2_with fail
      refine (fixed9_any _).mono ?_
      rintro e w9 ⟨rfl, hb9⟩
      have HB := Lib.hid (Below.trans HX3.out.bel (hb9.mono (Below.size HX3.out.bel)))
      clear hb9
      go_wp2
      go_ret
      exact ⟨rfl, HB.out⟩
  · have f1 : (rc == 0) = false := by simpa using hc0
    go_wp2_with fail
    refine (fixed9_any _).mono ?_
    rintro e w9 ⟨rfl, hb9⟩
    have HB := Lib.hid (Below.trans HX3.out.bel (hb9.mono (Below.size HX3.out.bel)))
    clear hb9
    go_wp2
    go_ret
    exact ⟨rfl, HB.out⟩
theorem checkParts_w (cs : List Value) (x : Rec) (ds : List Value) (q : List Root) (a : Int) (wa : (Lit.int .u8 a).wf = true) (w : World) (h : recK.is w cs x) (hq : reqK.is w ds q) :
    Calls Try.prog 5 #[.agg cs.toArray, .agg ds.toArray, .int .u8 a] w fun e w' => e = .returned (.bool true) ∧ Below w.heap.size w w' := by
  obtain ⟨v1, v2, rfl, h⟩ := h
  obtain ⟨v3, rfl, hq⟩ := hq
  obtain ⟨n, rfl, hn⟩ := u8_nat wa
  exact checkParts_any w v1 v2 v3 x q n hn h hq
end Go.Proofs.Ytggejmojbebhfaa.Rc
