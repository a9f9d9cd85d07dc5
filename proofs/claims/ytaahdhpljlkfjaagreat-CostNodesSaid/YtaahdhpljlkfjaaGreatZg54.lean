/- A request's first problem: the document. -/
import Derived.Test.YtaahdhpljlkfjaaGreatZg49
import Derived.Test.YtaahdhpljlkfjaaGreatZg27
import Derived.Test.YtaahdhpljlkfjaaGreatZg53
namespace Go.Proofs.YtaahdhpljlkfjaaGreat.Rc
open Go.RowKit

set_option maxRecDepth 100000 in
set_option maxHeartbeats 3200000 in
theorem refRequest_any (w : World) (v1 v2 vq : Value) (x : Rec) (q : List Root) (h : IsRec w v1 v2 x) (hq : RowD rootK w vq q) (hl : x.pkgs.length ≤ 1000) :
    Calls Tryz.prog 19 #[.agg #[v1, v2], .agg #[vq]] w (GivesP (reqProb x q) w) := by
  obtain ⟨A1, L1, c1, A2, L2, c2, rfl, rfl, hL1, hL2, hc1, hm1, hc2, hm2⟩ := rec_box h
  obtain ⟨A3, L3, c3, rfl⟩ := hq.sl
  have HX := Lib.hid (Bxs.three w #[.slice A1 L1 c1, .slice A2 L2 c2] 25 #[.slice A3 L3 c3] 28 #[.int .u8 0, .int .i64 0] 66)
  have HR := Lib.hid h
  have HQ := Lib.hid hq
  have HL := Lib.hid hq.len
  have HLX := Lib.hid hl
  have hcq := hq.cap
  obtain ⟨rr, hrr⟩ : ∃ r, reqProb x q = r := ⟨_, rfl⟩
  rw [hrr]
  have HRR := Lib.hid hrr
  clear h hL1 hL2 hrr hq hl
  by_cases h0 : L3 = 0
  · subst h0
    have HE := Lib.hid (show rr = (11, 0) by rw [← HRR.out]; exact reqProb_nil HL.out.symm)
    go_enter Tryz.func19, Tryz.ntmps19
    have z0 := HX.out.get 2 0 (v := .int .u8 0) rfl rfl
    have z1 := HX.out.get 2 1 (v := .int .i64 0) rfl rfl
    have g0 := HX.out.free 2 0 rfl
    have g1 := HX.out.free 2 1 rfl
    go_wp2
    refine bodyPost_ret (v := .agg #[.int .u8 11, .int .i64 0]) (by simp [results, Tryz.results19, go_sem]) rfl ⟨agg_ret HE.out, ((below_alloc' w _).alloc (by simp only [World.size_alloc]; omega) _).alloc (by simp only [World.size_alloc]; omega) _⟩
  · have k0 : ((L3 : Int) == 0) = false := by simp; omega
    by_cases hm : 8 < L3
    · obtain ⟨b, off, u1, u2, rfl, hb, hs, hw, p0, p1, p2, p3⟩ := root_at (HQ.out.below HX.out.bel (Nat.le_refl _)) hm
      have HE := Lib.hid (show rr = (1, (nth q 8).line) by rw [← HRR.out]; exact reqProb_many (by rw [← HL.out]; exact hm))
      have k1 : (8 : Int) < (L3 : Int) := by omega
      clear hb hs hw p0 p1 p2
      go_enter Tryz.func19, Tryz.ntmps19
      have z0 := HX.out.get 2 0 (v := .int .u8 0) rfl rfl
      have z1 := HX.out.get 2 1 (v := .int .i64 0) rfl rfl
      have g0 := HX.out.free 2 0 rfl
      have g1 := HX.out.free 2 1 rfl
      go_wp2
      refine bodyPost_ret (v := .agg #[.int .u8 1, .int .i64 (nth q 8).line]) (by simp [results, Tryz.results19, go_sem]) rfl ⟨agg_ret HE.out, ((below_alloc' w _).alloc (by simp only [World.size_alloc]; omega) _).alloc (by simp only [World.size_alloc]; omega) _⟩
    · have k1 : ¬ (8 : Int) < (L3 : Int) := by omega
      have HR1 := Lib.hid (show rr = firstP (rootProb x) q by rw [← HRR.out]; exact reqProb_few (by rw [← HL.out]; exact h0) (by rw [← HL.out]; exact hm))
      clear HRR
      go_enter Tryz.func19, Tryz.ntmps19
      go_wp2
      go_loopw [25] (fun i wr => ∃ k : Nat, k ≤ L3 ∧ i = .int .i64 k ∧ Hid (∀ j, j < k → wishCode x (nth q j).spec = 0) ∧ Hid (Bxs w wr [(#[.slice A1 L1 c1, .slice A2 L2 c2], 25), (#[.slice A3 L3 c3], 28), (#[.int .u8 0, .int .i64 0], 66)])) (fun i _ => L3 - (RowKit.intOf i).toNat)
      case atStart => exact ⟨0, Nat.zero_le _, rfl, Lib.hid (fun j hj => by omega), HX⟩
      case round =>
        clear HX
        obtain ⟨k, hk, rfl, hall, HX⟩ := hrel
        by_cases hlt : k < L3
        · obtain ⟨b, off, u1, u2, rfl, hb, hs, hw, p0, p1, p2, p3⟩ := root_at (HQ.out.below HX.out.bel (Nat.le_refl _)) hlt
          have hkl : k < q.length := by rw [← HL.out]; exact hlt
          obtain ⟨r, hpp⟩ : ∃ r, nth q k = r := ⟨_, rfl⟩
          rw [hpp] at hs hw p0 p3
          have HPP := Lib.hid hpp
          have HKL := Lib.hid hkl
          have HS := Lib.hid hs
          have x0 := HX.out.get 0 0 (v := .slice A1 L1 c1) rfl rfl
          have x1 := HX.out.get 0 1 (v := .slice A2 L2 c2) rfl rfl
          have x2 := HX.out.get 1 0 (v := .slice (some ⟨b, off, none⟩) L3 c3) rfl rfl
          rw [Nat.add_zero] at x0 x1
          have g0 : (0 : Int) ≤ (k : Int) := by omega
          have g1 : (k : Int) < (L3 : Int) := by omega
          obtain ⟨cc, hc⟩ : ∃ c, wishCode x r.spec = c := ⟨_, rfl⟩
          have HC := Lib.hid hc
          have HXd := Lib.hid HX.out.drew
          have HSd := Lib.hid (hs.below (show Below wr.heap.size wr wr.drew from ⟨rfl, rfl, rfl, Nat.le_refl _, fun _ _ => rfl⟩) (Nat.le_refl _))
          clear hpp hkl hs hc hw
          go_wp2_with fail
          go_region_held3 (fun w' => w'.cell? ⟨w.heap.size, 0, none⟩ = some (.slice A1 L1 c1) ∧ w'.cell? ⟨w.heap.size, 1, none⟩ = some (.slice A2 L2 c2) ∧ w'.cell? ⟨w.heap.size + 1, 0, none⟩ = some (.slice (some ⟨b, off, none⟩) L3 c3) ∧ w'.cell? ⟨b, off + k * 4, none⟩ = some (.string r.spec.name) ∧ w'.cell? ⟨b, off + k * 4 + 1, none⟩ = some u1 ∧ w'.cell? ⟨b, off + k * 4 + 2, none⟩ = some u2) (go_keep) ((go_at_call 39; refine (refWish_is _ _ _ _ _ x r.spec (HR.out.below HXd.out.bel (Nat.le_refl _)) HSd.out HLX.out cc HC.out).mono ?_; rintro e w2 ⟨rfl, hb2⟩; have HX2 := Lib.hid (HXd.out.step hb2); have p3 := (hb2.cell (p := ⟨b, off + k * 4 + 3, none⟩) hb).trans p3; have y0 := HX2.out.get 0 0 (v := .slice A1 L1 c1) rfl rfl; have y1 := HX2.out.get 0 1 (v := .slice A2 L2 c2) rfl rfl; have y2 := HX2.out.get 1 0 (v := .slice (some ⟨b, off, none⟩) L3 c3) rfl rfl; rw [Nat.add_zero] at y0 y1; have y3 := (hb2.cell (p := ⟨b, off + k * 4, none⟩) hb).trans p0; have y4 := (hb2.cell (p := ⟨b, off + k * 4 + 1, none⟩) hb).trans p1; have y5 := (hb2.cell (p := ⟨b, off + k * 4 + 2, none⟩) hb).trans p2; clear hb2))
          clear x0 x1 x2 y0 y1 y3 y4 y5 p0 p1 p2
          by_cases hc0 : cc = 0
          · subst hc0
            have hn : Hid (∀ j, j < k + 1 → wishCode x (nth q j).spec = 0) := Lib.hid (fun j hj => by
              by_cases e : j = k
              · rw [e, HPP.out]; exact HC.out
              · exact hall.out j (by omega))
            go_wp2
            go_roundw
            case rel => exact ⟨k + 1, by omega, by go_num, hn, HX2⟩
            case measure => simp [RowKit.intOf]; omega
          · obtain ⟨f1, f2⟩ := int_ne hc0
            have HE := Lib.hid (show rr = (cc, r.line) by
              rw [HR1.out, firstP_hit (f := rootProb x) HKL.out hall.out (by rw [HPP.out]; show wishCode x r.spec ≠ 0; rw [HC.out]; exact hc0), HPP.out]
              exact Prod.ext HC.out rfl)
            clear hc0
            have z0 := HX2.out.get 2 0 (v := .int .u8 0) rfl rfl
            have z1 := HX2.out.get 2 1 (v := .int .i64 0) rfl rfl
            have g0 := HX2.out.free 2 0 rfl
            have g1 := HX2.out.free 2 1 rfl
            go_wp2
            refine bodyPost_ret (v := .agg #[.int .u8 cc, .int .i64 r.line]) (by simp [results, Tryz.results19, go_sem, World.cell?_setCell_same', z0, z1]) rfl ⟨agg_ret HE.out, ((HX2.out.bel.setCell (by show w.heap.size ≤ w.heap.size + 2; omega) _).setCell (by show w.heap.size ≤ w.heap.size + 2; omega) _)⟩
        · obtain rfl : L3 = k := by omega
          have HE := Lib.hid (show rr = (0, 0) by rw [HR1.out]; exact firstP_miss (f := rootProb x) (fun j hj => hall.out j (by rw [HL.out]; exact hj)))
          have z0 := HX.out.get 2 0 (v := .int .u8 0) rfl rfl
          have z1 := HX.out.get 2 1 (v := .int .i64 0) rfl rfl
          have g0 := HX.out.free 2 0 rfl
          have g1 := HX.out.free 2 1 rfl
          go_wp2
          refine bodyPost_ret (v := .agg #[.int .u8 0, .int .i64 0]) (by simp [results, Tryz.results19, go_sem, World.cell?_setCell_same', z0, z1]) rfl ⟨agg_ret HE.out, ((HX.out.bel.setCell (by show w.heap.size ≤ w.heap.size + 2; omega) _).setCell (by show w.heap.size ≤ w.heap.size + 2; omega) _)⟩
theorem refRequest_is (w : World) (v1 v2 vq : Value) (x : Rec) (q : List Root) (h : IsRec w v1 v2 x) (hq : RowD rootK w vq q) (hl : x.pkgs.length ≤ 1000) (r : Int × Int) (hr : reqProb x q = r) :
    Calls Tryz.prog 19 #[.agg #[v1, v2], .agg #[vq]] w fun e w' => e = .returned (.agg #[.int .u8 r.1, .int .i64 r.2]) ∧ Below w.heap.size w w' := by subst hr; exact refRequest_any w v1 v2 vq x q h hq hl
end Go.Proofs.YtaahdhpljlkfjaaGreat.Rc

/- Has a recipe, or a request over it, a problem? -/
namespace Go.Proofs.YtaahdhpljlkfjaaGreat.Rc
open Go.RowKit

set_option maxRecDepth 100000 in
set_option maxHeartbeats 3200000 in
theorem odd24_any (w : World) (v1 v2 vq : Value) (x : Rec) (q : List Root) (h : IsRec w v1 v2 x) (hq : RowD rootK w vq q) (hl : x.pkgs.length ≤ 30) :
    Calls Tryz.prog 8 #[.agg #[v1, v2], .agg #[vq]] w fun e w' => ∃ b : Bool, e = .returned (.bool b) ∧ Below w.heap.size w w' := by
  obtain ⟨A1, L1, c1, A2, L2, c2, rfl, rfl, hL1, hL2, hc1, hm1, hc2, hm2⟩ := rec_box h
  obtain ⟨A3, L3, c3, rfl⟩ := hq.sl
  have HX := Lib.hid (Bxs.two w #[.slice A1 L1 c1, .slice A2 L2 c2] 25 #[.slice A3 L3 c3] 28)
  have HR := Lib.hid h
  have HQ := Lib.hid hq
  have HLX := Lib.hid (Nat.le_trans hl (show 30 ≤ 1000 by omega))
  clear h hq hL1 hL2
  have hfd : ∀ (a b : Int) (w : World), (Instr.field 66 (.agg #[.int .u8 a, .int .i64 b]) 0).run Tryz.prog w = .ok (.int .u8 a) w := fun _ _ _ => by kernel_rfl
  obtain ⟨r, hr⟩ : ∃ r, recProb x = r := ⟨_, rfl⟩
  go_enter Tryz.func8, Tryz.ntmps8
  go_wp2_with fail
  refine (refRecipe_is _ _ _ x (HR.out.below HX.out.bel (Nat.le_refl _)) HLX.out r hr).mono ?_
  rintro e w2 ⟨rfl, hb⟩
  have HX2 := Lib.hid (HX.out.step hb)
  clear hb HX hr
  by_cases hz : r.1 = 0
  · obtain ⟨f1, f2⟩ : (r.1 == 0) = true ∧ (r.1 != 0) = false := by simp [hz]
    have x0 := HX2.out.get 0 0 (v := .slice A1 L1 c1) rfl rfl
    have x1 := HX2.out.get 0 1 (v := .slice A2 L2 c2) rfl rfl
    have x2 := HX2.out.get 1 0 (v := .slice A3 L3 c3) rfl rfl
    rw [Nat.add_zero] at x0 x1
    obtain ⟨r2, hr2⟩ : ∃ r, reqProb x q = r := ⟨_, rfl⟩
    clear hz
    go_wp2_with fail
    refine (refRequest_is _ _ _ _ x q (HR.out.below HX2.out.bel (Nat.le_refl _)) (HQ.out.below HX2.out.bel (Nat.le_refl _)) HLX.out r2 hr2).mono ?_
    rintro e w3 ⟨rfl, hb⟩
    have HX3 := Lib.hid (HX2.out.step hb)
    clear hb HX2 hr2 x0 x1 x2
    go_wp2
    go_ret
    exact ⟨_, rfl, HX3.out.bel⟩
  · obtain ⟨f1, f2⟩ : (r.1 == 0) = false ∧ (r.1 != 0) = true := by simp [hz]
    clear hz
    go_wp2
    go_ret
    exact ⟨_, rfl, HX2.out.bel⟩
end Go.Proofs.YtaahdhpljlkfjaaGreat.Rc
