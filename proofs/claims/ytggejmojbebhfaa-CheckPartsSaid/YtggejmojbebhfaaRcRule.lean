/- What is wrong with a package's rules. -/
import Derived.Test.YtggejmojbebhfaaRcBxs
namespace Go.Proofs.Ytggejmojbebhfaa.Rc
open Go.RowKit

theorem int_ne {c : Int} (h : ¬ c = 0) : (c == 0) = false ∧ (c != 0) = true := by simp [h]
theorem agg_ret {a b : Int} {r : Int × Int} (h : r = (a, b)) : Ending.returned (.agg #[.int .u8 a, .int .i64 b]) = .returned (.agg #[.int .u8 r.1, .int .i64 r.2]) := by rw [h]
theorem ruleProb_dep {x : Rec} {p : Pkg} {k : Nat} {c : Int} (hk : k < p.deps.length) (h0 : ∀ j, j < k → (depProb x p (nth p.deps j)).1 = 0) (hc : (depProb x p (nth p.deps k)).1 = c) (hn : ¬ c = 0) : ruleProb x p = (c, (nth p.deps k).line) := by
  have h1 : (depProb x p (nth p.deps k)).1 ≠ 0 := by rw [hc]; exact hn
  have e := firstP_hit hk h0 h1
  unfold ruleProb
  rw [e, if_pos h1]
  exact Prod.ext hc rfl
theorem ruleProb_con {x : Rec} {p : Pkg} {k : Nat} {c : Int} (hd : ∀ j, j < p.deps.length → (depProb x p (nth p.deps j)).1 = 0) (hk : k < p.cons.length) (h0 : ∀ j, j < k → (conProb x p (nth p.cons j)).1 = 0) (hc : (conProb x p (nth p.cons k)).1 = c) (hn : ¬ c = 0) : ruleProb x p = (c, (nth p.cons k).line) := by
  have h1 : (conProb x p (nth p.cons k)).1 ≠ 0 := by rw [hc]; exact hn
  have e := firstP_hit hk h0 h1
  unfold ruleProb
  rw [firstP_miss hd, if_neg (by simp), e]
  exact Prod.ext hc rfl
theorem ruleProb_no {x : Rec} {p : Pkg} (hd : ∀ j, j < p.deps.length → (depProb x p (nth p.deps j)).1 = 0) (hc : ∀ j, j < p.cons.length → (conProb x p (nth p.cons j)).1 = 0) : ruleProb x p = (0, 0) := by
  unfold ruleProb
  rw [firstP_miss hd, if_neg (by simp), firstP_miss hc]

set_option maxRecDepth 100000 in
set_option maxHeartbeats 6400000 in
theorem ruleProblem_any (w : World) (v1 v2 u1 u2 u3 u4 u5 u6 : Value) (x : Rec) (p : Pkg) (h : IsRec w v1 v2 x) (hp : IsPkg w u1 u2 u3 u4 u5 u6 p) :
    Calls Try.prog 37 #[.agg #[v1, v2], .agg #[.string p.name, .int .i64 p.line, u1, u2, u3, u4, u5, u6]] w (GivesP (ruleProb x p) w) := by
  obtain ⟨A1, L1, c1, A2, L2, c2, rfl, rfl, hr⟩ := rec_box h
  obtain ⟨⟨a1, n1, k1, rfl⟩, ⟨a2, n2, k2, rfl⟩, ⟨a3, n3, k3, rfl⟩, ⟨a4, n4, k4, rfl⟩, ⟨a5, n5, k5, rfl⟩, ⟨a6, n6, k6, rfl⟩⟩ := hp.sls
  obtain ⟨hd1, hd2⟩ := hp.deps.cap
  obtain ⟨hcc1, hcc2⟩ := hp.cons.cap
  have HLD := Lib.hid hp.deps.len
  have HLC := Lib.hid hp.cons.len
  have HX := Lib.hid (Bxs.three w #[.slice A1 L1 c1, .slice A2 L2 c2] 25 #[.string p.name, .int .i64 p.line, .slice a1 n1 k1, .slice a2 n2 k2, .slice a3 n3 k3, .slice a4 n4 k4, .slice a5 n5 k5, .slice a6 n6 k6] 45 #[.int .u8 0, .int .i64 0] 29)
  have HR := Lib.hid h
  have HP := Lib.hid hp
  obtain ⟨rr, hrr⟩ : ∃ r, ruleProb x p = r := ⟨_, rfl⟩
  rw [hrr]
  have HRR := Lib.hid hrr
  clear h hp hr hrr
  go_enter Try.func37, Try.ntmps37
  go_wp2
  go_loopw [14] (fun i wr => ∃ k : Nat, k ≤ n4 ∧ i = .int .i64 k ∧ Hid (∀ j, j < k → (depProb x p (nth p.deps j)).1 = 0) ∧ Bxs w wr [(#[.slice A1 L1 c1, .slice A2 L2 c2], 25), (#[.string p.name, .int .i64 p.line, .slice a1 n1 k1, .slice a2 n2 k2, .slice a3 n3 k3, .slice a4 n4 k4, .slice a5 n5 k5, .slice a6 n6 k6], 45), (#[.int .u8 0, .int .i64 0], 29)]) (fun i _ => n4 - (intOf i).toNat)
  case atStart => exact ⟨0, Nat.zero_le _, rfl, Lib.hid (fun j hj => by omega), HX.out⟩
  case round =>
    clear HX
    obtain ⟨k, hk, rfl, hall, hx⟩ := hrel
    have HX := Lib.hid hx
    by_cases hlt : k < n4
    · obtain ⟨b, off, s1, s2, s3, s4, rfl, hb, hsa, hsb, hwf, d0, d1, d2, d3, d4, d5, d6⟩ := two_at (HP.out.deps.below hx.bel (Nat.le_refl _)) hlt
      obtain ⟨B1, M1, e1, rfl⟩ := hsa.spans.sl
      obtain ⟨B2, M2, e2, rfl⟩ := hsa.sets.sl
      obtain ⟨B3, M3, e3, rfl⟩ := hsb.spans.sl
      obtain ⟨B4, M4, e4, rfl⟩ := hsb.sets.sl
      have hkl : k < p.deps.length := by rw [← HLD.out]; exact hlt
      generalize hdd : nth p.deps k = d at hsa hsb hwf d0 d1 d2 d3 d4 d5 d6
      have HDD := Lib.hid hdd
      have HKL := Lib.hid hkl
      have hbd := Boxed.new wr #[.string d.a.name, .slice B1 M1 e1, .slice B2 M2 e2, .string d.b.name, .slice B3 M3 e3, .slice B4 M4 e4, .int .i64 d.line] 80
      have hx1 := hx.step hbd.bel
      have hsa1 := hsa.below hbd.bel (Nat.le_refl _)
      have hsb1 := hsb.below hbd.bel (Nat.le_refl _)
      have q0 := cell_alloc_l (.cells #[.string d.a.name, .slice B1 M1 e1, .slice B2 M2 e2, .string d.b.name, .slice B3 M3 e3, .slice B4 M4 e4, .int .i64 d.line] 80) (hx.get0 0 (v := .slice A1 L1 c1) rfl rfl)
      have q1 := cell_alloc_l (.cells #[.string d.a.name, .slice B1 M1 e1, .slice B2 M2 e2, .string d.b.name, .slice B3 M3 e3, .slice B4 M4 e4, .int .i64 d.line] 80) (hx.get0 1 (v := .slice A2 L2 c2) rfl rfl)
      generalize hw1 : wr.alloc (.cells #[.string d.a.name, .slice B1 M1 e1, .slice B2 M2 e2, .string d.b.name, .slice B3 M3 e3, .slice B4 M4 e4, .int .i64 d.line] 80) = w1 at hbd hx1 hsa1 hsb1
      have HW1 := Lib.hid hw1
      have HBD := Lib.hid hbd
      have HX1 := Lib.hid hx1
      have HSA := Lib.hid hsa1
      have HSB := Lib.hid hsb1
      obtain ⟨c, hc⟩ : ∃ c, wishCode x d.a = c := ⟨_, rfl⟩
      have HC := Lib.hid hc
      clear hx hdd hkl hbd hx1 hsa hsb hsa1 hsb1 hw1 hc hwf HX
      go_wp2_with fail
      rw [HW1.out]
      refine (wishCode_is _ _ _ _ _ x d.a (HR.out.below HX1.out.bel (Nat.le_refl _)) HSA.out c HC.out).mono ?_
      rintro e w2 ⟨rfl, hb2⟩
      have HX2 := Lib.hid (HX1.out.step hb2)
      have HB2 := Lib.hid (HBD.out.step hb2)
      have HSB2 := Lib.hid (HSB.out.below hb2 (Nat.le_refl _))
      clear hb2 q0 q1 d0 d1 d2 d3 d4 d5 d6
      have t6 := HB2.out.get 6 (v := .int .i64 d.line) rfl
      have z0 := HX2.out.get 2 0 (v := .int .u8 0) rfl rfl
      have z1 := HX2.out.get 2 1 (v := .int .i64 0) rfl rfl
      have g0 := HX2.out.free 2 0 rfl
      have g1 := HX2.out.free 2 1 rfl
      by_cases hc0 : c = 0
      · subst hc0
        have t3 := HB2.out.get 3 (v := .string d.b.name) rfl
        have t4 := HB2.out.get 4 (v := .slice B3 M3 e3) rfl
        have t5 := HB2.out.get 5 (v := .slice B4 M4 e4) rfl
        have y0 := HX2.out.get 1 0 (v := .string p.name) rfl rfl
        have y1 := HX2.out.get 1 1 (v := .int .i64 p.line) rfl rfl
        have y2 := HX2.out.get 1 2 (v := .slice a1 n1 k1) rfl rfl
        have y3 := HX2.out.get 1 3 (v := .slice a2 n2 k2) rfl rfl
        have y4 := HX2.out.get 1 4 (v := .slice a3 n3 k3) rfl rfl
        have y5 := HX2.out.get 1 5 (v := .slice (some ⟨b, off, none⟩) n4 k4) rfl rfl
        have y6 := HX2.out.get 1 6 (v := .slice a5 n5 k5) rfl rfl
        have y7 := HX2.out.get 1 7 (v := .slice a6 n6 k6) rfl rfl
        obtain ⟨q, hq⟩ : ∃ q, settCode p d.b.sets = q := ⟨_, rfl⟩
        have HQ := Lib.hid hq
        clear hq
        go_wp2_with fail
        refine (settingsCode_is _ _ _ _ _ _ _ _ _ p d.b (HP.out.below HX2.out.bel (Nat.le_refl _)) HSB2.out q HQ.out).mono ?_
        rintro e w3 ⟨rfl, hb3⟩
        have HX3 := Lib.hid (HX2.out.step hb3)
        have HB3 := Lib.hid (HB2.out.step hb3)
        clear hb3 t3 t4 t5 t6 y0 y1 y2 y3 y4 y5 y6 y7 z0 z1 g0 g1
        have HPK := Lib.hid (show (depProb x p (nth p.deps k)).1 = q by rw [HDD.out]; unfold depProb; rw [if_pos HC.out]; exact HQ.out)
        by_cases hq0 : q = 0
        · subst hq0
          have hn : Hid (∀ j, j < k + 1 → (depProb x p (nth p.deps j)).1 = 0) := Lib.hid (fun j hj => by
            by_cases e : j = k
            · rw [e]; exact HPK.out
            · exact hall.out j (by omega))
          go_wp2
          go_roundw
          case rel => exact ⟨k + 1, by omega, by go_num, hn, HX3.out⟩
          case measure => simp [intOf]; omega
        · obtain ⟨f1, f2⟩ := int_ne hq0
          have HE := Lib.hid (show rr = (q, d.line) by rw [← HRR.out, ← HDD.out]; exact ruleProb_dep HKL.out hall.out HPK.out hq0)
          clear hq0
          have t6 := HB3.out.get 6 (v := .int .i64 d.line) rfl
          have z0 := HX3.out.get 2 0 (v := .int .u8 0) rfl rfl
          have z1 := HX3.out.get 2 1 (v := .int .i64 0) rfl rfl
          have g0 := HX3.out.free 2 0 rfl
          have g1 := HX3.out.free 2 1 rfl
          go_wp2
          refine bodyPost_ret (v := .agg #[.int .u8 q, .int .i64 d.line]) (by simp [results, Try.results37, go_sem, World.cell?_setCell_same', z0, z1]) rfl ⟨agg_ret HE.out, ((HX3.out.bel.setCell (by show w.heap.size ≤ w.heap.size + 1 + 1; omega) _).setCell (by show w.heap.size ≤ w.heap.size + 1 + 1; omega) _)⟩
      · obtain ⟨f1, f2⟩ := int_ne hc0
        have HE := Lib.hid (show rr = (c, d.line) by
          rw [← HRR.out, ← HDD.out]
          exact ruleProb_dep HKL.out hall.out (by rw [HDD.out]; unfold depProb; rw [HC.out, if_neg hc0]) hc0)
        clear hc0
        go_wp2
        refine bodyPost_ret (v := .agg #[.int .u8 c, .int .i64 d.line]) (by simp [results, Try.results37, go_sem, World.cell?_setCell_same', z0, z1]) rfl ⟨agg_ret HE.out, ((HX2.out.bel.setCell (by show w.heap.size ≤ w.heap.size + 1 + 1; omega) _).setCell (by show w.heap.size ≤ w.heap.size + 1 + 1; omega) _)⟩
    · obtain rfl : n4 = k := by omega
      have HD := Lib.hid (show ∀ j, j < p.deps.length → (depProb x p (nth p.deps j)).1 = 0 from fun j hj => hall.out j (by rw [HLD.out]; exact hj))
      have y6 := HX.out.get 1 6 (v := .slice a5 n5 k5) rfl rfl
      clear hx
      go_wp2
      clear y6
      go_loopw [38] (fun i wr => ∃ k : Nat, k ≤ n5 ∧ i = .int .i64 k ∧ Hid (∀ j, j < k → (conProb x p (nth p.cons j)).1 = 0) ∧ Bxs w wr [(#[.slice A1 L1 c1, .slice A2 L2 c2], 25), (#[.string p.name, .int .i64 p.line, .slice a1 n1 k1, .slice a2 n2 k2, .slice a3 n3 k3, .slice a4 n4 k4, .slice a5 n5 k5, .slice a6 n6 k6], 45), (#[.int .u8 0, .int .i64 0], 29)]) (fun i _ => n5 - (intOf i).toNat)
      case atStart => exact ⟨0, Nat.zero_le _, rfl, Lib.hid (fun j hj => by omega), HX.out⟩
      case round =>
        clear HX hall
        obtain ⟨k, hk, rfl, hall, hx⟩ := hrel
        have HX := Lib.hid hx
        by_cases hlt : k < n5
        · obtain ⟨b, off, s1, s2, s3, s4, rfl, hb, hsa, hsb, hwf, d0, d1, d2, d3, d4, d5, d6⟩ := two_at (HP.out.cons.below hx.bel (Nat.le_refl _)) hlt
          obtain ⟨B1, M1, e1, rfl⟩ := hsa.spans.sl
          obtain ⟨B2, M2, e2, rfl⟩ := hsa.sets.sl
          obtain ⟨B3, M3, e3, rfl⟩ := hsb.spans.sl
          obtain ⟨B4, M4, e4, rfl⟩ := hsb.sets.sl
          have hkl : k < p.cons.length := by rw [← HLC.out]; exact hlt
          generalize hdd : nth p.cons k = d at hsa hsb hwf d0 d1 d2 d3 d4 d5 d6
          have HDD := Lib.hid hdd
          have HKL := Lib.hid hkl
          have hbd := Boxed.new wr #[.string d.a.name, .slice B1 M1 e1, .slice B2 M2 e2, .string d.b.name, .slice B3 M3 e3, .slice B4 M4 e4, .int .i64 d.line] 100
          have hx1 := hx.step hbd.bel
          have hsa1 := hsa.below hbd.bel (Nat.le_refl _)
          have hsb1 := hsb.below hbd.bel (Nat.le_refl _)
          have q0 := cell_alloc_l (.cells #[.string d.a.name, .slice B1 M1 e1, .slice B2 M2 e2, .string d.b.name, .slice B3 M3 e3, .slice B4 M4 e4, .int .i64 d.line] 100) (hx.get 1 0 (v := .string p.name) rfl rfl)
          have q1 := cell_alloc_l (.cells #[.string d.a.name, .slice B1 M1 e1, .slice B2 M2 e2, .string d.b.name, .slice B3 M3 e3, .slice B4 M4 e4, .int .i64 d.line] 100) (hx.get 1 1 (v := .int .i64 p.line) rfl rfl)
          have q2 := cell_alloc_l (.cells #[.string d.a.name, .slice B1 M1 e1, .slice B2 M2 e2, .string d.b.name, .slice B3 M3 e3, .slice B4 M4 e4, .int .i64 d.line] 100) (hx.get 1 2 (v := .slice a1 n1 k1) rfl rfl)
          have q3 := cell_alloc_l (.cells #[.string d.a.name, .slice B1 M1 e1, .slice B2 M2 e2, .string d.b.name, .slice B3 M3 e3, .slice B4 M4 e4, .int .i64 d.line] 100) (hx.get 1 3 (v := .slice a2 n2 k2) rfl rfl)
          have q4 := cell_alloc_l (.cells #[.string d.a.name, .slice B1 M1 e1, .slice B2 M2 e2, .string d.b.name, .slice B3 M3 e3, .slice B4 M4 e4, .int .i64 d.line] 100) (hx.get 1 4 (v := .slice a3 n3 k3) rfl rfl)
          have q5 := cell_alloc_l (.cells #[.string d.a.name, .slice B1 M1 e1, .slice B2 M2 e2, .string d.b.name, .slice B3 M3 e3, .slice B4 M4 e4, .int .i64 d.line] 100) (hx.get 1 5 (v := .slice a4 n4 k4) rfl rfl)
          have q6 := cell_alloc_l (.cells #[.string d.a.name, .slice B1 M1 e1, .slice B2 M2 e2, .string d.b.name, .slice B3 M3 e3, .slice B4 M4 e4, .int .i64 d.line] 100) (hx.get 1 6 (v := .slice (some ⟨b, off, none⟩) n5 k5) rfl rfl)
          have q7 := cell_alloc_l (.cells #[.string d.a.name, .slice B1 M1 e1, .slice B2 M2 e2, .string d.b.name, .slice B3 M3 e3, .slice B4 M4 e4, .int .i64 d.line] 100) (hx.get 1 7 (v := .slice a6 n6 k6) rfl rfl)
          generalize hw1 : wr.alloc (.cells #[.string d.a.name, .slice B1 M1 e1, .slice B2 M2 e2, .string d.b.name, .slice B3 M3 e3, .slice B4 M4 e4, .int .i64 d.line] 100) = w1 at hbd hx1 hsa1 hsb1
          have HW1 := Lib.hid hw1
          have HBD := Lib.hid hbd
          have HX1 := Lib.hid hx1
          have HSA := Lib.hid hsa1
          have HSB := Lib.hid hsb1
          obtain ⟨c, hc⟩ : ∃ c, settCode p d.a.sets = c := ⟨_, rfl⟩
          have HC := Lib.hid hc
          clear hx hdd hkl hbd hx1 hsa hsb hsa1 hsb1 hw1 hc hwf HX
          go_wp2_with fail
          rw [HW1.out]
          refine (settingsCode_is _ _ _ _ _ _ _ _ _ p d.a (HP.out.below HX1.out.bel (Nat.le_refl _)) HSA.out c HC.out).mono ?_
          rintro e w2 ⟨rfl, hb2⟩
          have HX2 := Lib.hid (HX1.out.step hb2)
          have HB2 := Lib.hid (HBD.out.step hb2)
          have HSB2 := Lib.hid (HSB.out.below hb2 (Nat.le_refl _))
          clear hb2 q0 q1 q2 q3 q4 q5 q6 q7 d0 d1 d2 d3 d4 d5 d6
          have t6 := HB2.out.get 6 (v := .int .i64 d.line) rfl
          have z0 := HX2.out.get 2 0 (v := .int .u8 0) rfl rfl
          have z1 := HX2.out.get 2 1 (v := .int .i64 0) rfl rfl
          have g0 := HX2.out.free 2 0 rfl
          have g1 := HX2.out.free 2 1 rfl
          by_cases hc0 : c = 0
          · subst hc0
            have t3 := HB2.out.get 3 (v := .string d.b.name) rfl
            cases hnm : eqS d.b.name noneS with
            | true =>
              have hnn := eqS_none hnm
              rw [hnn] at t3
              have HPK := Lib.hid (show (conProb x p (nth p.cons k)).1 = 0 by rw [HDD.out]; unfold conProb; rw [if_pos HC.out, hnm]; rfl)
              have hn : Hid (∀ j, j < k + 1 → (conProb x p (nth p.cons j)).1 = 0) := Lib.hid (fun j hj => by
                by_cases e : j = k
                · rw [e]; exact HPK.out
                · exact hall.out j (by omega))
              clear hnm hnn
              go_wp2
              go_roundw
              case rel => exact ⟨k + 1, by omega, by go_num, hn, HX2.out⟩
              case measure => simp [intOf]; omega
            | false =>
              obtain ⟨f1, f2, f3⟩ := ne_none hnm
              have t4 := HB2.out.get 4 (v := .slice B3 M3 e3) rfl
              have t5 := HB2.out.get 5 (v := .slice B4 M4 e4) rfl
              have x0 := HX2.out.get0 0 (v := .slice A1 L1 c1) rfl rfl
              have x1 := HX2.out.get0 1 (v := .slice A2 L2 c2) rfl rfl
              obtain ⟨q, hq⟩ : ∃ q, withCode x d.b = q := ⟨_, rfl⟩
              have HQ := Lib.hid hq
              have HPK := Lib.hid (show (conProb x p (nth p.cons k)).1 = q by rw [HDD.out]; unfold conProb; rw [if_pos HC.out, hnm]; exact hq)
              clear hq hnm
              go_wp2_with fail
              refine (withCode_is _ _ _ _ _ x d.b (HR.out.below HX2.out.bel (Nat.le_refl _)) HSB2.out q HQ.out).mono ?_
              rintro e w3 ⟨rfl, hb3⟩
              have HX3 := Lib.hid (HX2.out.step hb3)
              have HB3 := Lib.hid (HB2.out.step hb3)
              clear hb3 t3 t4 t5 t6 x0 x1 z0 z1 g0 g1 f1 f2 f3
              by_cases hq0 : q = 0
              · subst hq0
                have hn : Hid (∀ j, j < k + 1 → (conProb x p (nth p.cons j)).1 = 0) := Lib.hid (fun j hj => by
                  by_cases e : j = k
                  · rw [e]; exact HPK.out
                  · exact hall.out j (by omega))
                go_wp2
                go_roundw
                case rel => exact ⟨k + 1, by omega, by go_num, hn, HX3.out⟩
                case measure => simp [intOf]; omega
              · obtain ⟨f1, f2⟩ := int_ne hq0
                have HE := Lib.hid (show rr = (q, d.line) by rw [← HRR.out, ← HDD.out]; exact ruleProb_con HD.out HKL.out hall.out HPK.out hq0)
                clear hq0
                have t6 := HB3.out.get 6 (v := .int .i64 d.line) rfl
                have z0 := HX3.out.get 2 0 (v := .int .u8 0) rfl rfl
                have z1 := HX3.out.get 2 1 (v := .int .i64 0) rfl rfl
                have g0 := HX3.out.free 2 0 rfl
                have g1 := HX3.out.free 2 1 rfl
                go_wp2
                refine bodyPost_ret (v := .agg #[.int .u8 q, .int .i64 d.line]) (by simp [results, Try.results37, go_sem, World.cell?_setCell_same', z0, z1]) rfl ⟨agg_ret HE.out, ((HX3.out.bel.setCell (by show w.heap.size ≤ w.heap.size + 1 + 1; omega) _).setCell (by show w.heap.size ≤ w.heap.size + 1 + 1; omega) _)⟩
          · obtain ⟨f1, f2⟩ := int_ne hc0
            have HE := Lib.hid (show rr = (c, d.line) by
              rw [← HRR.out, ← HDD.out]
              exact ruleProb_con HD.out HKL.out hall.out (by rw [HDD.out]; unfold conProb; rw [HC.out, if_neg hc0]) hc0)
            clear hc0
            go_wp2
            refine bodyPost_ret (v := .agg #[.int .u8 c, .int .i64 d.line]) (by simp [results, Try.results37, go_sem, World.cell?_setCell_same', z0, z1]) rfl ⟨agg_ret HE.out, ((HX2.out.bel.setCell (by show w.heap.size ≤ w.heap.size + 1 + 1; omega) _).setCell (by show w.heap.size ≤ w.heap.size + 1 + 1; omega) _)⟩
        · obtain rfl : n5 = k := by omega
          have HE := Lib.hid (show rr = (0, 0) by rw [← HRR.out]; exact ruleProb_no HD.out (fun j hj => hall.out j (by rw [HLC.out]; exact hj)))
          have z0 := HX.out.get 2 0 (v := .int .u8 0) rfl rfl
          have z1 := HX.out.get 2 1 (v := .int .i64 0) rfl rfl
          have g0 := HX.out.free 2 0 rfl
          have g1 := HX.out.free 2 1 rfl
          clear hx
          go_wp2
          refine bodyPost_ret (v := .agg #[.int .u8 0, .int .i64 0]) (by simp [results, Try.results37, go_sem, World.cell?_setCell_same', z0, z1]) rfl ⟨agg_ret HE.out, ((HX.out.bel.setCell (by show w.heap.size ≤ w.heap.size + 1 + 1; omega) _).setCell (by show w.heap.size ≤ w.heap.size + 1 + 1; omega) _)⟩
end Go.Proofs.Ytggejmojbebhfaa.Rc
