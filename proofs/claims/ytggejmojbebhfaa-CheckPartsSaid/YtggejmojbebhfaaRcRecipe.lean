/- A recipe's first problem. -/
import Derived.Test.YtggejmojbebhfaaRcRule
import Derived.Test.YtggejmojbebhfaaRcPref
namespace Go.Proofs.Ytggejmojbebhfaa.Rc
open Go.RowKit

theorem recProb_many {x : Rec} (h : 24 < x.pkgs.length) : recProb x = (1, (nth x.pkgs 24).line) := by unfold recProb; rw [if_pos h]
theorem recProb_prefs {x : Rec} (h : ¬ 24 < x.pkgs.length) (h2 : 8 < x.prefs.length) : recProb x = (1, (nth x.prefs 8).line) := by unfold recProb; rw [if_neg h, if_pos h2]
theorem recProb_one {x : Rec} (h : ¬ 24 < x.pkgs.length) (h2 : ¬ 8 < x.prefs.length) : recProb x = recProb1 x := by unfold recProb; rw [if_neg h, if_neg h2]
theorem recProb1_hit {x : Rec} {k : Nat} {c : Int} (hk : k < x.pkgs.length) (h0 : ∀ j, j < k → pkgCode x j = 0) (hc : pkgCode x k = c) (hn : ¬ c = 0) : recProb1 x = (c, (nth x.pkgs k).line) := by
  have hr : k < (List.range x.pkgs.length).length := by simpa using hk
  have h1 : (pkgProb x (nth (List.range x.pkgs.length) k)).1 ≠ 0 := by rw [nth_range hk]; show pkgCode x k ≠ 0; rw [hc]; exact hn
  have e := firstP_hit (f := pkgProb x) hr (fun j hj => by rw [nth_range (by omega)]; exact h0 j hj) h1
  unfold recProb1
  rw [e, if_pos h1, nth_range hk]
  exact Prod.ext hc rfl
theorem recProb1_no {x : Rec} (h : ∀ j, j < x.pkgs.length → pkgCode x j = 0) : recProb1 x = recProb2 x := by
  have e := firstP_miss (f := pkgProb x) (l := List.range x.pkgs.length) (fun j hj => by rw [List.length_range] at hj; rw [nth_range hj]; exact h j hj)
  unfold recProb1
  rw [e, if_neg (by simp)]
theorem recProb2_hit {x : Rec} {k : Nat} {r : Int × Int} (hk : k < x.pkgs.length) (h0 : ∀ j, j < k → (ruleProb x (nth x.pkgs j)).1 = 0) (hc : ruleProb x (nth x.pkgs k) = r) (hn : ¬ r.1 = 0) : recProb2 x = r := by
  have h1 : (ruleProb x (nth x.pkgs k)).1 ≠ 0 := by rw [hc]; exact hn
  have e := firstP_hit hk h0 h1
  unfold recProb2
  rw [e, if_pos h1, hc]
theorem recProb2_no {x : Rec} (h : ∀ j, j < x.pkgs.length → (ruleProb x (nth x.pkgs j)).1 = 0) : recProb2 x = recProb3 x := by
  unfold recProb2
  rw [firstP_miss h, if_neg (by simp)]
theorem recProb3_hit {x : Rec} {k : Nat} (hk : k < x.prefs.length) (h0 : ∀ j, j < k → preferB x j = true) (hc : preferB x k = false) : recProb3 x = (10, (nth x.prefs k).line) := by
  have hr : k < (List.range x.prefs.length).length := by simpa using hk
  have h1 : (prefProb x (nth (List.range x.prefs.length) k)).1 ≠ 0 := by rw [nth_range hk]; unfold prefProb; rw [hc]; simp
  have e := firstP_hit (f := prefProb x) hr (fun j hj => by rw [nth_range (by omega)]; unfold prefProb; rw [h0 j hj]; rfl) h1
  unfold recProb3
  rw [e, nth_range hk]
  unfold prefProb; rw [hc]; rfl
theorem recProb3_no {x : Rec} (h : ∀ j, j < x.prefs.length → preferB x j = true) : recProb3 x = (0, 0) :=
  firstP_miss (f := prefProb x) (l := List.range x.prefs.length) (fun j hj => by rw [List.length_range] at hj; rw [nth_range hj]; unfold prefProb; rw [h j hj]; rfl)
theorem ruleProblem_is (w : World) (v1 v2 u1 u2 u3 u4 u5 u6 : Value) (x : Rec) (p : Pkg) (h : IsRec w v1 v2 x) (hp : IsPkg w u1 u2 u3 u4 u5 u6 p) (r : Int × Int) (hr : ruleProb x p = r) :
    Calls Try.prog 37 #[.agg #[v1, v2], .agg #[.string p.name, .int .i64 p.line, u1, u2, u3, u4, u5, u6]] w fun e w' => e = .returned (.agg #[.int .u8 r.1, .int .i64 r.2]) ∧ Below w.heap.size w w' := by subst hr; exact ruleProblem_any w v1 v2 u1 u2 u3 u4 u5 u6 x p h hp

set_option maxRecDepth 100000 in
set_option maxHeartbeats 6400000 in
theorem recipe_any (w : World) (v1 v2 : Value) (x : Rec) (h : IsRec w v1 v2 x) :
    Calls Try.prog 11 #[.agg #[v1, v2]] w (GivesP (recProb x) w) := by
  obtain ⟨A1, L1, c1, A2, L2, c2, rfl, rfl, hL1, hL2, hc1, hm1, hc2, hm2⟩ := rec_box h
  have HX := Lib.hid (Bxs.two w #[.slice A1 L1 c1, .slice A2 L2 c2] 25 #[.int .u8 0, .int .i64 0] 29)
  have HR := Lib.hid h
  have HL1 := Lib.hid hL1
  have HL2 := Lib.hid hL2
  obtain ⟨rr, hrr⟩ : ∃ r, recProb x = r := ⟨_, rfl⟩
  rw [hrr]
  have HRR := Lib.hid hrr
  clear h hL1 hL2 hrr
  by_cases hm : 24 < L1
  · have hx := HX.out
    obtain ⟨b, off, e1, e2, e3, e4, e5, e6, rfl, hb, hp, p0, p1, p2, p3, p4, p5, p6, p7⟩ := pkg_at (HR.out.pkgs.below hx.bel (Nat.le_refl _)) hm
    have HE := Lib.hid (show rr = (1, (nth x.pkgs 24).line) by rw [← HRR.out]; exact recProb_many (by rw [← HL1.out]; exact hm))
    have k0 : (24 : Int) < (L1 : Int) := by omega
    have z0 := HX.out.get 1 0 (v := .int .u8 0) rfl rfl
    have z1 := HX.out.get 1 1 (v := .int .i64 0) rfl rfl
    have g0 := HX.out.free 1 0 rfl
    have g1 := HX.out.free 1 1 rfl
    clear hx hp p0 p2 p3 p4 p5 p6 p7
    go_enter Try.func11, Try.ntmps11
    go_wp2
    refine bodyPost_ret (v := .agg #[.int .u8 1, .int .i64 (nth x.pkgs 24).line]) (by simp [results, Try.results11, go_sem]) rfl ⟨agg_ret HE.out, (below_alloc' w _).alloc (by simp) _⟩
  · by_cases hm2 : 8 < L2
    · have hx := HX.out
      obtain ⟨b, off, u, rfl, hbl, hs, hr, hw, p0, p1, p2⟩ := pref_at (HR.out.prefs.below hx.bel (Nat.le_refl _)) hm2
      have HE := Lib.hid (show rr = (1, (nth x.prefs 8).line) by rw [← HRR.out]; exact recProb_prefs (by rw [← HL1.out]; exact hm) (by rw [← HL2.out]; exact hm2))
      have k0 : ¬ (24 : Int) < (L1 : Int) := by omega
      have k1 : (8 : Int) < (L2 : Int) := by omega
      have z0 := HX.out.get 1 0 (v := .int .u8 0) rfl rfl
      have z1 := HX.out.get 1 1 (v := .int .i64 0) rfl rfl
      have g0 := HX.out.free 1 0 rfl
      have g1 := HX.out.free 1 1 rfl
      clear hx hs hr hw p0 p1
      go_enter Try.func11, Try.ntmps11
      go_wp2
      refine bodyPost_ret (v := .agg #[.int .u8 1, .int .i64 (nth x.prefs 8).line]) (by simp [results, Try.results11, go_sem]) rfl ⟨agg_ret HE.out, (below_alloc' w _).alloc (by simp) _⟩
    · have k0 : ¬ (24 : Int) < (L1 : Int) := by omega
      have k1 : ¬ (8 : Int) < (L2 : Int) := by omega
      have HR1 := Lib.hid (show rr = recProb1 x by rw [← HRR.out]; exact recProb_one (by rw [← HL1.out]; exact hm) (by rw [← HL2.out]; exact hm2))
      clear HRR
      go_enter Try.func11, Try.ntmps11
      go_wp2
      go_loopw [34] (fun i wr => ∃ k : Nat, k ≤ L1 ∧ i = .int .i64 k ∧ Hid (∀ j, j < k → pkgCode x j = 0) ∧ Bxs w wr [(#[.slice A1 L1 c1, .slice A2 L2 c2], 25), (#[.int .u8 0, .int .i64 0], 29)]) (fun i _ => L1 - (intOf i).toNat)
      case atStart => exact ⟨0, Nat.zero_le _, rfl, Lib.hid (fun j hj => by omega), HX.out⟩
      case round =>
        clear HX
        obtain ⟨k, hk, rfl, hall, hx⟩ := hrel
        have HX := Lib.hid hx
        by_cases hlt : k < L1
        · obtain ⟨b, off, e1, e2, e3, e4, e5, e6, rfl, hb, hp, p0, p1, p2, p3, p4, p5, p6, p7⟩ := pkg_at (HR.out.pkgs.below hx.bel (Nat.le_refl _)) hlt
          obtain ⟨⟨a1, n1, k1, rfl⟩, ⟨a2, n2, k2, rfl⟩, ⟨a3, n3, k3, rfl⟩, ⟨a4, n4, k4, rfl⟩, ⟨a5, n5, k5, rfl⟩, ⟨a6, n6, k6, rfl⟩⟩ := hp.sls
          have hkl : k < x.pkgs.length := by rw [← HL1.out]; exact hlt
          generalize hpp : nth x.pkgs k = p at hp p0 p1 p2 p3 p4 p5 p6 p7
          have HPP := Lib.hid hpp
          have HKL := Lib.hid hkl
          have hbd := Boxed.new wr #[.string p.name, .int .i64 p.line, .slice a1 n1 k1, .slice a2 n2 k2, .slice a3 n3 k3, .slice a4 n4 k4, .slice a5 n5 k5, .slice a6 n6 k6] 45
          have hx1 := hx.step hbd.bel
          have hp1 := hp.below hbd.bel (Nat.le_refl _)
          have q0 := cell_alloc_l (.cells #[.string p.name, .int .i64 p.line, .slice a1 n1 k1, .slice a2 n2 k2, .slice a3 n3 k3, .slice a4 n4 k4, .slice a5 n5 k5, .slice a6 n6 k6] 45) (hx.get0 0 (v := .slice (some ⟨b, off, none⟩) L1 c1) rfl rfl)
          have q1 := cell_alloc_l (.cells #[.string p.name, .int .i64 p.line, .slice a1 n1 k1, .slice a2 n2 k2, .slice a3 n3 k3, .slice a4 n4 k4, .slice a5 n5 k5, .slice a6 n6 k6] 45) (hx.get0 1 (v := .slice A2 L2 c2) rfl rfl)
          generalize hw1 : wr.alloc (.cells #[.string p.name, .int .i64 p.line, .slice a1 n1 k1, .slice a2 n2 k2, .slice a3 n3 k3, .slice a4 n4 k4, .slice a5 n5 k5, .slice a6 n6 k6] 45) = w1 at hbd hx1 hp1
          have HW1 := Lib.hid hw1
          have HBD := Lib.hid hbd
          have HX1 := Lib.hid hx1
          have HP1 := Lib.hid hp1
          obtain ⟨c, hc⟩ : ∃ c, pkgCode x k = c := ⟨_, rfl⟩
          have HC := Lib.hid hc
          clear hx hpp hkl hbd hx1 hp hp1 hw1 hc HX
          go_wp2_with fail
          rw [HW1.out]
          refine (packageCode_is _ _ _ x k (HR.out.below HX1.out.bel (Nat.le_refl _)) HKL.out c HC.out).mono ?_
          rintro e w2 ⟨rfl, hb2⟩
          have HX2 := Lib.hid (HX1.out.step hb2)
          have HB2 := Lib.hid (HBD.out.step hb2)
          clear hb2 q0 q1 p0 p1 p2 p3 p4 p5 p6 p7
          by_cases hc0 : c = 0
          · subst hc0
            have hn : Hid (∀ j, j < k + 1 → pkgCode x j = 0) := Lib.hid (fun j hj => by
              by_cases e : j = k
              · rw [e]; exact HC.out
              · exact hall.out j (by omega))
            go_wp2
            go_roundw
            case rel => exact ⟨k + 1, by omega, by go_num, hn, HX2.out⟩
            case measure => simp [intOf]; omega
          · obtain ⟨f1, f2⟩ := int_ne hc0
            have HE := Lib.hid (show rr = (c, p.line) by rw [HR1.out, ← HPP.out]; exact recProb1_hit HKL.out hall.out HC.out hc0)
            have t1 := HB2.out.get 1 (v := .int .i64 p.line) rfl
            clear hc0
            have z0 := HX2.out.get 1 0 (v := .int .u8 0) rfl rfl
            have z1 := HX2.out.get 1 1 (v := .int .i64 0) rfl rfl
            have g0 := HX2.out.free 1 0 rfl
            have g1 := HX2.out.free 1 1 rfl
            go_wp2
            refine bodyPost_ret (v := .agg #[.int .u8 c, .int .i64 p.line]) (by simp [results, Try.results11, go_sem, World.cell?_setCell_same', z0, z1]) rfl ⟨agg_ret HE.out, ((HX2.out.bel.setCell (by show w.heap.size ≤ w.heap.size + 1; omega) _).setCell (by show w.heap.size ≤ w.heap.size + 1; omega) _)⟩
        · obtain rfl : L1 = k := by omega
          have HR2 := Lib.hid (show rr = recProb2 x by rw [HR1.out]; exact recProb1_no (fun j hj => hall.out j (by rw [HL1.out]; exact hj)))
          have x0 := hx.get0 0 (v := .slice A1 L1 c1) rfl rfl
          clear hx
          go_wp2
          clear x0
          go_loopw [52] (fun i wr => ∃ k : Nat, k ≤ L1 ∧ i = .int .i64 k ∧ Hid (∀ j, j < k → (ruleProb x (nth x.pkgs j)).1 = 0) ∧ Bxs w wr [(#[.slice A1 L1 c1, .slice A2 L2 c2], 25), (#[.int .u8 0, .int .i64 0], 29)]) (fun i _ => L1 - (intOf i).toNat)
          case atStart => exact ⟨0, Nat.zero_le _, rfl, Lib.hid (fun j hj => by omega), HX.out⟩
          case round =>
            clear HX hall
            obtain ⟨k, hk, rfl, hall, hx⟩ := hrel
            have HX := Lib.hid hx
            by_cases hlt : k < L1
            · obtain ⟨b, off, e1, e2, e3, e4, e5, e6, rfl, hb, hp, p0, p1, p2, p3, p4, p5, p6, p7⟩ := pkg_at (HR.out.pkgs.below hx.bel (Nat.le_refl _)) hlt
              obtain ⟨⟨a1, n1, k1, rfl⟩, ⟨a2, n2, k2, rfl⟩, ⟨a3, n3, k3, rfl⟩, ⟨a4, n4, k4, rfl⟩, ⟨a5, n5, k5, rfl⟩, ⟨a6, n6, k6, rfl⟩⟩ := hp.sls
              have hkl : k < x.pkgs.length := by rw [← HL1.out]; exact hlt
              generalize hpp : nth x.pkgs k = p at hp p0 p1 p2 p3 p4 p5 p6 p7
              have HPP := Lib.hid hpp
              have HKL := Lib.hid hkl
              have hbd := Boxed.new wr #[.string p.name, .int .i64 p.line, .slice a1 n1 k1, .slice a2 n2 k2, .slice a3 n3 k3, .slice a4 n4 k4, .slice a5 n5 k5, .slice a6 n6 k6] 45
              have hx1 := hx.step hbd.bel
              have hp1 := hp.below hbd.bel (Nat.le_refl _)
              have q0 := cell_alloc_l (.cells #[.string p.name, .int .i64 p.line, .slice a1 n1 k1, .slice a2 n2 k2, .slice a3 n3 k3, .slice a4 n4 k4, .slice a5 n5 k5, .slice a6 n6 k6] 45) (hx.get0 0 (v := .slice (some ⟨b, off, none⟩) L1 c1) rfl rfl)
              have q1 := cell_alloc_l (.cells #[.string p.name, .int .i64 p.line, .slice a1 n1 k1, .slice a2 n2 k2, .slice a3 n3 k3, .slice a4 n4 k4, .slice a5 n5 k5, .slice a6 n6 k6] 45) (hx.get0 1 (v := .slice A2 L2 c2) rfl rfl)
              generalize hw1 : wr.alloc (.cells #[.string p.name, .int .i64 p.line, .slice a1 n1 k1, .slice a2 n2 k2, .slice a3 n3 k3, .slice a4 n4 k4, .slice a5 n5 k5, .slice a6 n6 k6] 45) = w1 at hbd hx1 hp1
              have HW1 := Lib.hid hw1
              have HBD := Lib.hid hbd
              have HX1 := Lib.hid hx1
              have HP1 := Lib.hid hp1
              obtain ⟨r, hr⟩ : ∃ r, ruleProb x p = r := ⟨_, rfl⟩
              have HC := Lib.hid hr
              clear hx hpp hkl hbd hx1 hp hp1 hw1 hr HX
              go_wp2_with fail
              rw [HW1.out]
              refine (ruleProblem_is _ _ _ _ _ _ _ _ _ x p (HR.out.below HX1.out.bel (Nat.le_refl _)) HP1.out r HC.out).mono ?_
              rintro e w2 ⟨rfl, hb2⟩
              have HX2 := Lib.hid ((HX1.out.step hb2).alloc (.cells #[.int .u8 r.1, .int .i64 r.2] 29))
              have hbr := Boxed.new w2 #[.int .u8 r.1, .int .i64 r.2] 29
              have t0 := hbr.get 0 (v := .int .u8 r.1) rfl
              have t1 := hbr.get 1 (v := .int .i64 r.2) rfl
              clear hb2 q0 q1 p0 p1 p2 p3 p4 p5 p6 p7 hbr
              obtain ⟨rc, rl⟩ := r
              by_cases hc0 : rc = 0
              · subst hc0
                have hn : Hid (∀ j, j < k + 1 → (ruleProb x (nth x.pkgs j)).1 = 0) := Lib.hid (fun j hj => by
                  by_cases e : j = k
                  · rw [e, HPP.out, HC.out]
                  · exact hall.out j (by omega))
                go_wp2
                go_roundw
                case rel => exact ⟨k + 1, by omega, by go_num, hn, HX2.out⟩
                case measure => simp [intOf]; omega
              · obtain ⟨f1, f2⟩ := int_ne hc0
                have HE := Lib.hid (show rr = (rc, rl) by rw [HR2.out]; exact recProb2_hit HKL.out hall.out (by rw [HPP.out]; exact HC.out) hc0)
                clear hc0
                have z0 := HX2.out.get 1 0 (v := .int .u8 0) rfl rfl
                have z1 := HX2.out.get 1 1 (v := .int .i64 0) rfl rfl
                have g0 := HX2.out.free 1 0 rfl
                have g1 := HX2.out.free 1 1 rfl
                go_wp2
                refine bodyPost_ret (v := .agg #[.int .u8 rc, .int .i64 rl]) (by simp [results, Try.results11, go_sem, World.cell?_setCell_same', z0, z1]) rfl ⟨agg_ret HE.out, ((HX2.out.bel.setCell (by show w.heap.size ≤ w.heap.size + 1; omega) _).setCell (by show w.heap.size ≤ w.heap.size + 1; omega) _)⟩
            · obtain rfl : L1 = k := by omega
              have HR3 := Lib.hid (show rr = recProb3 x by rw [HR2.out]; exact recProb2_no (fun j hj => hall.out j (by rw [HL1.out]; exact hj)))
              have x1 := hx.get0 1 (v := .slice A2 L2 c2) rfl rfl
              clear hx
              go_wp2
              clear x1
              go_loopw [67] (fun i wr => ∃ k : Nat, k ≤ L2 ∧ i = .int .i64 k ∧ Hid (∀ j, j < k → preferB x j = true) ∧ Bxs w wr [(#[.slice A1 L1 c1, .slice A2 L2 c2], 25), (#[.int .u8 0, .int .i64 0], 29)]) (fun i _ => L2 - (intOf i).toNat)
              case atStart => exact ⟨0, Nat.zero_le _, rfl, Lib.hid (fun j hj => by omega), HX.out⟩
              case round =>
                clear HX hall
                obtain ⟨k, hk, rfl, hall, hx⟩ := hrel
                have HX := Lib.hid hx
                by_cases hlt : k < L2
                · obtain ⟨b, off, u, rfl, hb, hs, hr, hw, p0, p1, p2⟩ := pref_at (HR.out.prefs.below hx.bel (Nat.le_refl _)) hlt
                  obtain ⟨B, M, d, rfl⟩ := hr.sl
                  have hkl : k < x.prefs.length := by rw [← HL2.out]; exact hlt
                  generalize hff : nth x.prefs k = f at hs hr hw p0 p1 p2
                  have HFF := Lib.hid hff
                  have HKL := Lib.hid hkl
                  have hbd := Boxed.new wr #[.string f.virt, .slice B M d, .int .i64 f.line] 63
                  have hx1 := hx.step hbd.bel
                  have q0 := cell_alloc_l (.cells #[.string f.virt, .slice B M d, .int .i64 f.line] 63) (hx.get0 0 (v := .slice A1 L1 c1) rfl rfl)
                  have q1 := cell_alloc_l (.cells #[.string f.virt, .slice B M d, .int .i64 f.line] 63) (hx.get0 1 (v := .slice (some ⟨b, off, none⟩) L2 c2) rfl rfl)
                  generalize hw1 : wr.alloc (.cells #[.string f.virt, .slice B M d, .int .i64 f.line] 63) = w1 at hbd hx1
                  have HW1 := Lib.hid hw1
                  have HBD := Lib.hid hbd
                  have HX1 := Lib.hid hx1
                  obtain ⟨q, hq⟩ : ∃ q, preferB x k = q := ⟨_, rfl⟩
                  have HQ := Lib.hid hq
                  clear hx hff hkl hbd hx1 hs hr hw hw1 hq HX
                  go_wp2_with fail
                  rw [HW1.out]
                  refine (preferRight_is _ _ _ x k (HR.out.below HX1.out.bel (Nat.le_refl _)) HKL.out q HQ.out).mono ?_
                  rintro e w2 ⟨rfl, hb2⟩
                  have HX2 := Lib.hid (HX1.out.step hb2)
                  have HB2 := Lib.hid (HBD.out.step hb2)
                  clear hb2 q0 q1 p0 p1 p2
                  cases q with
                  | true =>
                    have hn : Hid (∀ j, j < k + 1 → preferB x j = true) := Lib.hid (fun j hj => by
                      by_cases e : j = k
                      · rw [e]; exact HQ.out
                      · exact hall.out j (by omega))
                    go_wp2
                    go_roundw
                    case rel => exact ⟨k + 1, by omega, by go_num, hn, HX2.out⟩
                    case measure => simp [intOf]; omega
                  | false =>
                    have HE := Lib.hid (show rr = (10, f.line) by rw [HR3.out, ← HFF.out]; exact recProb3_hit HKL.out hall.out HQ.out)
                    have t2 := HB2.out.get 2 (v := .int .i64 f.line) rfl
                    have z0 := HX2.out.get 1 0 (v := .int .u8 0) rfl rfl
                    have z1 := HX2.out.get 1 1 (v := .int .i64 0) rfl rfl
                    have g0 := HX2.out.free 1 0 rfl
                    have g1 := HX2.out.free 1 1 rfl
                    go_wp2
                    refine bodyPost_ret (v := .agg #[.int .u8 10, .int .i64 f.line]) (by simp [results, Try.results11, go_sem, World.cell?_setCell_same', z0, z1]) rfl ⟨agg_ret HE.out, ((HX2.out.bel.setCell (by show w.heap.size ≤ w.heap.size + 1; omega) _).setCell (by show w.heap.size ≤ w.heap.size + 1; omega) _)⟩
                · obtain rfl : L2 = k := by omega
                  have HE := Lib.hid (show rr = (0, 0) by rw [HR3.out]; exact recProb3_no (fun j hj => hall.out j (by rw [HL2.out]; exact hj)))
                  have z0 := HX.out.get 1 0 (v := .int .u8 0) rfl rfl
                  have z1 := HX.out.get 1 1 (v := .int .i64 0) rfl rfl
                  have g0 := HX.out.free 1 0 rfl
                  have g1 := HX.out.free 1 1 rfl
                  clear hx
                  go_wp2
                  refine bodyPost_ret (v := .agg #[.int .u8 0, .int .i64 0]) (by simp [results, Try.results11, go_sem, World.cell?_setCell_same', z0, z1]) rfl ⟨agg_ret HE.out, ((HX.out.bel.setCell (by show w.heap.size ≤ w.heap.size + 1; omega) _).setCell (by show w.heap.size ≤ w.heap.size + 1; omega) _)⟩
theorem recipe_is (w : World) (v1 v2 : Value) (x : Rec) (h : IsRec w v1 v2 x) (r : Int × Int) (hr : recProb x = r) :
    Calls Try.prog 11 #[.agg #[v1, v2]] w fun e w' => e = .returned (.agg #[.int .u8 r.1, .int .i64 r.2]) ∧ Below w.heap.size w w' := by subst hr; exact recipe_any w v1 v2 x h
end Go.Proofs.Ytggejmojbebhfaa.Rc
