/- NeedsMore's walk. -/
import Derived.Test.YtggejmojbebhfaaNdHas
import Derived.Test.YtggejmojbebhfaaNdGreat
import Derived.Test.YtggejmojbebhfaaRcOpen
namespace Go.Proofs.Ytggejmojbebhfaa.Rc
open Go.RowKit Go.Sort

set_option maxRecDepth 100000 in
set_option maxHeartbeats 3200000 in
theorem needsMore_any (w : World) (v1 v2 vq vp : Value) (x : Rec) (q p : List Root) (h : IsRec w v1 v2 x) (hq : RowD rootK w vq q) (hp : RowD rootK w vp p) :
    Calls Try.prog 7 #[.agg #[v1, v2], .agg #[vq], .agg #[vp]] w fun e w' => e = .returned (.bool true) ∧ Below w.heap.size w w' := by
  obtain ⟨a1, n1, k1, rfl⟩ := h.pkgs.sl
  obtain ⟨a2, n2, k2, rfl⟩ := h.prefs.sl
  obtain ⟨a3, n3, k3, rfl⟩ := hq.sl
  obtain ⟨a4, n4, k4, rfl⟩ := hp.sl
  have hbx := Bxs.three w #[.slice a1 n1 k1, .slice a2 n2 k2] 25 #[.slice a3 n3 k3] 37 #[.slice a4 n4 k4] 37
  have HX := Lib.hid hbx
  have HR := Lib.hid h
  have HQ := Lib.hid hq
  have HP := Lib.hid hp
  clear h hq hp hbx
  go_enter Try.func7, Try.ntmps7
  go_wp2_with fail
  refine (great07_any _ _ _ x (HR.out.below HX.out.bel (Nat.le_refl _))).mono ?_
  rintro e w1 ⟨b, rfl, hs, hb⟩
  have HX1 := Lib.hid (HX.out.step hb)
  have HS1 := Lib.hid hs
  clear hb hs HX
  have x2 := HX1.out.get 1 0 (v := .slice a3 n3 k3) rfl rfl
  cases b with
  | true =>
    go_wp2_with fail
    refine (fixed10_any _).mono ?_
    rintro e w2 ⟨rfl, hb⟩
    have HB := Lib.hid (HX1.out.bel.trans (hb.mono HX1.out.bel.size))
    clear hb
    go_wp2
    go_ret
    exact ⟨rfl, HB.out⟩
  | false =>
    go_wp2_with fail
    refine (great08_any _ _ q (HQ.out.below HX1.out.bel (Nat.le_refl _))).mono ?_
    rintro e w2 ⟨b, rfl, hs, hb⟩
    have HX2 := Lib.hid (HX1.out.step hb)
    have HS2 := Lib.hid hs
    clear hb hs x2
    have x3 := HX2.out.get 2 0 (v := .slice a4 n4 k4) rfl rfl
    cases b with
    | true =>
      go_wp2_with fail
      refine (fixed10_any _).mono ?_
      rintro e w2 ⟨rfl, hb⟩
      have HB := Lib.hid (HX2.out.bel.trans (hb.mono HX2.out.bel.size))
      clear hb
      go_wp2
      go_ret
      exact ⟨rfl, HB.out⟩
    | false =>
      go_wp2_with fail
      refine (great08_any _ _ p (HP.out.below HX2.out.bel (Nat.le_refl _))).mono ?_
      rintro e w3 ⟨b, rfl, hs, hb⟩
      have HX3 := Lib.hid (HX2.out.step hb)
      have HS3 := Lib.hid hs
      clear hb hs x3
      cases b with
      | true =>
        go_wp2_with fail
        refine (fixed10_any _).mono ?_
        rintro e w2 ⟨rfl, hb⟩
        have HB := Lib.hid (HX3.out.bel.trans (hb.mono HX3.out.bel.size))
        clear hb
        go_wp2
        go_ret
        exact ⟨rfl, HB.out⟩
      | false =>
        have x0 := HX3.out.get0 0 (v := .slice a1 n1 k1) rfl rfl
        have x1 := HX3.out.get0 1 (v := .slice a2 n2 k2) rfl rfl
        have x2 := HX3.out.get 1 0 (v := .slice a3 n3 k3) rfl rfl
        have x3 := HX3.out.get 2 0 (v := .slice a4 n4 k4) rfl rfl
        have HL := Lib.hid (Nat.le_trans (HS1.out (by trivial)).pkgs (show 30 ≤ 1000 by omega))
        have HLQ := Lib.hid (HS2.out (by trivial)).len
        have HLP := Lib.hid (HS3.out (by trivial)).len
        go_wp2_with fail
        simp only [Nat.add_assoc, Nat.reduceAdd]
        go_region_held3 (fun w' => w'.cell? ⟨w.heap.size, 0, none⟩ = some (.slice a1 n1 k1) ∧ w'.cell? ⟨w.heap.size, 1, none⟩ = some (.slice a2 n2 k2) ∧ w'.cell? ⟨w.heap.size + 1, 0, none⟩ = some (.slice a3 n3 k3) ∧ w'.cell? ⟨w.heap.size + 2, 0, none⟩ = some (.slice a4 n4 k4)) (go_keep) ((first | (go_at_call 30; refine (closure_any _ _ _ _ x p (HR.out.below HX4.out.bel (Nat.le_refl _)) (HP.out.below HX4.out.bel (Nat.le_refl _)) HL.out).mono ?_; rintro e w5 ⟨A6, n6, k6, rfl, hown5, hb5⟩; have HX5 := Lib.hid (HX4.out.step hb5); have HO5 := Lib.hid (hown5.base HX4.out.bel.size); have HO45 := Lib.hid (HO4.out.below hb5); have u0 := HX5.out.get0 0 (v := .slice a1 n1 k1) rfl rfl; have u1 := HX5.out.get0 1 (v := .slice a2 n2 k2) rfl rfl; have u2 := HX5.out.get 1 0 (v := .slice a3 n3 k3) rfl rfl; have u3 := HX5.out.get 2 0 (v := .slice a4 n4 k4) rfl rfl; clear hb5 hown5) | (go_at_call 30; refine (closure_any _ _ _ _ x p (HR.out.below HX4.out.drew.bel (Nat.le_refl _)) (HP.out.below HX4.out.drew.bel (Nat.le_refl _)) HL.out).mono ?_; rintro e w5 ⟨A6, n6, k6, rfl, hown5, hb5⟩; have HX5 := Lib.hid (HX4.out.drew.step hb5); have HO5 := Lib.hid (hown5.base HX4.out.drew.bel.size); have HO45 := Lib.hid (HO4.out.drew.below hb5); have u0 := HX5.out.get0 0 (v := .slice a1 n1 k1) rfl rfl; have u1 := HX5.out.get0 1 (v := .slice a2 n2 k2) rfl rfl; have u2 := HX5.out.get 1 0 (v := .slice a3 n3 k3) rfl rfl; have u3 := HX5.out.get 2 0 (v := .slice a4 n4 k4) rfl rfl; clear hb5 hown5) | (go_at_call 30; refine (closure_any _ _ _ _ x q (HR.out.below HX3.out.bel (Nat.le_refl _)) (HQ.out.below HX3.out.bel (Nat.le_refl _)) HL.out).mono ?_; rintro e w4 ⟨A5, n5, k5, rfl, hown4, hb4⟩; have HX4 := Lib.hid (HX3.out.step hb4); have HO4 := Lib.hid (hown4.base HX3.out.bel.size); have o0 := HX4.out.get0 0 (v := .slice a1 n1 k1) rfl rfl; have o1 := HX4.out.get0 1 (v := .slice a2 n2 k2) rfl rfl; have o2 := HX4.out.get 1 0 (v := .slice a3 n3 k3) rfl rfl; have o3 := HX4.out.get 2 0 (v := .slice a4 n4 k4) rfl rfl; clear hb4 hown4) | (go_at_call 30; refine (closure_any _ _ _ _ x q (HR.out.below HX3.out.drew.bel (Nat.le_refl _)) (HQ.out.below HX3.out.drew.bel (Nat.le_refl _)) HL.out).mono ?_; rintro e w4 ⟨A5, n5, k5, rfl, hown4, hb4⟩; have HX4 := Lib.hid (HX3.out.drew.step hb4); have HO4 := Lib.hid (hown4.base HX3.out.drew.bel.size); have o0 := HX4.out.get0 0 (v := .slice a1 n1 k1) rfl rfl; have o1 := HX4.out.get0 1 (v := .slice a2 n2 k2) rfl rfl; have o2 := HX4.out.get 1 0 (v := .slice a3 n3 k3) rfl rfl; have o3 := HX4.out.get 2 0 (v := .slice a4 n4 k4) rfl rfl; clear hb4 hown4)))
        clear o0 o1 o2 o3 x0 x1 x2 x3 HX3 HX4 HO4
        go_wp2_with fail
        go_region_held3 (fun w' => w'.cell? ⟨w.heap.size, 0, none⟩ = some (.slice a1 n1 k1) ∧ w'.cell? ⟨w.heap.size, 1, none⟩ = some (.slice a2 n2 k2) ∧ w'.cell? ⟨w.heap.size + 1, 0, none⟩ = some (.slice a3 n3 k3) ∧ w'.cell? ⟨w.heap.size + 2, 0, none⟩ = some (.slice a4 n4 k4)) (go_keep) ((first | (refine step_app_row elemRoot rfl (.tmp 29) (.tmp 31) rfl rfl rfl rfl ((HX5.out.alloc (.cells #[] 75)).drew).bel (OwnK.empty w (base := w.heap.size) (X := w5.heap.size) (heap_alloc_new w5 _) HX5.out.bel.size) HQ.out (by have := HLQ.out; simp; omega) ((HX5.out.alloc (.cells #[] 75)).drew).bel.size ?_; intro A7 n7 k7 w6 hown6 hg6; have HX6 := Lib.hid (((HX5.out.alloc (.cells #[] 75)).drew).grownK (K := rootK) (e := 75) (OwnK.empty w (heap_alloc_new w5 _) HX5.out.bel.size) (by simp) hg6); have HO6 := Lib.hid hown6; have HA6 := Lib.hid ((HO45.out.alloc (.cells #[] 75))); have HB6 := Lib.hid ((HO5.out.alloc (.cells #[] 75))); have HG6 := Lib.hid hg6; have y0 := HX6.out.get0 0 (v := .slice a1 n1 k1) rfl rfl; have y1 := HX6.out.get0 1 (v := .slice a2 n2 k2) rfl rfl; have y2 := HX6.out.get 1 0 (v := .slice a3 n3 k3) rfl rfl; have y3 := HX6.out.get 2 0 (v := .slice a4 n4 k4) rfl rfl; clear hown6 hg6) | (refine step_app_row elemRoot rfl (.tmp 32) (.tmp 34) rfl rfl rfl rfl HX6.out.bel HO6.out HP.out (by have := HLQ.out; have := HLP.out; simp; omega) HX6.out.bel.size ?_; intro A8 n8 k8 w7 hown7 hg7; have HX7 := Lib.hid (HX6.out.grownK HO6.out (by simp) hg7); have HO7 := Lib.hid hown7; have HG7 := Lib.hid hg7; have z0 := HX7.out.get0 0 (v := .slice a1 n1 k1) rfl rfl; have z1 := HX7.out.get0 1 (v := .slice a2 n2 k2) rfl rfl; have z2 := HX7.out.get 1 0 (v := .slice a3 n3 k3) rfl rfl; have z3 := HX7.out.get 2 0 (v := .slice a4 n4 k4) rfl rfl; clear hown7 hg7) | (refine step_app_row elemRoot rfl (.tmp 32) (.tmp 34) rfl rfl rfl rfl HX6.out.drew.bel HO6.out.drew HP.out (by have := HLQ.out; have := HLP.out; simp; omega) HX6.out.drew.bel.size ?_; intro A8 n8 k8 w7 hown7 hg7; have HX7 := Lib.hid (HX6.out.drew.grownK HO6.out.drew (by simp) hg7); have HO7 := Lib.hid hown7; have HG7 := Lib.hid hg7; have z0 := HX7.out.get0 0 (v := .slice a1 n1 k1) rfl rfl; have z1 := HX7.out.get0 1 (v := .slice a2 n2 k2) rfl rfl; have z2 := HX7.out.get 1 0 (v := .slice a3 n3 k3) rfl rfl; have z3 := HX7.out.get 2 0 (v := .slice a4 n4 k4) rfl rfl; clear hown7 hg7) | (go_at_call 30; refine (closure_any _ _ _ _ x (q ++ p) (HR.out.below HX7.out.bel (Nat.le_refl _)) (HO7.out.row HX7.out.bel) HL.out).mono ?_; rintro e w8 ⟨A9, n9, k9, rfl, hown8, hb8⟩; have HX8 := Lib.hid (HX7.out.step hb8); have HO8 := Lib.hid (hown8.base HX7.out.bel.size); have HB8 := Lib.hid hb8; have t0 := HX8.out.get0 0 (v := .slice a1 n1 k1) rfl rfl; have t1 := HX8.out.get0 1 (v := .slice a2 n2 k2) rfl rfl; have t2 := HX8.out.get 1 0 (v := .slice a3 n3 k3) rfl rfl; have t3 := HX8.out.get 2 0 (v := .slice a4 n4 k4) rfl rfl; clear hb8 hown8) | (go_at_call 30; refine (closure_any _ _ _ _ x (q ++ p) (HR.out.below HX7.out.drew.bel (Nat.le_refl _)) (HO7.out.drew.row HX7.out.drew.bel) HL.out).mono ?_; rintro e w8 ⟨A9, n9, k9, rfl, hown8, hb8⟩; have HX8 := Lib.hid (HX7.out.drew.step hb8); have HO8 := Lib.hid (hown8.base HX7.out.drew.bel.size); have HB8 := Lib.hid hb8; have t0 := HX8.out.get0 0 (v := .slice a1 n1 k1) rfl rfl; have t1 := HX8.out.get0 1 (v := .slice a2 n2 k2) rfl rfl; have t2 := HX8.out.get 1 0 (v := .slice a3 n3 k3) rfl rfl; have t3 := HX8.out.get 2 0 (v := .slice a4 n4 k4) rfl rfl; clear hb8 hown8)))
        have ha6 := HA6.out.drew.keptK (OwnK.empty (K := rootK) (e := 75) w (base := w.heap.size) (heap_alloc_new w5 _) HX5.out.bel.size) (by decide) HG6.out
        have hb6 := HB6.out.drew.keptK (OwnK.empty (K := rootK) (e := 75) w (base := w.heap.size) (heap_alloc_new w5 _) HX5.out.bel.size) (by decide) HG6.out
        have HA8 := Lib.hid (rowI (((ha6.keptK HO6.out (by decide) HG7.out)).below HB8.out) HL.out)
        have HB8' := Lib.hid (rowI (((hb6.keptK HO6.out (by decide) HG7.out)).below HB8.out) HL.out)
        have HC8 := Lib.hid (rowI HO8.out HL.out)
        have hna := HA8.out.len
        have hnb := HB8'.out.len
        have hnc := HC8.out.len
        have hle1 : n5 ≤ n9 := by rw [hna, hnc]; exact close_le fun t h => h.mono fun r hr => List.mem_append.2 (.inl hr)
        have hle2 : n6 ≤ n9 := by rw [hnb, hnc]; exact close_le fun t h => h.mono fun r hr => List.mem_append.2 (.inr hr)
        have hn1 : n1 ≤ 1000 := by have := HR.out.pkgs.len; have := HL.out; omega
        clear ha6 hb6 HA6 HB6 HG6 HG7 HB8 HO8 HO7 HO6 HX7 HX6 HX5 HO5 HO45 hna hnb hnc y0 y1 y2 y3 z0 z1 z2 z3 u0 u1 u2 u3
        go_wp2
        go_loopw [41, 10] (fun i _ wr => wr = w8 ∧ ∃ k : Nat, k ≤ n1 ∧ i = .int .i64 k) (fun i _ _ => n1 - (RowKit.intOf i).toNat)
        case atStart => exact ⟨rfl, 0, Nat.zero_le _, rfl⟩
        case round =>
          obtain ⟨rfl, k, hk, rfl⟩ := hrel
          by_cases hlt : k < n1
          · obtain ⟨ba, hba⟩ : ∃ ba, decide ((k : Int) ∈ closeL x q) = ba := ⟨_, rfl⟩
            obtain ⟨bb, hbb⟩ : ∃ bb, decide ((k : Int) ∈ closeL x p) = bb := ⟨_, rfl⟩
            have hbc := close_both x q p (k : Int)
            rw [hba, hbb] at hbc
            have HBA := Lib.hid hba
            have HBB := Lib.hid hbb
            have HBC := Lib.hid hbc
            clear hba hbb hbc
            go_wp2_with fail
            refine (has10_is _ _ _ _ HC8.out _ HBC.out).mono ?_
            rintro e w9 ⟨rfl, rfl⟩
            go_wp2_with fail
            refine (has10_is _ _ _ _ HA8.out _ HBA.out).mono ?_
            rintro e w9 ⟨rfl, rfl⟩
            cases ba with
            | true =>
              go_wp2
              go_roundw
              case rel => exact ⟨by trivial, k + 1, by omega, by go_num⟩
              case measure => simp [RowKit.intOf]; omega
            | false =>
              go_wp2_with fail
              refine (has10_is _ _ _ _ HB8'.out _ HBB.out).mono ?_
              rintro e w9 ⟨rfl, rfl⟩
              go_wp2
              go_roundw
              case rel => exact ⟨by trivial, k + 1, by omega, by go_num⟩
              case measure => simp [RowKit.intOf]; omega
          · obtain rfl : k = n1 := by omega
            go_wp2_with fail
            refine (fixed10_any _).mono ?_
            rintro e w9 ⟨rfl, hb⟩
            have HB := Lib.hid (HX8.out.bel.trans (hb.mono HX8.out.bel.size))
            clear hb
            go_wp2
            go_ret
            exact ⟨rfl, HB.out⟩
theorem needsMore_w (cs : List Value) (x : Rec) (ds : List Value) (q : List Root) (es : List Value) (p : List Root) (w : World) (h : recK.is w cs x) (hq : reqK.is w ds q) (hp : reqK.is w es p) :
    Calls Try.prog 7 #[.agg cs.toArray, .agg ds.toArray, .agg es.toArray] w fun e w' => e = .returned (.bool true) ∧ Below w.heap.size w w' := by
  obtain ⟨v1, v2, rfl, h⟩ := h
  obtain ⟨v3, rfl, hq⟩ := hq
  obtain ⟨v4, rfl, hp⟩ := hp
  exact needsMore_any w v1 v2 v3 v4 x q p h hq hp
end Go.Proofs.Ytggejmojbebhfaa.Rc
